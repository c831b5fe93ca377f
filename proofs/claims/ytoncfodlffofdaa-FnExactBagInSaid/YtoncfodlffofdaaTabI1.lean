/- Contracts of the program's nameOk, fitsTable and TableOk: what each returns; nothing that lay has turned. -/
import Derived.Test.YtoncfodlffofdaaTab2
import Derived.Test.YtoncfodlffofdaaIter1
namespace Go.Proofs.Ytoncfodlffofdaa
open Go.RowKit Go.Shelf
attribute [local go_sem] Oper.semAt_some

theorem name_short {s : ByteArray} (h : inB (s.size : Int) 1 6 = false) : nameB s = false := by unfold nameB; rw [h, Bool.and_false]
set_option maxRecDepth 100000 in
set_option maxHeartbeats 1000000 in
theorem nameOk_any (s : ByteArray) (w : World) (hl : s.size ≤ 1099511627776) :
    Calls Try.prog 130 #[.string s] w fun e w' => e = .returned (.bool (nameB s)) ∧ w = w' := by
  by_cases h0 : s.size < 1
  · have HF := Lib.hid (name_short (s := s) (by unfold inB; rw [decide_eq_false (p := (1 : Int) ≤ (s.size : Int)) (by omega)]; rfl))
    have h0' : (s.size : Int) < 1 := by omega
    go_enter Try.func130, Try.ntmps130
    go_wp2
    go_ret
    exact ⟨by rw [HF.out]; rfl, rfl⟩
  by_cases h6 : 6 < s.size
  · have HF := Lib.hid (name_short (s := s) (by unfold inB; rw [decide_eq_false (p := (s.size : Int) ≤ 6) (by omega), Bool.and_false]))
    have h6' : (6 : Int) < (s.size : Int) := by omega
    have d0 : decide ((s.size : Int) < 1) = false := by simp; omega
    go_enter Try.func130, Try.ntmps130
    go_wp2
    go_ret
    exact ⟨by rw [HF.out]; rfl, rfl⟩
  have d0 : decide ((s.size : Int) < 1) = false := by simp; omega
  have d6 : decide ((6 : Int) < (s.size : Int)) = false := by simp; omega
  have HIN := Lib.hid (show inB (s.size : Int) 1 6 = true by unfold inB; rw [decide_eq_true (by omega), decide_eq_true (by omega)]; rfl)
  go_enter Try.func130, Try.ntmps130
  go_wp2
  go_loop [14] (fun i => ∃ k : Nat, k ≤ s.size ∧ i = .int .i64 k ∧ (s.data.toList.take k).all azB = true) (fun i => s.size - (intOf i).toNat)
  case atStart => exact ⟨0, Nat.zero_le _, rfl, rfl⟩
  case round =>
    obtain ⟨k, hk, rfl, ht⟩ := hrel
    have HT := Lib.hid ht
    clear ht
    by_cases hlt : k < s.size
    · by_cases h1 : ((s[k].toNat : Nat) : Int) < 97
      · have HF := Lib.hid (name_no hlt (by unfold azB; rw [decide_eq_false (by omega)]; rfl))
        go_wp2
        go_ret
        exact ⟨by rw [HF.out]; rfl, rfl⟩
      · have d1 : decide (((s[k].toNat : Nat) : Int) < 97) = false := decide_eq_false h1
        by_cases h2 : 122 < ((s[k].toNat : Nat) : Int)
        · have HF := Lib.hid (name_no hlt (by unfold azB; rw [decide_eq_false (p := s[k].toNat ≤ 122) (by omega), Bool.and_false]))
          go_wp2
          go_ret
          exact ⟨by rw [HF.out]; rfl, rfl⟩
        · have d2 : decide (122 < ((s[k].toNat : Nat) : Int)) = false := decide_eq_false h2
          have HS := Lib.hid (show (s.data.toList.take (k + 1)).all azB = true by
            rw [name_step hlt, HT.out]
            unfold azB
            rw [decide_eq_true (by omega), decide_eq_true (by omega)]; rfl)
          go_wp2
          go_round
          case rel => exact ⟨k + 1, by omega, by go_num, HS.out⟩
          case measure => simp [intOf]; omega
    · have hd : decide (k < s.size) = false := by simpa using hlt
      have HS := Lib.hid (show nameB s = true by
        unfold nameB
        have := HT.out
        rw [List.take_of_length_le (by rw [Array.length_toList]; show s.data.size ≤ k; have : s.size = s.data.size := rfl; omega)] at this
        rw [this, HIN.out]; rfl)
      go_wp2
      go_ret
      exact ⟨by rw [HS.out]; rfl, rfl⟩

theorem in1000_no {x : Int} (h : x < -1000 ∨ 1000 < x) : inB x (-1000) 1000 = false := by
  unfold inB
  rcases h with h | h
  · rw [decide_eq_false (by omega : ¬ (-1000 : Int) ≤ x)]; rfl
  · rw [decide_eq_false (by omega : ¬ x ≤ (1000 : Int))]; simp
theorem in1000_yes {x : Int} (h1 : ¬ x < -1000) (h2 : ¬ 1000 < x) : inB x (-1000) 1000 = true := by
  unfold inB
  rw [decide_eq_true (by omega : (-1000 : Int) ≤ x), decide_eq_true (by omega : x ≤ (1000 : Int))]; rfl
theorem fit_true {wd : Int} {zs : List Int} (h : ∀ y ∈ zs, inB y (-1000) 1000 = true) (hl : (zs.length : Int) = wd) : rowFit wd zs = true := by
  unfold rowFit
  rw [List.all_eq_true.2 h, decide_eq_true hl]; rfl
theorem fit_false {wd : Int} {zs : List Int} {y : Int} (hy : y ∈ zs) (h : inB y (-1000) 1000 = false) : rowFit wd zs = false := by
  unfold rowFit
  rw [List.all_eq_false.2 ⟨y, hy, by simp [h]⟩]; rfl
theorem fit_other {wd : Int} {zs : List Int} (hl : ¬ (zs.length : Int) = wd) : rowFit wd zs = false := by
  unfold rowFit
  rw [decide_eq_false hl, Bool.and_false]

set_option maxRecDepth 100000 in
set_option maxHeartbeats 2000000 in
theorem fits_in (F : Fence) (n : Nat) (h4 : F.fn 123) (h5 : F.fn 132) (h6 : F.fn 150) (hro : F.round = none) (hn : 3 ≤ n) (A : Option Addr) (cap : Nat) (zs : List Int) (wd : Int) (hw : (zs.length : Int) = wd) (hl : zs.length ≤ 1099511627776) (w : World) (hI : Ints w w.heap.size A zs) :
    CallsIn F n Try.prog 123 #[.slice A zs.length cap, .int .i64 wd] w fun e W' => e = .returned (.bool (rowFit wd zs)) ∧ Below w.heap.size w W' := by
  have h1 : 1 ≤ n := by omega
  have hd6 : ((zs.length : Int) != wd) = false := by simp [hw]
  have HW := Lib.hid hw
  clear hw
  refine callsIn_of_wp_marks Try.func123 rfl h4 ?_ hro
  simp only [Try.ntmps123, List.size_toArray, List.length_cons, List.length_nil, Nat.reduceAdd, Nat.reduceSub, Array.replicate_succ, Array.replicate_zero, List.push_toArray, List.append_toArray, List.nil_append, List.cons_append]
  gi_wp2_with (gi_at_call 132; refine (cells_in F (n - 1) h5 hro _ _ _ _).mono ?_; rintro e w' ⟨rfl, rfl⟩)
  have bR := Boxed.new w 4 (.bool false)
  have bN := Boxed.new (w.alloc (.cells #[.bool false] 4)) 25 (.slice A zs.length cap)
  rw [World.size_alloc] at bN
  have hB0 : Below w.heap.size w ((w.alloc (.cells #[.bool false] 4)).alloc (.cells #[.slice A zs.length cap] 25)) := ((Below.refl _ w).alloc (Nat.le_refl _) _).alloc (by simp) _
  refine wpIn_rangeFunc_ownG hro h1 (gf := 150) (lb := #[.pointer (some ⟨w.heap.size + 1, 0, none⟩)]) rfl h6 (enters_of Try.func150 (by kernel_rfl) rfl)
    (cells_stops F (n - 1) h6 hro (by omega) (w.heap.size + 1) w.heap.size A cap zs hl _ (by simp) (by simp; omega) bN.cell (hI.below hB0)) belowK_t (belowK_b (by simp; omega)) (Below.refl _ _) (fun _ => rfl)
    (fun pre W => ((∀ y ∈ pre, inB y (-1000) 1000 = true) ∧ W.cell? ⟨w.heap.size, 0, none⟩ = some (.bool false) ∧ W.frozen? ⟨w.heap.size, 0, none⟩ = false) ∧ Below w.heap.size w W)
    (fun c pre W => (c = .ret ∧ (∃ y ∈ pre, inB y (-1000) 1000 = false) ∧ W.cell? ⟨w.heap.size, 0, none⟩ = some (.bool false)) ∧ Below w.heap.size w W)
    (OwnFrom.and (Own.from (fun s A B row hs hg hr => ⟨hs.1, cell_kept hs.2.1 hg hr, (frozen_kept hs.2.1 hg hr).trans hs.2.2⟩) _) (ownFrom_below (Nat.le_refl _) (by simp; omega)))
    (fun c => OwnFrom.and (Own.from (fun s A B row hs hg hr => ⟨hs.1, hs.2.1, cell_kept hs.2.2 hg hr⟩) _) (ownFrom_below (Nat.le_refl _) (by simp; omega)))
    ⟨⟨by simp, (bR.alloc _).cell, (bR.alloc _).frozen⟩, hB0⟩
    (fun x => { tmps := #[.slice A zs.length cap, .int .i64 wd, undef, undef, .pointer (some ⟨w.heap.size, 0, none⟩), .int .i64 x, .slice A zs.length cap, .int .i64 zs.length, .int .i64 wd, .bool false, .slice A zs.length cap, .func (.func 150) #[] #[.pointer (some ⟨w.heap.size + 1, 0, none⟩)], .int .i64 x, undef, undef, undef, undef, undef, undef], defers := [] }) ?assign ?body ?done ?stop
  case assign =>
    intro l x W K hK
    gi_wp2
    exact hK
  case body =>
    rintro l pre x W ⟨⟨hp, hcr, hfr⟩, hB⟩ _
    have HP := Lib.hid hp
    clear hp
    by_cases hx1 : x < -1000
    · gi_wp2
      exact ⟨(KeepsOthers.setCell _ _ _).from _, ⟨rfl, ⟨x, List.mem_append.2 (.inr (by simp)), in1000_no (.inl hx1)⟩, World.cell?_setCell_same' _ _ _ (by rw [hcr]; rfl)⟩, hB.setCell (p := ⟨w.heap.size, 0, none⟩) (Nat.le_refl _) _⟩
    · by_cases hx2 : 1000 < x
      · gi_wp2
        exact ⟨(KeepsOthers.setCell _ _ _).from _, ⟨rfl, ⟨x, List.mem_append.2 (.inr (by simp)), in1000_no (.inr hx2)⟩, World.cell?_setCell_same' _ _ _ (by rw [hcr]; rfl)⟩, hB.setCell (p := ⟨w.heap.size, 0, none⟩) (Nat.le_refl _) _⟩
      · gi_wp2
        exact ⟨KeepsFrom.refl _ _, Below.refl _ _, ⟨fun y hy => (List.mem_append.1 hy).elim (HP.out y) (fun e => by simp at e; subst e; exact in1000_yes (by omega) (by omega)), hcr, hfr⟩, hB⟩
  case done =>
    rintro D ys W hD rfl ⟨⟨hne, hcr, hfr⟩, hB⟩ hK
    have HNE := Lib.hid hne
    clear hne
    gi_wp2
    have hK' := (KeepsOthers.setCell W ⟨w.heap.size, 0, none⟩ (.bool true)).same D _ hK rfl
    refine ⟨by simp, .inl ⟨_, _, rfl, run_takeDeferred hK', ?_⟩⟩
    have hc5 := cell_kept (World.cell?_setCell_same' W ⟨w.heap.size, 0, none⟩ (.bool true) (by rw [hcr]; rfl)) (grownBy_putObj' _ D (.deferred none)) (fun r e => by cases e; exact ⟨_, hK', rfl⟩)
    refine ⟨.bool true, ?_, by rw [fit_true HNE.out HW.out], (hB.setCell (p := ⟨w.heap.size, 0, none⟩) (Nat.le_refl _) _).trans (belowK_b (w := w) (Nat.le_refl _) _ D _ _ (by simp at hD; omega) hK' rfl rfl)⟩
    simp [results, Try.f123, go_sem, hc5]
  case stop =>
    rintro D c pre W hD hpre ⟨⟨rfl, ⟨y, hy, hyf⟩, hcr⟩, hB⟩ hK
    have HY := Lib.hid hyf
    clear hyf
    gi_wp2
    refine ⟨by simp, .inl ⟨_, _, rfl, run_takeDeferred hK, ?_⟩⟩
    have hc5 := cell_kept hcr (grownBy_putObj' _ D (.deferred none)) (fun r e => by cases e; exact ⟨_, hK, rfl⟩)
    refine ⟨.bool false, ?_, by rw [fit_false (hpre.subset hy) HY.out], hB.trans (belowK_b (w := w) (Nat.le_refl _) W D _ _ (by simp at hD; omega) hK rfl rfl)⟩
    simp [results, Try.f123, go_sem, hc5]

set_option maxHeartbeats 1000000 in
theorem fits_other (A : Option Addr) (cap : Nat) (zs : List Int) (wd : Int) (hw : ¬ (zs.length : Int) = wd) (_hl2 : zs.length ≤ 1099511627776) (w : World) :
    Calls Try.prog 123 #[.slice A zs.length cap, .int .i64 wd] w fun e W' => e = .returned (.bool (rowFit wd zs)) ∧ Below w.heap.size w W' := by
  have h6 : ((zs.length : Int) != wd) = true := by simp [hw]
  go_enter Try.func123, Try.ntmps123
  go_wp2
  exact bodyPost_ret (v := .bool false) (by simp [results, Try.f123, go_sem]) rfl ⟨by rw [fit_other hw], ((Below.refl _ _).alloc (Nat.le_refl _) _)⟩

theorem fits_any (A : Option Addr) (cap : Nat) (zs : List Int) (wd : Int) (hl : zs.length ≤ 1099511627776) (w : World) (hI : Ints w w.heap.size A zs) :
    Calls Try.prog 123 #[.slice A zs.length cap, .int .i64 wd] w fun e W' => e = .returned (.bool (rowFit wd zs)) ∧ Below w.heap.size w W' := by
  by_cases h : (zs.length : Int) = wd
  · exact (callsIn_wide (n := 3)).1 (fits_in Fence.wide 3 trivial trivial trivial rfl (Nat.le_refl _) A cap zs wd h hl w hI)
  · exact fits_other A cap zs wd h hl w

set_option maxRecDepth 100000 in
set_option maxHeartbeats 4000000 in
theorem implTableOk_any (s : ByteArray) (wd : Int) (A : Option Addr) (c : Nat) (rows : List (List Int)) (w : World) (hR : Rws w w.heap.size A rows) (hs : s.size ≤ 1099511627776) (hl : rows.length ≤ 1099511627776) :
    Calls Try.prog 61 #[.agg #[.string s, .int .i64 wd, .slice A rows.length c]] w fun e w' => e = .returned (.bool (tabB s wd rows)) ∧ Below w.heap.size w w' := by
  have bc := (Below.refl w.heap.size w).alloc (Nat.le_refl _) (.cells #[.string s, .int .i64 wd, .slice A rows.length c] 44)
  have BC := Blk.new w 44 #[.string s, .int .i64 wd, .slice A rows.length c]
  go_enter Try.func61, Try.ntmps61
  go_wp2_with fail
  generalize w.alloc (.cells #[.string s, .int .i64 wd, .slice A rows.length c] 44) = wb at *
  generalize hG : w.heap.size = G at *
  have HG := Lib.hid hG
  clear hG
  have d1 := BC.cell 1
  have d2 := BC.cell 2
  simp only [List.getElem?_toArray, List.getElem?_cons_zero, List.getElem?_cons_succ] at d1 d2
  refine (nameOk_any s wb hs).mono ?_
  rintro e w1 ⟨rfl, rfl⟩
  cases hn : nameB s with
  | false =>
    have HF := Lib.hid (show tabB s wd rows = false by unfold tabB; rw [hn]; rfl)
    clear hn
    go_wp2
    go_ret
    exact ⟨by rw [HF.out]; rfl, by rw [HG.out]; exact bc⟩
  | true =>
    have HT := Lib.hid (show tabB s wd rows = rowsOkB wd rows by unfold tabB; rw [hn]; rfl)
    clear hn
    by_cases hw1 : wd < 1
    · have HF := Lib.hid (show tabB s wd rows = false by rw [HT.out]; unfold rowsOkB inB; rw [decide_eq_false (p := (1 : Int) ≤ wd) (by omega)]; rfl)
      go_wp2
      go_ret
      exact ⟨by rw [HF.out]; rfl, by rw [HG.out]; exact bc⟩
    have dw1 := decide_eq_false hw1
    by_cases hw4 : 4 < wd
    · have HF := Lib.hid (show tabB s wd rows = false by rw [HT.out]; unfold rowsOkB inB; rw [decide_eq_false (p := wd ≤ (4 : Int)) (by omega), Bool.and_false]; rfl)
      go_wp2
      go_ret
      exact ⟨by rw [HF.out]; rfl, by rw [HG.out]; exact bc⟩
    have dw4 := decide_eq_false hw4
    have HW := Lib.hid (show inB wd 1 4 = true by unfold inB; rw [decide_eq_true (by omega), decide_eq_true (by omega)]; rfl)
    by_cases hm : 30 < rows.length
    · have HF := Lib.hid (show tabB s wd rows = false by rw [HT.out]; unfold rowsOkB; rw [decide_eq_false (p := rows.length ≤ 30) (by omega)]; simp)
      have hm' : (30 : Int) < (rows.length : Int) := by omega
      go_wp2
      go_ret
      exact ⟨by rw [HF.out]; rfl, by rw [HG.out]; exact bc⟩
    have hdm : decide ((30 : Int) < (rows.length : Int)) = false := by simp; omega
    have hm30 : rows.length ≤ 30 := by omega
    have HR := Lib.hid (show tabB s wd rows = tFrom wd none rows by rw [HT.out]; unfold rowsOkB; rw [HW.out, decide_eq_true (by omega)]; rfl)
    clear HT hm
    go_wp2
    clear dw1 dw4 hdm hw1 hw4 d1 d2
    go_loopw [28] (fun i wr => ∃ k : Nat, k ≤ rows.length ∧ i = .int .i64 k ∧ tFrom wd none rows = tFrom wd (prevK rows k) (rows.drop k) ∧ (∀ j, j < k → rowFit wd (rr rows j) = true) ∧ Blk wr G 44 #[.string s, .int .i64 wd, .slice A rows.length c] ∧ Below G w wr) (fun i _ => rows.length - (intOf i).toNat)
    case atStart => exact ⟨0, Nat.zero_le _, rfl, rfl, (fun j hj => absurd hj (by omega)), BC, bc⟩
    case round =>
      clear BC bc
      obtain ⟨k, hk, rfl, ht, hfit, BG, hW⟩ := hrel
      have HTf := Lib.hid ht
      have HFit := Lib.hid hfit
      have g1 := BG.cell 1
      have g2 := BG.cell 2
      simp only [List.getElem?_toArray, List.getElem?_cons_zero, List.getElem?_cons_succ] at g1 g2
      have hGl := BG.lt
      clear ht hfit
      by_cases hlt : k < rows.length
      · obtain ⟨b, off, Ar, cap, rfl, hb, h1, h2, h3⟩ := (hR.below hW).here1 hlt
        have hk0 : (0 : Int) ≤ (k : Int) := Int.natCast_nonneg _
        have h2r := h2.more (show G ≤ wr.heap.size by omega)
        go_wp2_with fail
        refine (fits_any Ar cap (rr rows k) wd h3 wr h2r).mono ?_
        rintro e w1 ⟨rfl, hb1⟩
        have BG1 := BG.below hb1 hGl
        have hW1 : Below G w w1 := hW.trans (hb1.mono (by omega))
        have h2w : Ints w1 G Ar (rr rows k) := h2.below (hb1.mono (by omega))
        clear g1 g2 BG hW h1 h2 h2r hGl hb1
        cases hf : rowFit wd (rr rows k) with
        | false =>
          have HF := Lib.hid (show tabB s wd rows = false by rw [HR.out, HTf.out, tFrom_step hlt, hf]; rfl)
          clear hf
          go_wp2
          go_ret
          exact ⟨by rw [HF.out]; rfl, by rw [HG.out]; exact hW1⟩
        | true =>
          have HI := Lib.hid hf
          have hp := fit_pos hf HW.out
          clear hf
          have g2 := BG1.cell 2
          simp only [List.getElem?_toArray, List.getElem?_cons_zero, List.getElem?_cons_succ] at g2
          obtain ⟨b1, o1, rfl, _, c1⟩ := h2w.first hp
          obtain ⟨_, _, hAe, _, hcAll⟩ := (hR.below hW1) (by omega)
          cases hAe
          have HC := Lib.hid hcAll
          clear hcAll h2w
          by_cases h0 : 0 < k
          · obtain ⟨k0, hk0'⟩ : ∃ k0 : Nat, k = k0 + 1 := ⟨k - 1, by omega⟩
            obtain ⟨Ap, cp, p1, p2, p3⟩ := HC.out k0 (by omega)
            have hpp := fit_pos (HFit.out k0 (by omega)) HW.out
            obtain ⟨b2, o2, rfl, _, c2⟩ := p2.first hpp
            have hwr : IntKind.i64.wrap ((k : Int) - 1) = (k0 : Int) := by rw [IntKind.wrap_i64]; omega
            have hk0l : k0 < rows.length := by omega
            have HPR := Lib.hid (show prevK rows k = some (ky (rr rows k0)) by rw [hk0']; rfl)
            clear hk0'
            by_cases hle : ky (rr rows k) ≤ ky (rr rows k0)
            · have HF := Lib.hid (show tabB s wd rows = false by rw [HR.out, HTf.out, tFrom_step hlt, HPR.out]; simp only; rw [decide_eq_false (by omega), Bool.and_false]; rfl)
              have hd := decide_eq_true hle
              clear hle
              go_wp2
              go_quiet (fail)
              go_wp2
              go_ret
              exact ⟨by rw [HF.out]; rfl, by rw [HG.out]; exact bel_drewN hW1 _⟩
            · have HS := Lib.hid (show tFrom wd none rows = tFrom wd (prevK rows (k + 1)) (rows.drop (k + 1)) by rw [HTf.out, tFrom_step hlt, HPR.out, HI.out]; simp only; rw [decide_eq_true (by omega)]; rfl)
              have hd := decide_eq_false hle
              clear hle
              go_wp2
              go_quiet (fail)
              go_wp2
              go_roundw
              case rel => exact ⟨k + 1, by omega, by go_num, HS.out, (fun j hj => by
                by_cases e : j = k
                · rw [e]; exact HI.out
                · exact HFit.out j (by omega)), BG1.drewN _, bel_drewN hW1 _⟩
              case measure => simp [intOf]; omega
          · have hd0 : decide (0 < k) = false := by simpa using h0
            have HS := Lib.hid (show tFrom wd none rows = tFrom wd (prevK rows (k + 1)) (rows.drop (k + 1)) by
              have e0 : prevK rows k = none := by rw [show k = 0 by omega]; rfl
              rw [HTf.out, tFrom_step hlt, e0, HI.out]; rfl)
            have H0 := Lib.hid h0
            clear h0
            go_wp2
            go_quiet (fail)
            go_wp2
            go_roundw
            case rel => exact ⟨k + 1, by omega, by go_num, HS.out, (fun j hj => by
              by_cases e : j = k
              · rw [e]; exact HI.out
              · exact HFit.out j (by omega)), BG1.drewN _, bel_drewN hW1 _⟩
            case measure => simp [intOf]; omega
      · have hd : decide (k < rows.length) = false := by simpa using hlt
        have HF := Lib.hid (show tabB s wd rows = true by
          rw [HR.out, HTf.out, List.drop_of_length_le (by omega)]
          cases prevK rows k <;> rfl)
        go_wp2
        go_ret
        exact ⟨by rw [HF.out]; rfl, by rw [HG.out]; exact hW⟩
end Go.Proofs.Ytoncfodlffofdaa
