/- Contracts of slices.IndexFunc and slices.DeleteFunc over counts, as they are translated, with the program's closure that tells counts of 0: what is left stands in order in the same block. For lists of at most 2^40. -/
import Derived.Test.YtcfnbpofbcendabTog0
namespace Go.Proofs.Ytcfnbpofbcendab
open Go.RowKit

set_option maxHeartbeats 1000000 in
theorem isNone_any (A : Option Addr) (l c : Nat) (n : Int) (w : World) :
    Calls Try.prog 52 #[.agg #[.slice A l c, .int .i64 n]] w fun e w' => e = .returned (.bool (n == 0)) ∧ Below w.heap.size w w' := by
  have b1 := (Below.refl w.heap.size w).alloc (Nat.le_refl _) (.cells #[.slice A l c, .int .i64 n] 33)
  go_enter Try.func52, Try.ntmps52
  go_wp2
  go_ret
  exact ⟨rfl, b1⟩
theorem isNone_yes (A : Option Addr) (l c : Nat) (n : Int) (w : World) (h : n = 0) :
    Calls Try.prog 52 #[.agg #[.slice A l c, .int .i64 n]] w fun e w' => e = .returned (.bool true) ∧ Below w.heap.size w w' := by
  have := isNone_any A l c n w
  rwa [beq_iff_eq.2 h] at this
theorem isNone_no (A : Option Addr) (l c : Nat) (n : Int) (w : World) (h : ¬ n = 0) :
    Calls Try.prog 52 #[.agg #[.slice A l c, .int .i64 n]] w fun e w' => e = .returned (.bool false) ∧ Below w.heap.size w w' := by
  have := isNone_any A l c n w
  rwa [beq_eq_false_iff_ne.2 h] at this
theorem en_eq {es : List Ent} {i : Nat} (h : i < es.length) : (ex es i).n = es[i].n := by rw [ex_eq h]
set_option maxRecDepth 100000 in
set_option maxHeartbeats 1000000 in
theorem indexNone_any (lo hi g cap : Nat) (es : List Ent) (w : World) (h : HC w lo hi g cap es) (hl : es.length ≤ 1099511627776) :
    Calls Try.prog 56 #[.slice (some ⟨g, 0, none⟩) es.length cap, .func (.func 52) #[] #[]] w fun e w' => (∃ x : Int, e = .returned (.int .i64 x) ∧ ((x = -1 ∧ ∀ j, j < es.length → (ex es j).n ≠ 0) ∨ ∃ k : Nat, x = k ∧ k < es.length ∧ (ex es k).n = 0 ∧ ∀ j, j < k → (ex es j).n ≠ 0)) ∧ Below w.heap.size w w' := by
  go_enter Try.func56, Try.ntmps56
  go_wp2
  go_loopw [8] (fun i wr => ∃ k : Nat, k ≤ es.length ∧ i = .int .i64 k ∧ (∀ j, j < k → (ex es j).n ≠ 0) ∧ Below w.heap.size w wr) (fun i _ => es.length - (intOf i).toNat)
  case atStart => exact ⟨0, Nat.zero_le _, rfl, fun j hj => absurd hj (by omega), Below.refl _ _⟩
  case round =>
    obtain ⟨k, hk, rfl, hj, hW⟩ := hrel
    have HJ := Lib.hid hj
    clear hj
    by_cases hlt : k < es.length
    · obtain ⟨c0, c1, _, _⟩ := (h.on hW).cells hlt
      have hk0 : (0 : Int) ≤ (k : Int) := Int.natCast_nonneg _
      have hk1 : (k : Int) < (es.length : Int) := by omega
      by_cases hn : (ex es k).n = 0
      · have HN := Lib.hid hn
        clear hn
        go_wp2_with fail
        go_at_call 52
        refine (isNone_yes _ _ _ _ _ HN.out).mono ?_
        rintro e w1 ⟨rfl, hb1⟩
        have hW2 := bel_step hW hb1
        go_wp2
        go_ret
        exact ⟨⟨_, rfl, .inr ⟨k, rfl, hlt, HN.out, HJ.out⟩⟩, hW2⟩
      · have HN := Lib.hid hn
        clear hn
        go_wp2_with fail
        go_at_call 52
        refine (isNone_no _ _ _ _ _ HN.out).mono ?_
        rintro e w1 ⟨rfl, hb1⟩
        have hW2 := bel_step hW hb1
        go_wp2
        go_roundw
        case rel => exact ⟨k + 1, by omega, by go_num, fun j hj => by
          by_cases e : j = k
          · rw [e]; exact HN.out
          · exact HJ.out j (by omega), hW2⟩
        case measure => simp [intOf]; omega
    · have hd : decide (k < es.length) = false := by simpa using hlt
      go_wp2
      go_ret
      exact ⟨⟨_, rfl, .inl ⟨rfl, fun j hj => HJ.out j (by omega)⟩⟩, hW⟩

def keptE (e : Ent) : Bool := !decide (e.n = 0)
theorem keptE_pair (es : List Ent) : (es.filter keptE).map Ent.pair = (es.map Ent.pair).filter fun p => !decide (p.2 = 0) := by
  induction es with
  | nil => rfl
  | cons e es ih =>
    by_cases h : e.n = 0
    · rw [List.filter_cons_of_neg (by simp [keptE, h]), List.map_cons, List.filter_cons_of_neg (by simp [Ent.pair, h]), ih]
    · rw [List.filter_cons_of_pos (by simp [keptE, h]), List.map_cons, List.map_cons, List.filter_cons_of_pos (by simp [Ent.pair, h]), ih]
theorem bel_grown {w w' : World} {g : Nat} (hb : Below w.heap.size w w') : w.grownBy w' (some g) := ⟨hb.os, hb.tape, hb.output, hb.size, fun b h _ => hb.block b h⟩
/-- The list while counts of 0 are left out: i are kept, j are looked at. -/
def DelAt (bs cs : List Ent) (i j : Nat) : Prop := cs.length = bs.length ∧ i < j ∧ j ≤ bs.length ∧ cs.take i = (bs.take j).filter keptE ∧ cs.drop j = bs.drop j
theorem DelAt.start {bs : List Ent} {k : Nat} (hk : k < bs.length) (h0 : (ex bs k).n = 0) (h1 : ∀ j, j < k → (ex bs j).n ≠ 0) : DelAt bs bs k (k + 1) := by
  refine ⟨rfl, by omega, by omega, ?_, rfl⟩
  rw [List.take_succ_eq_append_getElem hk, List.filter_append, List.filter_cons_of_neg (by rw [en_eq hk] at h0; simp [keptE, h0]), List.filter_nil, List.append_nil]
  refine (List.filter_eq_self.2 fun e he => ?_).symm
  obtain ⟨j, hj, rfl⟩ := List.getElem_of_mem he
  rw [List.length_take] at hj
  have := h1 j (by omega)
  rw [en_eq (by omega)] at this
  simp [keptE, this]
theorem DelAt.here {bs cs : List Ent} {i j : Nat} (h : DelAt bs cs i j) : ex cs j = ex bs j := by
  have := congrArg (fun l => l[0]?) h.2.2.2.2
  simp only [List.getElem?_drop, Nat.add_zero] at this
  unfold ex; rw [this]
theorem DelAt.skip {bs cs : List Ent} {i j : Nat} (h : DelAt bs cs i j) (hj : j < bs.length) (h0 : (ex bs j).n = 0) : DelAt bs cs i (j + 1) := by
  obtain ⟨h1, h2, h3, h4, h5⟩ := h
  refine ⟨h1, by omega, by omega, ?_, by rw [← List.drop_drop, ← List.drop_drop, h5]⟩
  rw [h4, List.take_succ_eq_append_getElem hj, List.filter_append, List.filter_cons_of_neg (by rw [en_eq hj] at h0; simp [keptE, h0]), List.filter_nil, List.append_nil]
theorem DelAt.keep {bs cs : List Ent} {i j : Nat} (h : DelAt bs cs i j) (hj : j < bs.length) (h0 : ¬ (ex bs j).n = 0) : DelAt bs (cs.set i (ex bs j)) (i + 1) (j + 1) := by
  obtain ⟨h1, h2, h3, h4, h5⟩ := h
  have hi : i < (cs.set i (ex bs j)).length := by rw [List.length_set]; omega
  refine ⟨by rw [List.length_set, h1], by omega, by omega, ?_, ?_⟩
  · rw [List.take_succ_eq_append_getElem hi, List.getElem_set_self, List.take_set_of_le (Nat.le_refl _), h4, List.take_succ_eq_append_getElem hj, List.filter_append, List.filter_cons_of_pos (by rw [en_eq hj] at h0; simp [keptE, h0]), List.filter_nil, ex_eq hj]
  · rw [List.drop_set_of_lt (by omega), ← List.drop_drop, ← List.drop_drop, h5]
theorem DelAt.len {bs cs : List Ent} {i : Nat} (h : DelAt bs cs i bs.length) : i = (bs.filter keptE).length := by
  have := congrArg List.length h.2.2.2.1
  rw [List.length_take, List.take_of_length_le (Nat.le_refl _), h.1] at this
  have := h.2.1
  omega
/-- What is left, an own bag again. -/
theorem OB.left {w w' : World} {lo hi g cap : Nat} {bs cs : List Ent} (h : OB w lo g cap bs) (hg : w.grownBy w' (some g)) (hc : HC w' lo hi g cap (cs.take (bs.filter keptE).length)) (he : cs.take (bs.filter keptE).length = bs.filter keptE) : OB w' lo g cap (bs.filter keptE) := by
  rw [he] at hc
  refine ⟨hc.1, fun e hm => ?_, h.2.2.filter _⟩
  obtain ⟨h1, h2⟩ := h.2.1 e (List.mem_filter.1 hm).1
  exact ⟨h1.keepB fun hn => hg.block _ (h1.lt hn) (h2 hn).2, h2⟩
theorem OB.none {bs : List Ent} (h : ∀ j, j < bs.length → (ex bs j).n ≠ 0) : bs.filter keptE = bs := List.filter_eq_self.2 fun e he => by
  obtain ⟨j, hj, rfl⟩ := List.getElem_of_mem he
  have := h j hj
  rw [en_eq hj] at this
  simp [keptE, this]

set_option maxRecDepth 100000 in
set_option maxHeartbeats 4000000 in
theorem deleteNone_any (lo g cap : Nat) (bs : List Ent) (w : World) (h : OB w lo g cap bs) (hl : bs.length ≤ 1099511627776) (hr : ∀ e ∈ bs, e.r.length ≤ 1099511627776) :
    Calls Try.prog 51 #[.slice (some ⟨g, 0, none⟩) bs.length cap, .func (.func 52) #[] #[]] w fun e w' => e = .returned (.slice (some ⟨g, 0, none⟩) (bs.filter keptE).length cap) ∧ OB w' lo g cap (bs.filter keptE) ∧ w.grownBy w' (some g) := by
  have hHC := h.hc hr
  have hlo := hHC.lt
  have hcap : bs.length ≤ cap := hHC.parts.choose_spec.2.2.1
  have HO := Lib.hid h
  clear h hr
  go_enter Try.func51, Try.ntmps51
  go_wp2_with fail
  refine (indexNone_any lo w.heap.size g cap bs w hHC hl).mono ?_
  rintro e w1 ⟨⟨x, rfl, hx⟩, hb1⟩
  have hg1 : w.grownBy w1 (some g) := ⟨hb1.os, hb1.tape, hb1.output, hb1.size, fun b hb _ => hb1.block b hb⟩
  have hH1 := hHC.on hb1
  clear hHC hb1
  rcases hx with ⟨rfl, hx⟩ | ⟨k, rfl, hk, h0, hx⟩
  · have HX := Lib.hid (OB.none hx)
    clear hx
    go_wp2
    go_ret
    have hH2 := hH1
    refine ⟨by rw [HX.out]; rfl, ?_, hg1⟩
    refine OB.left HO.out hg1 (cs := bs) (hi := w.heap.size) ?_ ?_
    · rw [HX.out, List.take_of_length_le (Nat.le_refl _)]; exact hH2
    · rw [HX.out, List.take_of_length_le (Nat.le_refl _)]
  · have HD := Lib.hid (DelAt.start hk h0 hx)
    have hd1 : ((k : Int) == -1) = false := by rw [beq_eq_false_iff_ne]; omega
    clear h0 hx
    go_wp2
    go_loopw [5, 6] (fun si sj wr => ∃ (i j : Nat) (cs : List Ent), si = .int .i64 i ∧ sj = .int .i64 j ∧ DelAt bs cs i j ∧ HC wr lo w.heap.size g cap cs ∧ w.grownBy wr (some g)) (fun _ sj _ => bs.length - (intOf sj).toNat)
    case atStart => exact ⟨k, k + 1, bs, rfl, by go_num, HD.out, hH1, hg1⟩
    case round =>
      obtain ⟨i, j, cs, rfl, rfl, hD, hH, hG⟩ := hrel
      have hcl : cs.length = bs.length := hD.1
      have hij : i < j := hD.2.1
      have hjl : j ≤ bs.length := hD.2.2.1
      have HDA := Lib.hid hD
      have HCL := Lib.hid hcl
      clear hD hH1 hg1 HD
      by_cases hlt : j < bs.length
      · obtain ⟨c0, c1, _, _⟩ := hH.cells (i := j) (by omega)
        obtain ⟨_, _, f0, f1⟩ := hH.cells (i := i) (by omega)
        have hE := HDA.out.here
        rw [show kx cs j = kx bs j by unfold kx; rw [hE], hE] at c0
        rw [hE] at c1
        have hu := hH.2 cs[j] (List.getElem_mem (by omega))
        rw [← ex_eq, hE] at hu
        have hk0 : (0 : Int) ≤ (j : Int) := Int.natCast_nonneg _
        have hk1 : (j : Int) < (bs.length : Int) := by omega
        have hi0 : (0 : Int) ≤ (i : Int) := Int.natCast_nonneg _
        have hi1 : (i : Int) < (bs.length : Int) := by omega
        have bc := (Below.refl wr.heap.size wr).alloc (Nat.le_refl _) (.cells #[.slice (ex bs j).A (kx bs j).length (ex bs j).c, .int .i64 (ex bs j).n] 33)
        have BC := Blk.new wr 33 #[.slice (ex bs j).A (kx bs j).length (ex bs j).c, .int .i64 (ex bs j).n]
        have hHb := hH.on bc
        have hub := hu.1.on bc
        have hGb := grown_trans hG (bel_grown (g := g) bc)
        clear hcl
        by_cases hn : (ex bs j).n = 0
        · have HN := Lib.hid hn
          clear hn
          go_wp2_with fail
          go_at_call 52
          refine (isNone_yes _ _ _ _ _ HN.out).mono ?_
          rintro e w2 ⟨rfl, hb2⟩
          have hH2 := hHb.on hb2
          have hG2 := grown_trans hGb (bel_grown (g := g) hb2)
          clear hH hG hHb hub hGb bc BC hb2 c0 c1 f0 f1 hu hE
          go_wp2
          go_roundw
          case rel => exact ⟨i, j + 1, cs, rfl, by go_num, HDA.out.skip hlt HN.out, hH2, hG2⟩
          case measure => simp [intOf]; omega
        · have HN := Lib.hid hn
          clear hn
          go_wp2_with fail
          go_at_call 52
          refine (isNone_no _ _ _ _ _ HN.out).mono ?_
          rintro e w2 ⟨rfl, hb2⟩
          have hH2 := hHb.on hb2
          have hG2 := grown_trans hGb (bel_grown (g := g) hb2)
          have hu2 := hub.on hb2
          have BC2 := BC.on hb2
          have d0 := BC2.cell 0
          have d1 := BC2.cell 1
          simp only [List.getElem?_toArray, List.getElem?_cons_zero, List.getElem?_cons_succ] at d0 d1
          have hil : i < cs.length := by have := HCL.out; omega
          obtain ⟨e0, e1, f0, f1⟩ := hH2.cells (i := i) hil
          have hS := hH2.set hil (ex bs j) ⟨hu2, hu.2⟩
          have hS1 := grown_trans (grown_trans hG2 (grown_setCell w2 g (i * 2) (.slice (ex bs j).A (kx bs j).length (ex bs j).c))) (grown_setCell _ g (i * 2 + 1) (.int .i64 (ex bs j).n))
          have HS := Lib.hid hS
          have HS1 := Lib.hid hS1
          clear hH hG hHb hub hGb bc BC hb2 c0 c1 hu hu2 hE BC2 hH2 hG2 hS hS1 hil
          generalize hGG : wr.heap.size = GG at *
          clear hGG
          go_wp2
          go_roundw
          case rel => exact ⟨i + 1, j + 1, cs.set i (ex bs j), by go_num, by go_num, HDA.out.keep hlt HN.out, HS.out, HS1.out⟩
          case measure => simp [intOf]; omega
      · have hd : decide (j < bs.length) = false := by simpa using hlt
        obtain rfl : j = bs.length := by omega
        have hil : i ≤ cs.length := by omega
        have hcl : ∀ ty, (Builtin.clear_ #[24] ty #[.slice (some ⟨g, i * 2, none⟩) (bs.length - i) (cap - i)]).run Try.prog wr = .ok (.tuple #[]) (wr.setCells g (i * 2) (Builtin.zeroCells #[.slice none 0 0, .int .i64 0] (bs.length - i)).toList) :=
          fun ty => run_clear_counts wr g (i * 2) (bs.length - i) (cap - i) ty (by omega) (fun t ht => by
            have h2 : t % 2 = 0 ∨ t % 2 = 1 := by omega
            obtain ⟨e0, e1, f0, f1⟩ := hH.cells (i := i + t / 2) (by omega)
            rcases h2 with h2 | h2
            · rw [show i * 2 + t = (i + t / 2) * 2 by omega, e0]; rfl
            · rw [show i * 2 + t = (i + t / 2) * 2 + 1 by omega, e1]; rfl) (fun t ht => by
            have h2 : t % 2 = 0 ∨ t % 2 = 1 := by omega
            obtain ⟨e0, e1, f0, f1⟩ := hH.cells (i := i + t / 2) (by omega)
            rcases h2 with h2 | h2
            · rw [show i * 2 + t = (i + t / 2) * 2 by omega]; exact f0
            · rw [show i * 2 + t = (i + t / 2) * 2 + 1 by omega]; exact f1)
        obtain ⟨cur, p1, p2, p3, p4, p5, p6⟩ := hH.parts
        obtain ⟨cur', q1, q2, q3, q4⟩ := blk_setCells (Builtin.zeroCells #[.slice none 0 0, .int .i64 0] (bs.length - i)).toList (i * 2) wr cur p2
        have hi0 : (0 : Int) ≤ (i : Int) := Int.natCast_nonneg _
        have hi1 : (i : Int) ≤ (bs.length : Int) := by omega
        have hi2 : (i : Int) ≤ (cap : Int) := by omega
        have hFin : HC (wr.setCells g (i * 2) (Builtin.zeroCells #[.slice none 0 0, .int .i64 0] (bs.length - i)).toList) lo w.heap.size g cap (cs.take i) := by
          have hl : (cs.take i).length = i := by simp; omega
          refine ⟨⟨by rw [entCells_length], .inr ⟨g, cap, cur', by rw [hl], p1, q1, by omega, p4, by rw [q2]; exact p5, ?_⟩⟩, fun e he => ⟨((hH.2 e (List.mem_of_mem_take he)).1).keep q4.size fun p _ h2 h3 => World.cell?_of_block (q4.block _ h3 (fun e2 => h2 (Option.some.inj e2))), (hH.2 e (List.mem_of_mem_take he)).2⟩⟩
          rw [hl, q3 _ (Nat.le_refl _), ← entCells_take cs i hil, ← p6, List.take_take, Nat.min_eq_left (by omega)]
        have HF := Lib.hid hFin
        have HG := Lib.hid (grown_trans hG q4)
        have HLN := Lib.hid HDA.out.len
        clear hH hG p1 p2 p3 p4 p5 p6 q1 q2 q3 q4 hFin
        go_wp2
        go_ret
        rw [← HLN.out]
        refine ⟨rfl, ?_, HG.out⟩
        exact OB.left HO.out HG.out (by rw [← HLN.out]; exact HF.out) (by rw [← HLN.out]; rw [HDA.out.2.2.2.1, List.take_of_length_le (Nat.le_refl _)])
end Go.Proofs.Ytcfnbpofbcendab
