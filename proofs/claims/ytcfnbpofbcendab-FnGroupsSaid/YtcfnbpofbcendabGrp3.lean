/- The contract of the model's l10Groups: its list of groups, row by row, and their bag. For right bags all of whose rows have the places. -/
import Derived.Test.YtcfnbpofbcendabGrp2
import Derived.Deep.DeepCutAuto
import Derived.Deep.CutBlock
import Derived.BigRegion
namespace Go.Proofs.Ytcfnbpofbcendab
open Go.RowKit

theorem tr_get {gs : List GEnt} {k : Nat} (h : k < gs.length) : (gs.map GEnt.tr)[k]'(by rw [List.length_map]; exact h) = (gs[k].r, gs[k].n, gs[k].m) := by rw [List.getElem_map]; rfl
theorem picked_spec (A A' : Option Addr) (c c' : Nat) (zs ps rs : List Int) (w : World) (hrs : rs = pickedL zs ps) (hI : Ints w w.heap.size A zs) (hI' : Ints w w.heap.size A' ps) (hl : zs.length ≤ 1073741824) (hl' : ps.length ≤ 1073741824) :
    Calls Try.prog 40 #[.slice A zs.length c, .slice A' ps.length c'] w fun e w' => ∃ A1 c1 g1, e = .returned (.slice A1 rs.length c1) ∧ w.heap.size ≤ g1 ∧ Row w' 2 A1 rs g1 ∧ Below w.heap.size w w' := by
  subst hrs
  refine (specPicked_any A A' c c' zs ps w hI hI' hl hl').mono ?_
  rintro e w1 ⟨v, rfl, hown, hb1⟩
  obtain ⟨A1, c1, g1, rfl, h1, h2⟩ := rowAt_of_own hown
  exact ⟨A1, c1, g1, rfl, h1, h2, hb1⟩
/-- The list ahead of a group's numbers: the groups so far, or one more. -/
def Ahead (gs gs' : List GEnt) (rc : List Int) (k : Nat) : Prop :=
  (gs' = gs ∧ ∃ h : k < gs.length, gs[k].r = rc) ∨ (∃ A c, gs' = gs ++ [⟨rc, 0, 0, A, c⟩] ∧ k = gs.length ∧ ∀ j, (h : j < gs.length) → gs[j].r ≠ rc)
theorem Ahead.lt {gs gs' : List GEnt} {rc : List Int} {k : Nat} (h : Ahead gs gs' rc k) : k < gs'.length := by
  rcases h with ⟨rfl, h, _⟩ | ⟨A, c, rfl, rfl, _⟩
  · exact h
  · simp
theorem Ahead.row {gs gs' : List GEnt} {rc : List Int} {k : Nat} (h : Ahead gs gs' rc k) (hk : k < gs'.length) : gs'[k].r = rc := by
  rcases h with ⟨rfl, h, h2⟩ | ⟨A, c, rfl, rfl, _⟩
  · exact h2
  · simp
theorem Ahead.gt {b : List (List Int × Int)} {ps : List Int} {p : Int} {gs gs' : List GEnt} {rc : List Int} {i k : Nat} (h : Ahead gs gs' rc k) (hT : GT b ps p (gs.map GEnt.tr) i) (hi : i ≤ b.length) :
    ((gs'.map GEnt.tr).map Prod.fst).Nodup ∧ (∀ t ∈ gs'.map GEnt.tr, t.2.1 = sumZ (keptL (b.take i) ps) t.1 ∧ (0 ≤ p → t.2.2 = sumZ (sumsL (b.take i) ps p) t.1)) ∧ (∀ t ∈ gs.map GEnt.tr, keyIn (gs'.map GEnt.tr) t.1) ∧ gs'.length ≤ i + 1 := by
  have hl := hT.len
  rw [List.length_map] at hl
  rcases h with ⟨rfl, _⟩ | ⟨A, c, rfl, rfl, hne⟩
  · exact ⟨hT.nodup, hT.val, fun t ht => ⟨t, ht, rfl⟩, by omega⟩
  · have hno : ¬ keyIn (gs.map GEnt.tr) rc := fun ⟨t, ht, e⟩ => by
      obtain ⟨x, hx, rfl⟩ := List.mem_map.1 ht
      obtain ⟨j, hj, rfl⟩ := List.getElem_of_mem hx
      exact hne j hj e
    obtain ⟨n1, n2⟩ := hT.new hi hno
    rw [List.map_append]
    exact ⟨n1, n2, fun t ht => ⟨t, List.mem_append.2 (.inl ht), rfl⟩, by simp; omega⟩
theorem Ahead.bd {b : List (List Int × Int)} {ps : List Int} {p : Int} {gs gs' : List GEnt} {rc : List Int} {i k : Nat} (h : Ahead gs gs' rc k) (hT : GT b ps p (gs.map GEnt.tr) i) (hi : i ≤ b.length) (hR : Right b) (hp : p ≠ -1 → ∀ j, j < b.length → 0 ≤ p ∧ p < ((rx b j).length : Int)) (hk : k < gs'.length) :
    (-1000000000 ≤ gs'[k].n ∧ gs'[k].n ≤ 1000000000) ∧ (0 ≤ p → -1000000000000000000 ≤ gs'[k].m ∧ gs'[k].m ≤ 1000000000000000000) := by
  obtain ⟨_, hv, _, _⟩ := h.gt hT hi
  have h1 := hv gs'[k].tr (List.mem_map_of_mem (List.getElem_mem hk))
  have hlb := hR.1
  constructor
  · have h2 := sumZ_bd (M := 1000000) (by omega) gs'[k].tr.1 (keptL (b.take i) ps) (fun q hq => by
      unfold keptL at hq
      obtain ⟨x, hx, rfl⟩ := List.mem_map.1 hq
      obtain ⟨j, hj, rfl⟩ := List.getElem_of_mem (List.mem_of_mem_take hx)
      have := hR.2 j hj
      rw [bag_ix hj]; exact ⟨this.2.1, this.2.2.1⟩)
    have h3 : ((keptL (b.take i) ps).length : Int) ≤ 300 := by simp [keptL]; omega
    rw [← h1.1] at h2
    have h4 : gs'[k].tr.2.1 = gs'[k].n := rfl
    rw [h4] at h2
    omega
  · intro hp0
    have h2 := sumZ_bd (M := 1000000000000000) (by omega) gs'[k].tr.1 (sumsL (b.take i) ps p) (fun q hq => by
      unfold sumsL at hq
      obtain ⟨x, hx, rfl⟩ := List.mem_map.1 hq
      obtain ⟨j, hj, rfl⟩ := List.getElem_of_mem (List.mem_of_mem_take hx)
      obtain ⟨_, n0, n1, hc⟩ := hR.2 j hj
      have h1 := hp (by omega) j hj
      have h2 := hc p.toNat (by omega)
      rw [bag_ix hj]
      exact mul_bd9 n0 n1 h2.1 h2.2)
    have h3 : ((sumsL (b.take i) ps p).length : Int) ≤ 300 := by simp [sumsL]; omega
    rw [← h1.2 hp0] at h2
    have h4 : gs'[k].tr.2.2 = gs'[k].m := rfl
    rw [h4] at h2
    omega
theorem Ahead.done {b : List (List Int × Int)} {ps : List Int} {p : Int} {gs gs' : List GEnt} {i k : Nat} (h : Ahead gs gs' (pickedL (rx b i) ps) k) (hT : GT b ps p (gs.map GEnt.tr) i) (hi : i < b.length) (hk : k < gs'.length) {m' : Int} (hm : 0 ≤ p → m' = gs'[k].m + nx b i * ix (rx b i) p.toNat) :
    GT b ps p ((gs'.set k { gs'[k] with n := gs'[k].n + nx b i, m := m' }).map GEnt.tr) (i + 1) := by
  obtain ⟨h1, h2, h3, h4⟩ := h.gt hT (by omega)
  have hk' : k < (gs'.map GEnt.tr).length := by rw [List.length_map]; exact hk
  have h5 := GT.step hT hi h1 h2 h3 (by rw [List.length_map]; exact h4) hk' (by rw [tr_get hk]; exact h.row hk) (m' := m') (by rw [tr_get hk]; exact hm)
  rw [List.map_set]
  rw [tr_get hk] at h5
  exact h5
theorem set_set_same {gs : List GEnt} {k : Nat} (hk : k < gs.length) (x y : Int) : (gs.set k { gs[k] with n := x }).set k { (gs.set k { gs[k] with n := x })[k]'(by rw [List.length_set]; exact hk) with m := y } = gs.set k { gs[k] with n := x, m := y } := by
  rw [List.set_set]
  simp
theorem set_n_m {gs : List GEnt} {k : Nat} (hk : k < gs.length) (x : Int) : gs.set k { gs[k] with n := x } = gs.set k { gs[k] with n := x, m := gs[k].m } := rfl

theorem GT.short {b : List (List Int × Int)} {ps : List Int} {p : Int} {tr : List Tr} {i : Nat} (h : GT b ps p tr i) : ∀ t ∈ tr, 0 < t.2.1 → t.1.length ≤ ps.length := fun t ht hn => by
  have h1 := (h.val t ht).1
  by_cases c : ∃ q ∈ keptL (b.take i) ps, q.1 = t.1
  · obtain ⟨q, hq, e⟩ := c
    rw [← e]
    unfold keptL at hq
    obtain ⟨x, _, rfl⟩ := List.mem_map.1 hq
    exact pickedL_length x.1 ps
  · rw [sumZ_none fun q hq e => c ⟨q, hq, e⟩] at h1
    omega
theorem grpM_short {b : List (List Int × Int)} {ps : List Int} {p : Int} {tr : List Tr} {i : Nat} (h : GT b ps p tr i) (k : Nat) : ∀ q ∈ grpM p (tr.take k), q.1.length ≤ ps.length + 2 := fun q hq => by
  unfold grpM at hq
  obtain ⟨t, ht, rfl⟩ := List.mem_map.1 hq
  obtain ⟨h1, h2⟩ := List.mem_filter.1 ht
  have := h.short t (List.mem_of_mem_take h1) (by simpa using h2)
  unfold rowM
  simp only [List.length_append, List.length_cons]
  split <;> simp <;> omega
theorem grpM_len (p : Int) (tr : List Tr) : (grpM p tr).length ≤ tr.length := by
  unfold grpM; rw [List.length_map]; exact List.length_filter_le _ _

set_option maxRecDepth 100000 in
set_option maxHeartbeats 16000000 in
theorem l10Groups_any (A A' : Option Addr) (c c' : Nat) (b : List (List Int × Int)) (ps : List Int) (p : Int) (w : World) (hB : Bag w w.heap.size A b) (hI : Ints w w.heap.size A' ps) (hR : Right b) (hlp : ps.length ≤ 1073741824) (hps : hasB b ps = true) (hp : p ≠ -1 → ∀ j, j < b.length → 0 ≤ p ∧ p < ((rx b j).length : Int)) :
    Calls Try.prog 24 #[.slice A b.length c, .slice A' ps.length c', .int .i64 p] w (OwnBag w.heap.size (grpL (togL (keptL b ps)) p (sumsB b ps p)) w) := by
  obtain ⟨i0, hi0, hz0, hz1, hz2⟩ := info_parts info_count
  obtain ⟨j0, hj0, jz0, jz1, jz2⟩ := info_parts info_i64
  obtain ⟨l0, hl0, lz0, lz1, lz2⟩ := info_parts info_group
  have hlb := hR.1
  have HR := Lib.hid hR
  have HPS := Lib.hid hps
  have HP := Lib.hid hp
  have hE := GC.nil w
  have b1 := (Below.refl w.heap.size w).alloc (Nat.le_refl _) (.cells #[] 59)
  clear hR hps hp
  go_enter Try.func24, Try.ntmps24
  go_wp2
  go_loopw [7, 8] (fun v s wr => ∃ (i g cap : Nat) (gs : List GEnt), i ≤ b.length ∧ s = .int .i64 i ∧ v = .slice (some ⟨g, 0, none⟩) gs.length cap ∧ GC wr w.heap.size g cap gs ∧ GT b ps p (gs.map GEnt.tr) i ∧ Below w.heap.size w wr) (fun _ s _ => b.length - (intOf s).toNat)
  case atStart => exact ⟨0, w.heap.size, 0, [], Nat.zero_le _, rfl, rfl, hE, GT.start b ps p, b1⟩
  case round =>
    obtain ⟨i, g, cap, gs, hi, rfl, rfl, hC, hT, hW⟩ := hrel
    have HT := Lib.hid hT
    have hgl : gs.length ≤ i := by have := hT.len; rwa [List.length_map] at this
    clear hT hE b1
    by_cases hlt : i < b.length
    · obtain ⟨ba, oa, rfl, hba, hc⟩ := hB (by omega)
      obtain ⟨Ar, ca, c1, c2, h3, h4⟩ := hc i hlt
      clear hc
      have hrk : (rx b i).length ≤ 1073741824 := by have := (HR.out.2 i hlt).1; omega
      have a1 := (hW.cell (p := ⟨ba, oa + i * 2, none⟩) hba).trans c1
      have hk0 : (0 : Int) ≤ (i : Int) := Int.natCast_nonneg _
      have hk1 : (i : Int) < (b.length : Int) := by omega
      obtain ⟨rc, hrc⟩ : ∃ rc, rc = pickedL (rx b i) ps := ⟨_, rfl⟩
      have hrl : rc.length ≤ 1099511627776 := by rw [hrc]; have := pickedL_length (rx b i) ps; omega
      have HRC := Lib.hid hrc
      go_wp2_with fail
      refine (picked_spec Ar A' ca c' (rx b i) ps rc wr hrc (h3.on hW) (hI.on hW) hrk hlp).mono ?_
      rintro e w1 ⟨Ap, cp, gp, rfl, hgp, hRp, hb1⟩
      have hC1 := hC.on hb1
      have hW1 := hW.trans (hb1.mono hW.size)
      have hgg : gp ≠ g := by have := hC.lt; omega
      have hbx := Nat.lt_of_lt_of_le hba (Nat.le_trans hW.size hb1.size)
      clear hrc a1 hC hW hb1
      go_wp2
      go_loopw [10] (fun s wq => ∃ k : Nat, k ≤ gs.length ∧ s = .int .i64 k ∧ (∀ j, (h : j < k) → (h2 : j < gs.length) → gs[j].r ≠ rc) ∧ ∃ n, wq = w1.drewN n) (fun s _ => gs.length - (intOf s).toNat)
      case atStart => exact ⟨0, Nat.zero_le _, rfl, fun j h => absurd h (by omega), 0, rfl⟩
      case round =>
        obtain ⟨k, hk, rfl, hj, n1, rfl⟩ := hrel
        have HJ := Lib.hid hj
        clear hj
        by_cases hlt2 : k < gs.length
        · obtain ⟨q0, q1, q2, f1, f2⟩ := (hC1.drewN n1).cells hlt2
          have hq0 : (0 : Int) ≤ (k : Int) := Int.natCast_nonneg _
          have hq1 : (k : Int) < (gs.length : Int) := by omega
          have hIk : Ints (w1.drewN n1) (w1.drewN n1).heap.size gs[k].A gs[k].r := (hC1.2 gs[k] (List.getElem_mem hlt2)).1.ints
          have hlk := (hC1.2 gs[k] (List.getElem_mem hlt2)).2
          have hIp : Ints (w1.drewN n1) (w1.drewN n1).heap.size Ap rc := hRp.ints
          clear q1 q2 f1 f2
          go_wp2_with fail
          refine (l1Same_any gs[k].A Ap gs[k].c cp gs[k].r rc (w1.drewN n1) _ _ hIk hIp hlk hrl).mono ?_
          rintro e w2 ⟨rfl, n2, rfl⟩
          by_cases hs : gs[k].r = rc
          · rw [decide_eq_true hs]
            have HA := Lib.hid (show Ahead gs gs rc k from .inl ⟨rfl, hlt2, hs⟩)
            have hne : ((k : Int) == (gs.length : Int)) = false := by rw [beq_eq_false_iff_ne]; omega
            clear hs
            have hC2 := hC1.drewN (n1 + n2)
            have hW2 := bel_drewN hW1 (n1 + n2)
            clear hIk hIp q0
            rw [show (w1.drewN n1).drewN n2 = w1.drewN (n1 + n2) by simp]
            go_upto_region 11 with fail
            generalize w1.drewN (n1 + n2) = wt at *
            have hkl := HA.out.lt
            obtain ⟨y9, q1, q2, f1, f2⟩ := hC2.cells hkl
            clear y9
            obtain ⟨⟨bn0, bn1⟩, bm⟩ := HA.out.bd HT.out (by omega) HR.out HP.out hkl
            obtain ⟨r6, n0, n1', hcx⟩ := HR.out.2 i hlt
            have hglo : w.heap.size ≤ g := hC2.lt.1
            have hkz0 : (0 : Int) ≤ (k : Int) := Int.natCast_nonneg _
            have hkz1 : (k : Int) < (gs.length : Int) := by omega
            have a2 := (hW2.cell (p := ⟨ba, oa + i * 2 + 1, none⟩) hba).trans c2
            have hw1 : IntKind.i64.wrap (gs[k].n + nx b i) = gs[k].n + nx b i := by rw [IntKind.wrap_i64]; omega
            have hw2 : wrap64 (gs[k].n + nx b i) = gs[k].n + nx b i := by rw [wrap64]; omega
            have hS1 := hC2.setN hkl (gs[k].n + nx b i)
            have hWs : Below w.heap.size w (wt.setCell ⟨g, k * 3 + 1, none⟩ (.int .i64 (gs[k].n + nx b i))) := hW2.setCell (p := ⟨g, k * 3 + 1, none⟩) (by simp; omega) _
            have hsl : (gs.set k { gs[k] with n := gs[k].n + nx b i }).length = gs.length := List.length_set
            have HSL := Lib.hid hsl
            have HCX := Lib.hid hcx
            have HBM := Lib.hid bm
            clear hsl hcx bm
            go_upto_region 12 with (go_region)
            obtain ⟨ws, hws⟩ : ∃ ws, ws = (wt.setCell ⟨g, k * 3 + 1, none⟩ (.int .i64 (gs[k].n + nx b i))).drew := ⟨_, rfl⟩
            have hS2 : GC ws w.heap.size g cap (gs.set k { gs[k] with n := gs[k].n + nx b i }) := by rw [hws]; exact hS1.drewN 1
            have hWs2 : Below w.heap.size w ws := by rw [hws]; exact bel_drewN hWs 1
            rw [← hws]
            clear hws hS1 hWs hw1 hw2 q1 q2 f1 f2 a2
            have HAD := Lib.hid (show Ahead gs gs (pickedL (rx b i) ps) k by rw [← HRC.out]; exact HA.out)
            by_cases hp0 : 0 ≤ p
            · obtain ⟨hq0, hq1⟩ := HP.out (by omega) i hlt
              obtain ⟨q, rfl⟩ : ∃ q : Nat, p = q := ⟨p.toNat, by omega⟩
              have hqn : q < (rx b i).length := by omega
              obtain ⟨ra, pa, rfl, hra, hca⟩ := h3 (by omega)
              have e1 := (hWs2.cell (p := ⟨ba, oa + i * 2, none⟩) hba).trans c1
              have e2 := (hWs2.cell (p := ⟨ba, oa + i * 2 + 1, none⟩) hba).trans c2
              have e3 := (hWs2.cell (p := ⟨ra, pa + q, none⟩) hra).trans (hca q hqn)
              have hkl2 : k < (gs.set k { gs[k] with n := gs[k].n + nx b i }).length := by rw [HSL.out]; exact hkl
              obtain ⟨y0, y1, q2, y3, f2⟩ := hS2.cells hkl2
              clear y0 y1 y3
              have hm2 : ((gs.set k { gs[k] with n := gs[k].n + nx b i })[k]'hkl2).m = gs[k].m := by simp
              rw [hm2] at q2
              have hcell := HCX.out q hqn
              have hm9 := mul_bd9 n0 n1' hcell.1 hcell.2
              obtain ⟨bm0, bm1⟩ := HBM.out (by omega)
              obtain ⟨pr, hpr⟩ : ∃ pr, nx b i * ix (rx b i) q = pr := ⟨_, rfl⟩
              rw [hpr] at hm9
              have hx1 : IntKind.i64.wrap (nx b i * ix (rx b i) q) = pr := by rw [hpr, IntKind.wrap_i64]; omega
              have hx2 : wrap64 (nx b i * ix (rx b i) q) = pr := by rw [hpr, wrap64]; omega
              have hy1 : IntKind.i64.wrap (gs[k].m + pr) = gs[k].m + pr := by rw [IntKind.wrap_i64]; omega
              have hy2 : wrap64 (gs[k].m + pr) = gs[k].m + pr := by rw [wrap64]; omega
              have HPR := Lib.hid hpr
              have hS3 := hS2.setM hkl2 (gs[k].m + pr)
              have hWs3 : Below w.heap.size w (ws.setCell ⟨g, k * 3 + 2, none⟩ (.int .i64 (gs[k].m + pr))) := hWs2.setCell (p := ⟨g, k * 3 + 2, none⟩) (by simp; omega) _
              have HS3 := Lib.hid (show GC (ws.setCell ⟨g, k * 3 + 2, none⟩ (.int .i64 (gs[k].m + pr))) w.heap.size g cap (gs.set k { gs[k] with n := gs[k].n + nx b i, m := gs[k].m + pr }) by
                have := set_set_same hkl (gs[k].n + nx b i) (gs[k].m + pr)
                rw [← this]; exact hS3)
              have HGT := Lib.hid (HAD.out.done HT.out hlt hkl (m' := gs[k].m + pr) (fun _ => by rw [← HPR.out]; rfl))
              have HLL := Lib.hid (show (gs.set k { gs[k] with n := gs[k].n + nx b i, m := gs[k].m + pr }).length = gs.length from List.length_set)
              clear hpr hS2 hS3 hWs2 hm2 hm9 hca hkl2 HSL
              go_wp2_with fail
              go_region
              clear q2 f2 e1 e2 e3 hx1 hx2 hy1 hy2
              go_wp2
              go_roundw
              case rel => exact ⟨i + 1, g, cap, _, by omega, by go_num, by rw [HLL.out], HS3.out.drewN 1, HGT.out, bel_drewN hWs3 1⟩
              case measure => simp [intOf]; omega
            · have HGT := Lib.hid (HAD.out.done HT.out hlt hkl (m' := gs[k].m) (fun h => absurd h hp0))
              go_wp2
              go_roundw
              case rel => exact ⟨i + 1, g, cap, _, by omega, by go_num, by rw [HSL.out], hS2, HGT.out, hWs2⟩
              case measure => simp [intOf]; omega
          · rw [decide_eq_false hs]
            have HS := Lib.hid hs
            clear hs hIk hIp q0
            go_wp2
            go_roundw
            case rel => exact ⟨k + 1, by omega, by go_num, fun j h h2 => by
              by_cases e : j = k
              · subst e; exact HS.out
              · exact HJ.out j (by omega) h2, n1 + n2, by simp⟩
            case measure => simp [intOf]; omega
        · have hd : decide (k < gs.length) = false := by simpa using hlt2
          obtain rfl : k = gs.length := by omega
          have heq : ((gs.length : Int) == (gs.length : Int)) = true := by simp
          have hC2 := hC1.drewN n1
          have hW2 := bel_drewN hW1 n1
          have hR2 : Row (w1.drewN n1) 2 Ap rc gp := hRp
          go_upto_if 47 with fail
          generalize w1.drewN n1 = wt at *
          have hglo0 := hC2.lt
          have hs0 : w.heap.size ≤ wt.heap.size := hW2.size
          go_upto_region 11 with (at_builtin; refine wpList_append_any _ rfl (.tmp 48) (.tmp 51) 57 rfl w.heap.size 59 l0 _ 3 40 Try.underlying57 hl0 lz0 lz1 lz2 rfl (by decide) _ _ (gCells gs) rfl (hC2.1.alloc _) _ (some ⟨wt.heap.size, 0, none⟩) 1 1 [.slice Ap rc.length cp, .int .i64 0, .int .i64 0] rfl (reads_new3 wt _ _ _ _) (by simp [Value.oneCell']) (by simp only [maxLen]; omega) (by omega) (by rw [World.size_alloc]; omega) ?_; intro v9 wy hown9 hgrow9 hat9)
          obtain ⟨gx, capx, hvx, hC3⟩ := hC2.push (e := ⟨rc, 0, 0, Ap, cp⟩) hgrow9 hown9 hat9 ⟨RowG.of_row hR2 hgg, hrl⟩
          subst hvx
          have hW3 : Below w.heap.size w wy := (hW2.alloc hs0 _).grown hgrow9 (by rw [World.size_alloc]; omega) (fun r e => by have : g = r := Option.some.inj e; omega)
          have HA := Lib.hid (show Ahead gs (gs ++ [⟨rc, 0, 0, Ap, cp⟩]) rc gs.length from .inr ⟨Ap, cp, rfl, rfl, fun j h => HJ.out j h h⟩)
          obtain ⟨kx, hkx⟩ : ∃ kx, kx = gs.length := ⟨_, rfl⟩
          rw [← hkx] at HA ⊢
          obtain ⟨gsx, hgsx⟩ : ∃ gsx, gsx = gs ++ [(⟨rc, 0, 0, Ap, cp⟩ : GEnt)] := ⟨_, rfl⟩
          rw [← hgsx] at HA hC3 ⊢
          clear hkx hgsx heq hd hown9 hgrow9 hat9 hC2 hW2 hR2
          have hkl := HA.out.lt
          obtain ⟨y9, q1, q2, f1, f2⟩ := hC3.cells hkl
          clear y9
          obtain ⟨⟨bn0, bn1⟩, bm⟩ := HA.out.bd HT.out (by omega) HR.out HP.out hkl
          obtain ⟨r6, n0, n1', hcx⟩ := HR.out.2 i hlt
          have hglo : w.heap.size ≤ gx := hC3.lt.1
          have hkz0 : (0 : Int) ≤ (kx : Int) := Int.natCast_nonneg _
          have hkz1 : (kx : Int) < (gsx.length : Int) := by omega
          have a2 := (hW3.cell (p := ⟨ba, oa + i * 2 + 1, none⟩) hba).trans c2
          have hw1 : IntKind.i64.wrap (gsx[kx].n + nx b i) = gsx[kx].n + nx b i := by rw [IntKind.wrap_i64]; omega
          have hw2 : wrap64 (gsx[kx].n + nx b i) = gsx[kx].n + nx b i := by rw [wrap64]; omega
          have hS1 := hC3.setN hkl (gsx[kx].n + nx b i)
          have hWs : Below w.heap.size w (wy.setCell ⟨gx, kx * 3 + 1, none⟩ (.int .i64 (gsx[kx].n + nx b i))) := hW3.setCell (p := ⟨gx, kx * 3 + 1, none⟩) (by simp; omega) _
          have hsl : (gsx.set kx { gsx[kx] with n := gsx[kx].n + nx b i }).length = gsx.length := List.length_set
          have HSL := Lib.hid hsl
          have HCX := Lib.hid hcx
          have HBM := Lib.hid bm
          clear hsl hcx bm
          go_upto_region 12 with (go_region)
          obtain ⟨ws, hws⟩ : ∃ ws, ws = (wy.setCell ⟨gx, kx * 3 + 1, none⟩ (.int .i64 (gsx[kx].n + nx b i))).drew := ⟨_, rfl⟩
          have hS2 : GC ws w.heap.size gx capx (gsx.set kx { gsx[kx] with n := gsx[kx].n + nx b i }) := by rw [hws]; exact hS1.drewN 1
          have hWs2 : Below w.heap.size w ws := by rw [hws]; exact bel_drewN hWs 1
          rw [← hws]
          clear hws hS1 hWs hw1 hw2 q1 q2 f1 f2 a2
          have HAD := Lib.hid (show Ahead gs gsx (pickedL (rx b i) ps) kx by rw [← HRC.out]; exact HA.out)
          by_cases hp0 : 0 ≤ p
          · obtain ⟨hq0, hq1⟩ := HP.out (by omega) i hlt
            obtain ⟨q, rfl⟩ : ∃ q : Nat, p = q := ⟨p.toNat, by omega⟩
            have hqn : q < (rx b i).length := by omega
            obtain ⟨ra, pa, rfl, hra, hca⟩ := h3 (by omega)
            have e1 := (hWs2.cell (p := ⟨ba, oa + i * 2, none⟩) hba).trans c1
            have e2 := (hWs2.cell (p := ⟨ba, oa + i * 2 + 1, none⟩) hba).trans c2
            have e3 := (hWs2.cell (p := ⟨ra, pa + q, none⟩) hra).trans (hca q hqn)
            have hkl2 : kx < (gsx.set kx { gsx[kx] with n := gsx[kx].n + nx b i }).length := by rw [HSL.out]; exact hkl
            obtain ⟨y0, y1, q2, y3, f2⟩ := hS2.cells hkl2
            clear y0 y1 y3
            have hm2 : ((gsx.set kx { gsx[kx] with n := gsx[kx].n + nx b i })[kx]'hkl2).m = gsx[kx].m := by simp
            rw [hm2] at q2
            have hcell := HCX.out q hqn
            have hm9 := mul_bd9 n0 n1' hcell.1 hcell.2
            obtain ⟨bm0, bm1⟩ := HBM.out (by omega)
            obtain ⟨pr, hpr⟩ : ∃ pr, nx b i * ix (rx b i) q = pr := ⟨_, rfl⟩
            rw [hpr] at hm9
            have hx1 : IntKind.i64.wrap (nx b i * ix (rx b i) q) = pr := by rw [hpr, IntKind.wrap_i64]; omega
            have hx2 : wrap64 (nx b i * ix (rx b i) q) = pr := by rw [hpr, wrap64]; omega
            have hy1 : IntKind.i64.wrap (gsx[kx].m + pr) = gsx[kx].m + pr := by rw [IntKind.wrap_i64]; omega
            have hy2 : wrap64 (gsx[kx].m + pr) = gsx[kx].m + pr := by rw [wrap64]; omega
            have HPR := Lib.hid hpr
            have hS3 := hS2.setM hkl2 (gsx[kx].m + pr)
            have hWs3 : Below w.heap.size w (ws.setCell ⟨gx, kx * 3 + 2, none⟩ (.int .i64 (gsx[kx].m + pr))) := hWs2.setCell (p := ⟨gx, kx * 3 + 2, none⟩) (by simp; omega) _
            have HS3 := Lib.hid (show GC (ws.setCell ⟨gx, kx * 3 + 2, none⟩ (.int .i64 (gsx[kx].m + pr))) w.heap.size gx capx (gsx.set kx { gsx[kx] with n := gsx[kx].n + nx b i, m := gsx[kx].m + pr }) by
              have := set_set_same hkl (gsx[kx].n + nx b i) (gsx[kx].m + pr)
              rw [← this]; exact hS3)
            have HGT := Lib.hid (HAD.out.done HT.out hlt hkl (m' := gsx[kx].m + pr) (fun _ => by rw [← HPR.out]; rfl))
            have HLL := Lib.hid (show (gsx.set kx { gsx[kx] with n := gsx[kx].n + nx b i, m := gsx[kx].m + pr }).length = gsx.length from List.length_set)
            clear hpr hS2 hS3 hWs2 hm2 hm9 hca hkl2 HSL
            go_wp2_with fail
            go_region
            clear q2 f2 e1 e2 e3 hx1 hx2 hy1 hy2
            go_wp2
            go_roundw
            case rel => exact ⟨i + 1, gx, capx, _, by omega, by go_num, by rw [HLL.out], HS3.out.drewN 1, HGT.out, bel_drewN hWs3 1⟩
            case measure => simp [intOf]; omega
          · have HGT := Lib.hid (HAD.out.done HT.out hlt hkl (m' := gsx[kx].m) (fun h => absurd h hp0))
            go_wp2
            go_roundw
            case rel => exact ⟨i + 1, gx, capx, _, by omega, by go_num, by rw [HSL.out], hS2, HGT.out, hWs2⟩
            case measure => simp [intOf]; omega
    · have hd : decide (i < b.length) = false := by simpa using hlt
      obtain rfl : i = b.length := by omega
      have HSAME := Lib.hid (grp_same HT.out HR.out HPS.out HP.out)
      obtain ⟨wo, rfl⟩ : ∃ wo : World, wo = wr := ⟨_, rfl⟩
      have bo := (Below.refl wo.heap.size wo).alloc (Nat.le_refl _) (.cells #[] 33)
      have hE : OB (wo.alloc (.cells #[] 33)) wo.heap.size wo.heap.size 0 [] := OBag.nil (empty_counts wo)
      have hgl3 : gs.length ≤ 300 := by omega
      go_wp2
      go_loopw [11, 12] (fun v s wq => ∃ (k g2 cap2 : Nat) (es : List Ent), k ≤ gs.length ∧ s = .int .i64 k ∧ v = .slice (some ⟨g2, 0, none⟩) es.length cap2 ∧ OB wq wo.heap.size g2 cap2 es ∧ es.map Ent.pair = togL (grpM p ((gs.map GEnt.tr).take k)) ∧ Below wo.heap.size wo wq) (fun _ s _ => gs.length - (intOf s).toNat)
      case atStart => exact ⟨0, wo.heap.size, 0, [], Nat.zero_le _, rfl, rfl, hE, rfl, bo⟩
      case round =>
        obtain ⟨k, g2, cap2, es, hk, rfl, rfl, hO, he, hWq⟩ := hrel
        have HE := Lib.hid he
        clear he hE bo
        by_cases hlt2 : k < gs.length
        · have hCq := hC.on hWq
          obtain ⟨q0, q1, q2, f1, f2⟩ := hCq.cells hlt2
          have hq0 : (0 : Int) ≤ (k : Int) := Int.natCast_nonneg _
          have hq1 : (k : Int) < (gs.length : Int) := by omega
          have hIe : Ints wr wr.heap.size gs[k].A gs[k].r := (hCq.2 gs[k] (List.getElem_mem hlt2)).1.ints
          have hlr := (hCq.2 gs[k] (List.getElem_mem hlt2)).2
          have hgq := hCq.lt
          have htk : k < (gs.map GEnt.tr).length := by rw [List.length_map]; exact hlt2
          clear f1 f2 hCq
          by_cases hn : gs[k].n ≤ 0
          · have hnd := decide_eq_true hn
            have HST := Lib.hid (show grpM p ((gs.map GEnt.tr).take (k + 1)) = grpM p ((gs.map GEnt.tr).take k) by
              rw [grpM_step htk, tr_get hlt2, if_neg (by simp only; omega), List.append_nil])
            clear hn hIe
            go_wp2
            go_roundw
            case rel => exact ⟨k + 1, g2, cap2, es, by omega, by go_num, rfl, hO, by rw [HE.out, HST.out], hWq⟩
            case measure => simp [intOf]; omega
          · have hnd := decide_eq_false hn
            have HST := Lib.hid (show grpM p ((gs.map GEnt.tr).take (k + 1)) = grpM p ((gs.map GEnt.tr).take k) ++ [(rowM p (gs[k].r, gs[k].n, gs[k].m), 1)] by
              rw [grpM_step htk, tr_get hlt2, if_pos (by simp only; omega)])
            have hn' : 0 < gs[k].n := by omega
            have HNP := Lib.hid hn'
            clear hn hn'
            obtain ⟨r2, hr2⟩ : ∃ r2, r2 = gs[k].r ++ [gs[k].n] := ⟨_, rfl⟩
            have hr2l : r2.length = gs[k].r.length + 1 := by rw [hr2, List.length_append]; rfl
            have HR2 := Lib.hid hr2
            have HR2L := Lib.hid hr2l
            have HOWN := Lib.hid (show ∀ (W : World) (B : Nat) (v : Value), W.ownsRow B 2 1 v (gs[k].r.length + 1) (i64l gs[k].r ++ [.int .i64 gs[k].n]) → wr.heap.size ≤ B → ∃ A7 c7, v = .slice A7 r2.length c7 ∧ W.ownsRow wr.heap.size 2 1 (.slice A7 r2.length c7) r2.length (i64l r2) from fun W B v h hB => by
              rw [← hr2l, show i64l gs[k].r ++ [.int .i64 gs[k].n] = i64l r2 by rw [hr2]; simp [i64l]] at h
              obtain ⟨A7, c7, g7, rfl, _, _⟩ := rowAt_of_own h
              refine ⟨A7, c7, rfl, h.1, ?_⟩
              rcases h.2 with h2 | ⟨g', cap', cur, h3, h4, h5⟩
              · exact .inl h2
              · exact .inr ⟨g', cap', cur, h3, by omega, h5⟩)
            clear hr2 hr2l
            go_upto_region 19 with fail
            go_cut [13] (fun v wx => ∃ A7 c7, v = .slice A7 r2.length c7 ∧ wx.ownsRow wr.heap.size 2 1 (.slice A7 r2.length c7) r2.length (i64l r2) ∧ Below wr.heap.size wr wx)
            case first =>
              have HKS := Lib.hid (show ∀ w', Below wr.heap.size wr w' → w'.cell? ⟨g, k * 3, none⟩ = some (.slice gs[k].A gs[k].r.length gs[k].c) ∧ w'.cell? ⟨g, k * 3 + 1, none⟩ = some (.int .i64 gs[k].n) from fun w' h => ⟨(h.cell (p := ⟨g, k * 3, none⟩) hgq.2).trans q0, (h.cell (p := ⟨g, k * 3 + 1, none⟩) hgq.2).trans q1⟩)
              have hIe1 : Ints wr.drew wr.drew.heap.size gs[k].A gs[k].r := hIe
              have bal : Below wr.heap.size wr (wr.drew.alloc (.cells #[.int .i64 gs[k].n] 2)) := (bel_drewN (Below.refl wr.heap.size wr) 1).alloc (Nat.le_refl _) _
              have hIe2 : Ints (wr.drew.alloc (.cells #[.int .i64 gs[k].n] 2)) (wr.drew.alloc (.cells #[.int .i64 gs[k].n] 2)).heap.size gs[k].A gs[k].r := hIe.on bal
              go_wp2_with fail
              try simp only [List.append_eq, List.cons_append, List.nil_append]
              go_region_held3 (fun w' => w'.cell? ⟨g, k * 3, none⟩ = some (.slice gs[k].A gs[k].r.length gs[k].c) ∧ w'.cell? ⟨g, k * 3 + 1, none⟩ = some (.int .i64 gs[k].n))
                (first | go_keep | exact HKS.out _ hk7 | exact HKS.out _ hk6 | exact HKS.out _ bal)
                (first
                  | (refine step_append_any _ rfl (.tmp 112) (.tmp 118) 25 (by rfl) _ 2 j0 (.int .i64 0) 1 8 Try.underlying25 hj0 jz0 jz1 jz2 rfl (by omega) _ _ (i64l gs[k].r) (by rfl) (hown6.alloc _) _ (some ⟨w6.heap.size, 0, none⟩) 1 1 [.int .i64 gs[k].n] (by rfl) (reads_nw1 w6 _ _) (by simp [Value.oneCell']) (by simp only [maxLen]; omega) (by omega) (by rw [World.size_alloc]; exact Nat.le_succ_of_le hs6) ?_; intro v7 w7 hown7 hgrow7 hat7; have hk7 : Below wr.heap.size wr w7 := (hk6.alloc hk6.size _).grown hgrow7 (by rw [World.size_alloc]; have := hk6.size; omega) (fun g e => Nat.le_trans hb6' (hown6.lt g e).1); obtain ⟨A7, c7, rfl, hownR⟩ := HOWN.out _ _ _ hown7 hb6')
                  | (refine step_append_any _ rfl (.tmp 112) (.tmp 118) 25 (by rfl) _ 2 j0 (.int .i64 0) 1 8 Try.underlying25 hj0 jz0 jz1 jz2 rfl (by omega) _ _ (i64l gs[k].r) (by rfl) hown6 _ (some ⟨wr.heap.size, 0, none⟩) 1 1 [.int .i64 gs[k].n] (by rfl) hrd6 (by simp [Value.oneCell']) (by simp only [maxLen]; omega) (by omega) hs6 ?_; intro v7 w7 hown7 hgrow7 hat7; have hk7 : Below wr.heap.size wr w7 := hk6.grown hgrow7 hk6.size (fun g e => Nat.le_trans hb6' (hown6.lt g e).1); obtain ⟨A7, c7, rfl, hownR⟩ := HOWN.out _ _ _ hown7 hb6')
                  | (go_at_call 42; refine (l1Row_any gs[k].A gs[k].c gs[k].r wr.drew hIe1 hlr).mono ?_; rintro e w6 ⟨v6, rfl, hown6, hb6⟩; have hk6 : Below wr.heap.size wr w6 := (bel_drewN (Below.refl _ _) 1).trans hb6; have hs6 : wr.drew.heap.size ≤ w6.heap.size := hb6.size; have hb6' : wr.heap.size ≤ wr.drew.heap.size := Nat.le_refl _)
                  | (go_at_call 42; refine (l1Row_any gs[k].A gs[k].c gs[k].r (wr.drew.alloc (.cells #[.int .i64 gs[k].n] 2)) hIe2 hlr).mono ?_; rintro e w6 ⟨v6, rfl, hown6, hb6⟩; have hk6 : Below wr.heap.size wr w6 := bel_step bal hb6; have hs6 : (wr.drew.alloc (.cells #[.int .i64 gs[k].n] 2)).heap.size ≤ w6.heap.size := hb6.size; have hb6' : wr.heap.size ≤ (wr.drew.alloc (.cells #[.int .i64 gs[k].n] 2)).heap.size := bal.size; have hrd6 := (reads_nw1 wr.drew 2 (.int .i64 gs[k].n)).keep (fun p hp => hb6.cell (p := p) (by rw [World.size_alloc]; exact hp))))
              all_goals
                clear HKS hIe1 hIe2 bal
                go_wp2_with fail
                go_meet
                exact ⟨A7, c7, rfl, hownR, hk7⟩
            case rest =>
              obtain ⟨A7, c7, rfl, hownR, hk7⟩ := hcut
              have hrs : gs[k].r.length ≤ ps.length := HT.out.short gs[k].tr (List.mem_map_of_mem (List.getElem_mem hlt2)) HNP.out
              have hr2l := HR2L.out
              have hr2b : r2.length ≤ 1073741825 := by omega
              have q2c := (hk7.cell (p := ⟨g, k * 3 + 2, none⟩) hgq.2).trans q2
              have hel : es.length ≤ 549755813888 := by
                have h1 := congrArg List.length HE.out
                rw [List.length_map] at h1
                have h2 := tog_length (grpM p ((gs.map GEnt.tr).take k))
                have h3 := grpM_len p ((gs.map GEnt.tr).take k)
                rw [List.length_take] at h3
                omega
              have HLE := Lib.hid (show ∀ e ∈ es, e.r.length ≤ 1099511627776 from fun e he => by
                have h1 : e.pair ∈ togL (grpM p ((gs.map GEnt.tr).take k)) := by rw [← HE.out]; exact List.mem_map_of_mem he
                have h2 := tog_rows (grpM_short HT.out k) _ h1
                have h3 : e.r.length ≤ ps.length + 2 := h2
                omega)
              clear hr2l q0 q1 q2
              by_cases hp0 : 0 ≤ p
              · obtain ⟨r3, hr3⟩ : ∃ r3, r3 = r2 ++ [gs[k].m] := ⟨_, rfl⟩
                have hr3n : r3.length = r2.length + 1 := by rw [hr3, List.length_append]; rfl
                have r3l : r3.length ≤ 1099511627776 := by omega
                have HRM := Lib.hid (show rowM p (gs[k].r, gs[k].n, gs[k].m) = r3 by rw [hr3, HR2.out]; unfold rowM; rw [if_pos hp0]; simp)
                have HR3 := Lib.hid (show ∀ (W : World) (v : Value), W.ownsRow wr.heap.size 2 1 v (r2.length + 1) (i64l r2 ++ [.int .i64 gs[k].m]) → ∃ A8 c8, v = .slice A8 r3.length c8 ∧ W.ownsRow wr.heap.size 2 1 (.slice A8 r3.length c8) r3.length (i64l r3) from fun W v h => by
                  rw [← hr3n, show i64l r2 ++ [.int .i64 gs[k].m] = i64l r3 by rw [hr3]; simp [i64l]] at h
                  obtain ⟨A8, c8, g8, rfl, _, _⟩ := rowAt_of_own h
                  exact ⟨A8, c8, rfl, h⟩)
                clear hr3 hr3n
                go_upto_region 22 with (at_builtin; refine wpList_append_any _ rfl (.tmp 122) (.tmp 128) 25 rfl wr.heap.size 2 j0 (.int .i64 0) 1 8 Try.underlying25 hj0 jz0 jz1 jz2 rfl (by decide) (.slice A7 r2.length c7) r2.length (i64l r2) rfl (hownR.alloc _) _ (some ⟨wc.heap.size, 0, none⟩) 1 1 [.int .i64 gs[k].m] rfl (reads_nw1 wc _ _) (by simp [Value.oneCell']) (by simp only [maxLen]; omega) (by omega) (by rw [World.size_alloc]; have := hk7.size; omega) ?_; intro v8 w8 hown8 hgrow8 hat8)
                have hk8 : Below wr.heap.size wr w8 := (hk7.alloc hk7.size _).grown hgrow8 (by rw [World.size_alloc]; have := hk7.size; omega) (fun g e => (hownR.lt g e).1)
                obtain ⟨A8, c8, rfl, hownS⟩ := HR3.out _ _ hown8
                clear hown8 hgrow8 hat8 hownR hk7 q2c
                have hO8 := OBag.on hO hk8
                obtain ⟨A9, c9, g9, he9, _, hR9⟩ := rowAt_of_own hownS
                injection he9 with ea _ ec
                subst ea ec
                go_wp2_with fail
                refine (l2With_any wo.heap.size g2 cap2 es A8 c8 r3 1 w8 (Nat.le_trans hWq.size hk8.size) hO8 hR9.ints (by omega) r3l HLE.out).mono ?_
                rintro e w9 ⟨g9', cap9, es9, rfl, hO9, he9', hb9⟩
                have HE9 := Lib.hid (show es9.map Ent.pair = togL (grpM p ((gs.map GEnt.tr).take (k + 1))) by rw [he9', HE.out, HST.out, tog_snoc, HRM.out])
                have hW9 := (hWq.trans (hk8.mono hWq.size)).trans hb9
                clear hO8 hR9 he9' hb9 hO hownS hk8
                go_wp2
                go_roundw
                case rel => exact ⟨k + 1, g9', cap9, es9, by omega, by go_num, rfl, hO9, HE9.out, hW9⟩
                case measure => simp [intOf]; omega
              · have r2l : r2.length ≤ 1099511627776 := by omega
                have HRM := Lib.hid (show rowM p (gs[k].r, gs[k].n, gs[k].m) = r2 by rw [HR2.out]; unfold rowM; rw [if_neg hp0])
                clear q2c
                go_upto_region 22 with fail
                have hO8 := OBag.on hO hk7
                obtain ⟨A9, c9, g9, he9, _, hR9⟩ := rowAt_of_own hownR
                injection he9 with ea _ ec
                subst ea ec
                go_wp2_with fail
                refine (l2With_any wo.heap.size g2 cap2 es A7 c7 r2 1 wc (Nat.le_trans hWq.size hk7.size) hO8 hR9.ints (by omega) r2l HLE.out).mono ?_
                rintro e w9 ⟨g9', cap9, es9, rfl, hO9, he9', hb9⟩
                have HE9 := Lib.hid (show es9.map Ent.pair = togL (grpM p ((gs.map GEnt.tr).take (k + 1))) by rw [he9', HE.out, HST.out, tog_snoc, HRM.out])
                have hW9 := (hWq.trans (hk7.mono hWq.size)).trans hb9
                clear hO8 hR9 he9' hb9 hO hownR hk7
                go_wp2
                go_roundw
                case rel => exact ⟨k + 1, g9', cap9, es9, by omega, by go_num, rfl, hO9, HE9.out, hW9⟩
                case measure => simp [intOf]; omega
        · have hd2 : decide (k < gs.length) = false := by simpa using hlt2
          have HFIN := Lib.hid (show es.map Ent.pair = grpL (togL (keptL b ps)) p (sumsB b ps p) by
            rw [HE.out, List.take_of_length_le (by rw [List.length_map]; omega), HSAME.out])
          have hso := hW.size
          go_wp2
          go_ret
          exact ⟨g2, cap2, es, rfl, hO.lower hso, HFIN.out, hW.trans (hWq.mono hso)⟩
end Go.Proofs.Ytcfnbpofbcendab
