/- The walk of laws.FnExactBagOf: it returns true, and nothing that lay has turned. -/
import Derived.Test.YtcfnbpofbcendaaBagOf3
import Derived.Test.YtcfnbpofbcendaaBagI2
import Derived.Test.YtcfnbpofbcendaaJB
namespace Go.Proofs.Ytcfnbpofbcendaa
open Go.RowKit

/-- The bag of an own bag whose counts are marked. -/
theorem OIn.bagK {w : World} {lo hi n c : Nat} {A : Option Addr} {es : List Ent} {k : Int} (h : OIn w lo hi (.slice A n c) (markTo k es n)) (hl : ∀ e ∈ es, e.r.length ≤ 1099511627776) : Bag w w.heap.size A ((markTo k es n).map Ent.pair) := by
  refine OBag.bag h.1 fun e he => ?_
  obtain ⟨j, hj, rfl⟩ := List.getElem_of_mem he
  have hj' : j < es.length := by rw [markTo_length] at hj; exact hj
  rw [(markTo_gr hj' hj).2]
  exact hl _ (List.getElem_mem hj')
theorem OwnBag.form {lo : Nat} {bag : List (List Int × Int)} {w w' : World} {e : Ending} (h : OwnBag lo bag w e w') : ∃ A cap es, e = .returned (.slice A bag.length cap) ∧ OBag w' lo (.slice A bag.length cap) es ∧ es.map Ent.pair = bag ∧ Below lo w w' := by
  obtain ⟨g, cap, es, rfl, hO, he, hb⟩ := h
  have hl : es.length = bag.length := by rw [← he, List.length_map]
  refine ⟨_, cap, es, by rw [hl], ?_, he, hb⟩
  rw [← hl]; exact hO

set_option maxRecDepth 100000 in
set_option maxHeartbeats 4000000 in
theorem walkFnExactBagOf (a0 : Option Addr) (cap0 : Nat) (rows : List (List Int)) (w : World) (w0 : RawRows w w.heap.size a0 rows) (hm : rows.length ≤ maxLen) :
    Calls Try.prog 6 #[.slice a0 rows.length cap0] w fun e w' => e = .returned (.bool true) ∧ Below w.heap.size w w' := by
  go_enter Try.func6, Try.ntmps6
  go_wp2_with fail
  refine (szInt64SS_any a0 cap0 rows w w0 hm).mono ?_
  rintro e w' ⟨x, rfl, hx, rfl⟩
  have HX := Lib.hid hx
  clear hx
  by_cases h0 : x < 0
  · go_wp2
    go_ret
    exact ⟨rfl, Below.refl _ _⟩
  obtain ⟨hl1, hl2⟩ := HX.out (by omega)
  have HR := Lib.hid (show ∀ W, Below w.heap.size w W → Rws W W.heap.size a0 rows from fun W h => (w0.on h).rws (fun j hj => by have := hl2 j hj; omega))
  have HL2 := Lib.hid hl2
  have HRb := Lib.hid (show ∀ j, j < rows.length → (rr rows j).length ≤ 1099511627776 from fun j hj => by have := HL2.out j hj; omega)
  obtain ⟨W, hW⟩ : ∃ W, bagOfL rows = W := ⟨_, rfl⟩
  have hWl : W.length ≤ 2097152 := by have := bagOf_length rows; rw [hW] at this; omega
  have HWr := Lib.hid (show ∀ j, j < W.length → (rx W j).length ≤ 2097152 from fun j hj => by
    have h1 : ∀ r ∈ rows, r.length ≤ 1048576 := fun r hr => by
      obtain ⟨i, hi, rfl⟩ := List.getElem_of_mem hr
      have := HL2.out i hi
      rwa [rr_eq hi] at this
    have h2 := bagOf_rows h1
    rw [hW] at h2
    have h3 := h2 W[j] (List.getElem_mem hj)
    have h4 : rx W j = W[j].1 := by simp [rx, hj]
    rw [h4]; omega)
  have HWE := Lib.hid hW
  have HWb := Lib.hid (show ∀ j, j < W.length → (rx W j).length ≤ 1099511627776 from fun j hj => by have := HWr.out j hj; omega)
  clear hl2 w0 hm HX hW
  have hb0 := Below.refl w.heap.size w
  -- the model's answer
  go_wp2_with fail
  refine (toInt64SS_any a0 cap0 rows w (HR.out w hb0) (by omega)).mono ?_
  rintro e wA ⟨ga, rfl, hCa, _, hbA⟩
  have hbA0 := bel_step hb0 hbA
  have hRa := hCa.rws HRb.out
  clear hCa hbA hb0
  go_wp2_with fail
  refine (specBagOf_any _ _ rows wA hRa (by omega)).mono ?_
  rintro e wB hOB
  rw [HWE.out] at hOB
  obtain ⟨Aw, capw, esw, rfl, hOw, hew, hbB⟩ := hOB.form
  have HEw := Lib.hid hew
  have hbB0 := bel_step hbA0 hbB
  have Ow := hOw.oin
  clear hRa hbA0 hbB hew hOw hOB
  -- the program's answer
  go_wp2_with fail
  refine (toInt64SS_any a0 cap0 rows wB (HR.out wB hbB0) (by omega)).mono ?_
  rintro e wC ⟨gx, rfl, hCx, hgx, hbC⟩
  have HGX := Lib.hid hgx
  have hbC0 := bel_step hbB0 hbC
  have OwC := Ow.on hbC
  have hBw := hbB0.size
  have hCB : wB.heap.size < wC.heap.size := by obtain ⟨_, hB, _⟩ := hCx; exact hB.lt
  have hRx := hCx.rws HRb.out
  clear hbB0 hbC Ow hgx
  go_wp2_with fail
  refine (implBagOf_any _ _ rows wC hRx (by omega)).mono ?_
  rintro e wD hOB
  rw [HWE.out] at hOB
  obtain ⟨Ag, capg, esg, rfl, hOg, heg, hbD⟩ := hOB.form
  have HEg := Lib.hid heg
  have hbD0 := bel_step hbC0 hbD
  have Og := hOg.oin
  have OwD := OwC.on hbD
  have hCxD : RCop wB.heap.size gx rows rows.length wD := hCx.keep ⟨Nat.le_refl _, hCB⟩ HGX.out (fun b _ h2 => hbD.block b h2)
  have hDC := hbD.size
  clear hRx hbC0 hbD heg hOg OwC hCx hOB
  go_wp2_with fail
  refine (eqCountS_any _ _ _ _ W W wD (OBag.bagW Og.1 HEg.out HWb.out) (OBag.bagW OwD.1 HEw.out HWb.out) (by omega) (by omega)).mono ?_
  rintro e wE ⟨rfl, hbE⟩
  rw [decide_eq_true (rfl : W = W)]
  have hbE0 := bel_step hbD0 hbE
  have OgE := Og.on hbE
  have OwE := OwD.on hbE
  have hCxE : RCop wB.heap.size gx rows rows.length wE := hCxD.keep ⟨Nat.le_refl _, hCB⟩ HGX.out (fun b _ h2 => hbE.block b (by omega))
  have hED := hbE.size
  clear Og OwD hCxD hbE hbD0
  -- the argument stays
  go_wp2_with fail
  refine (toInt64SS_any a0 cap0 rows wE (HR.out wE hbE0) (by omega)).mono ?_
  rintro e wF ⟨gf, rfl, hCf, _, hbF⟩
  have hCxF : RCop wB.heap.size gx rows rows.length wF := hCxE.keep ⟨Nat.le_refl _, hCB⟩ HGX.out (fun b _ h2 => hbF.block b (by omega))
  go_wp2_with fail
  refine (eqInt64SS_same _ _ _ _ rows wF (hCxF.rws HRb.out) (hCf.rws HRb.out) (by omega)).mono ?_
  rintro e wG ⟨rfl, n11, hwG⟩
  have hbFG : Below wF.heap.size wF wG := by rw [hwG]; exact bel_drewN (Below.refl _ _) n11
  have hbEG := bel_step hbF hbFG
  have hbG0 := bel_step hbE0 hbEG
  have OgG := OgE.on hbEG
  have OwG := OwE.on hbEG
  have hCxG : RCop wB.heap.size gx rows rows.length wG := hCxE.keep ⟨Nat.le_refl _, hCB⟩ HGX.out (fun b _ h2 => hbEG.block b (by omega))
  clear OgE OwE hCxE hCxF hCf hbF hbFG hbEG hbE0 hwG
  -- the argument marked
  go_wp2_with fail
  refine (markInt64SS_any wB.heap.size wC.heap.size wB.heap.size _ gx rows wG hCxG ⟨Nat.le_refl _, hCB⟩ HGX.out (by omega) HL2.out).mono ?_
  rintro e wL ⟨q1, rfl, hq0, hWL⟩
  have hbGL : Below w.heap.size wG wL := (hWL.wide (lo' := w.heap.size) (hi' := wC.heap.size) hBw (Nat.le_refl _)).bel hbG0.size
  have hbM0 := hbG0.trans hbGL
  have OgM := OgG.within hWL (.inr (Nat.le_refl _))
  have OwM := OwG.within hWL (.inl (Nat.le_refl _))
  clear OgG OwG hCxG hWL hbGL hbG0
  have hd1 : decide (q1 < 0) = false := by simp; omega
  go_wp2_with fail
  refine (eqCountS_any _ _ _ _ W W wL (OBag.bagW OgM.1 HEg.out HWb.out) (OBag.bagW OwM.1 HEw.out HWb.out) (by omega) (by omega)).mono ?_
  rintro e wN ⟨rfl, hbN⟩
  rw [decide_eq_true (rfl : W = W)]
  have hbN0 := bel_step hbM0 hbN
  have OgN := OgM.on hbN
  have OwN := OwM.on hbN
  clear OgM OwM hbN hbM0
  -- the answer marked
  have HMg := Lib.hid (show ∀ e ∈ esg, e.r.length ≤ 2097152 from ents_of HEg.out HWr.out)
  have hgl : W.length = esg.length := by rw [← HEg.out, List.length_map]
  have HGL := Lib.hid hgl
  clear hgl
  go_wp2_with fail
  refine (markCountS_any _ _ _ W.length _ esg 1 wN OgN hWl HMg.out (by omega) (by omega)).mono ?_
  rintro e wO ⟨rfl, OgO, hWO⟩
  obtain ⟨hm0, hm1⟩ := kAt_fit (k := 1) (by omega) (by omega) HMg.out W.length hWl
  have hbNO : Below w.heap.size wN wO := (hWO.wide (lo' := w.heap.size) (hi' := wD.heap.size) (by omega) (Nat.le_refl _)).bel hbN0.size
  have hbO0 := hbN0.trans hbNO
  have OwO := OwN.within hWO (.inl (by omega))
  have HMb := Lib.hid (show ∀ e ∈ esg, e.r.length ≤ 1099511627776 from fun e he => by have := HMg.out e he; omega)
  clear OgN OwN hWO hbNO hbN0
  go_wp2_with fail
  refine (heldCountS_any _ W.length _ _ esg 1 wO HGL.out (OgO.bagK HMb.out) hWl HMg.out (by omega) (by omega)).mono ?_
  rintro e w' ⟨rfl, rfl⟩
  obtain ⟨q3, hq3⟩ : ∃ q3, kAt 1 esg W.length = q3 := ⟨_, rfl⟩
  rw [hq3] at hm0 hm1 ⊢
  have HQ3 := Lib.hid hq3
  clear hq3
  -- another call's answer
  go_wp2_with fail
  refine (toInt64SS_any a0 cap0 rows wO (HR.out wO hbO0) (by omega)).mono ?_
  rintro e wQ ⟨gq, rfl, hCq, _, hbQ⟩
  have hbQ0 := bel_step hbO0 hbQ
  have OwQ := OwO.on hbQ
  have OgQ := OgO.on hbQ
  have hRq := hCq.rws HRb.out
  clear hbO0 hbQ OwO OgO hCq
  go_wp2_with fail
  refine (implBagOf_any _ _ rows wQ hRq (by omega)).mono ?_
  rintro e wR hOB
  rw [HWE.out] at hOB
  obtain ⟨Ah, caph, esr, rfl, hOr, her, hbR⟩ := hOB.form
  have HER := Lib.hid her
  have hbR0 := bel_step hbQ0 hbR
  have OwR := OwQ.on hbR
  have OgR := OgQ.on hbR
  clear her hRq hbQ0 hbR OwQ OgQ hOB
  go_wp2_with fail
  refine (eqCountS_any _ _ _ _ W W wR (OBag.bagW hOr HER.out HWb.out) (OBag.bagW OwR.1 HEw.out HWb.out) (by omega) (by omega)).mono ?_
  rintro e wS ⟨rfl, hbS⟩
  rw [decide_eq_true (rfl : W = W)]
  have hbS0 := bel_step hbR0 hbS
  have OgS := OgR.on hbS
  clear OwR OgR hbS hbR0 hOr
  go_wp2_with fail
  refine (heldCountS_any _ W.length _ _ esg 1 wS HGL.out (OgS.bagK HMb.out) hWl HMg.out (by omega) (by omega)).mono ?_
  rintro e w' ⟨rfl, rfl⟩
  rw [HQ3.out]
  go_wp2
  go_ret
  exact ⟨rfl, hbS0⟩
end Go.Proofs.Ytcfnbpofbcendaa
