/- The walk of laws.FnExactSifted: it returns true, and nothing that lay has turned. -/
import Derived.Test.YtfhjgkiclfbgkaaCndF
import Derived.Test.YtfhjgkiclfbgkaaCndM
import Derived.Test.YtfhjgkiclfbgkaaCndOpen
import Derived.Test.YtfhjgkiclfbgkaaMark3
import Derived.Test.YtfhjgkiclfbgkaaSz2
import Derived.Test.YtfhjgkiclfbgkaaJB
namespace Go.Proofs.Ytfhjgkiclfbgkaa
open Go.RowKit

theorem siftL_fit {m : Nat} (l : List Cnd) {a : List (List Int × Int)} (h : ∀ j, j < a.length → (rx a j).length ≤ m) : (siftL l a).length ≤ a.length ∧ ∀ j, j < (siftL l a).length → (rx (siftL l a) j).length ≤ m := by
  unfold siftL
  split
  · refine ⟨List.length_filter_le _ _, fun j hj => ?_⟩
    have hm : (a.filter (sif l))[j] ∈ a := (List.mem_filter.1 (List.getElem_mem hj)).1
    obtain ⟨i, hi, e⟩ := List.mem_iff_getElem.1 hm
    have hr : rx (a.filter (sif l)) j = rx a i := by
      have e1 := bag_ix hj
      have e2 := bag_ix hi
      rw [e1, e2] at e
      exact (Prod.mk.inj e).1.symm
    rw [hr]
    exact h i hi
  · exact ⟨Nat.zero_le _, fun j hj => absurd hj (by simp)⟩

set_option maxRecDepth 100000 in
set_option maxHeartbeats 8000000 in
theorem walkFnExactSifted (a0 : Option Addr) (cap0 : Nat) (l : List Cnd) (a1 : Option Addr) (cap1 : Nat) (bag : List (List Int × Int)) (w : World) (c0 : Cnds w w.heap.size a0 l) (hm : l.length ≤ maxLen) (w0 : RawBag w w.heap.size a1 bag) (hm1 : bag.length ≤ maxLen) :
    Calls Try.prog 5 #[.slice a0 l.length cap0, .slice a1 bag.length cap1] w fun e w' => e = .returned (.bool true) ∧ Below w.heap.size w w' := by
  go_enter Try.func5, Try.ntmps5
  go_wp2_with fail
  refine (szCondS_any a0 l.length cap0 1048576 w hm (by omega) (by omega)).mono ?_
  rintro e w1 ⟨rfl, rfl⟩
  by_cases hbig : (1048576 : Int) < l.length
  · rw [if_pos hbig]
    clear hbig
    go_wp2
    go_ret
    exact ⟨rfl, Below.refl _ _⟩
  rw [if_neg hbig]
  have hlc : l.length ≤ 1048576 := by omega
  have hd : decide (1048576 - (l.length : Int) < 0) = false := by simp; omega
  clear hm hbig
  go_wp2_with fail
  refine (szCountS_left a1 cap1 bag (1048576 - (l.length : Int)) w w0 hm1 (by omega) (by omega)).mono ?_
  rintro e w1 ⟨x, rfl, hx1, hx, hb1⟩
  have HX := Lib.hid hx
  clear hx hd
  by_cases h0 : x < 0
  · go_wp2
    go_ret
    exact ⟨rfl, hb1⟩
  obtain ⟨hl1, hl2⟩ := HX.out (by omega)
  have HL2 := Lib.hid hl2
  have hb20 := hb1
  obtain ⟨w2, hw2⟩ : ∃ w2, w2 = w1 := ⟨_, rfl⟩
  subst hw2
  clear hl2 HX hx1 hb1
  have HB := Lib.hid (show ∀ W, Below w.heap.size w W → Bag W W.heap.size a1 bag from fun W h => (w0.on h).bag (fun j hj => by have := HL2.out j hj; omega))
  have HC := Lib.hid (show ∀ W, Below w.heap.size w W → Cnds W W.heap.size a0 l from fun W h => c0.on h)
  obtain ⟨hWl0, hWr⟩ := siftL_fit l HL2.out
  have HWr := Lib.hid hWr
  have hWl : (siftL l bag).length ≤ 2097152 := by omega
  clear w0 hm1 hWr hWl0 c0
  obtain ⟨W, hW⟩ : ∃ W, siftL l bag = W := ⟨_, rfl⟩
  rw [hW] at hWl HWr
  have HWE := Lib.hid hW
  clear hW
  have HWb := Lib.hid (show ∀ j, j < W.length → (rx W j).length ≤ 1099511627776 from fun j hj => by have := HWr.out j hj; omega)
  have HBb := Lib.hid (show ∀ j, j < bag.length → (rx bag j).length ≤ 1099511627776 from fun j hj => by have := HL2.out j hj; omega)
  -- the model's answer
  go_wp2_with fail
  refine (toCondS_any a0 cap0 l w2 (HC.out w2 hb20) (by omega)).mono ?_
  rintro e wX ⟨rfl, hCa, hbX⟩
  have hbX0 := bel_step hb20 hbX
  clear hb20 hbX
  go_wp2_with fail
  refine (toCountS_own a1 cap1 bag wX (HB.out wX hbX0) (by omega)).mono ?_
  rintro e wA ⟨esa, rfl, hOa, hea, hbA⟩
  have hbA0 := bel_step hbX0 hbA
  have HEA := Lib.hid hea
  have hCa1 := hCa.on hbA
  clear hea hbX0 hCa
  have hRa := OBag.bagW hOa HEA.out HBb.out
  clear hOa hbA
  go_wp2_with fail
  refine (specSifted_any _ _ _ _ l bag wA hCa1.cnds hRa (by omega) (by omega)).mono ?_
  rintro e wC ⟨vw, esw, rfl, hOw, hew, hbC⟩
  rw [HWE.out] at hew
  obtain ⟨Aw, capw, rfl⟩ := hOw.formW hew
  have HEw := Lib.hid hew
  have hbC0 := bel_step hbA0 hbC
  have Ow := hOw.oin
  have hAC := hbC.size
  clear hRa hbA0 hbC hew hOw hCa1
  -- the program's answer
  go_wp2_with fail
  refine (toCondS_any a0 cap0 l wC (HC.out wC hbC0) (by omega)).mono ?_
  rintro e wE ⟨rfl, hCx, hbE⟩
  have hbE0 := bel_step hbC0 hbE
  have OwE := Ow.on hbE
  have hC0 := hbC0.size
  have hgx := Blk.lt hCx
  have hCx1 := hCx.row
  clear hbC0 hbE Ow hCx
  go_wp2_with fail
  refine (toCountS_own a1 cap1 bag wE (HB.out wE hbE0) (by omega)).mono ?_
  rintro e wD ⟨esx, rfl, hOx, hex, hbD⟩
  have HEX := Lib.hid hex
  have hbD0 := bel_step hbE0 hbD
  have OwD := OwE.on hbD
  have Ox := hOx.oin
  have CxD := hCx1.on hbD
  have hDC := hbD.size
  clear hex hbE0 hbD OwE hOx hCx1
  have hRx := OBag.bagW Ox.1 HEX.out HBb.out
  go_wp2_with fail
  refine (implSifted_any _ _ _ _ l bag wD CxD.cnds hRx (by omega) (by omega)).mono ?_
  rintro e wF ⟨vg, esg, rfl, hOg, heg, hbF⟩
  rw [HWE.out] at heg
  obtain ⟨Ag, capg, rfl⟩ := hOg.formW heg
  have HEg := Lib.hid heg
  have hbF0 := bel_step hbD0 hbF
  have Og := hOg.oin
  have OwF := OwD.on hbF
  have OxF := Ox.on hbF
  have CxF := CxD.on hbF
  have hFE := hbF.size
  clear hRx hbD0 hbF heg hOg OwD Ox CxD
  go_wp2_with fail
  refine (eqCountS_any _ _ _ _ W W wF (OBag.bagW Og.1 HEg.out HWb.out) (OBag.bagW OwF.1 HEw.out HWb.out) (by omega) (by omega)).mono ?_
  rintro e wG ⟨rfl, hbG⟩
  rw [decide_eq_true (rfl : W = W)]
  have hbG0 := bel_step hbF0 hbG
  have OgG := Og.on hbG
  have OwG := OwF.on hbG
  have OxG := OxF.on hbG
  have CxG := CxF.on hbG
  clear Og OwF OxF hbG hbF0 CxF
  -- the arguments stay
  go_wp2_with fail
  refine (toCondS_any a0 cap0 l wG (HC.out wG hbG0) (by omega)).mono ?_
  rintro e wP ⟨rfl, hCp, hbP⟩
  have CxP := CxG.on hbP
  go_wp2_with fail
  refine (eqCondS_any _ _ _ _ l l wP CxP.cnds hCp.cnds (by omega) (by omega)).mono ?_
  rintro e wQ ⟨rfl, hbQ⟩
  rw [decide_eq_true (rfl : l = l)]
  have hbGQ := bel_step hbP hbQ
  have hbQ0 := bel_step hbG0 hbGQ
  have OgQ := OgG.on hbGQ
  have OwQ := OwG.on hbGQ
  have OxQ := OxG.on hbGQ
  have CxQ := CxG.on hbGQ
  clear OgG OwG OxG CxG hbP hbQ hbGQ hbG0 CxP hCp
  go_wp2_with fail
  refine (toCountS_own a1 cap1 bag wQ (HB.out wQ hbQ0) (by omega)).mono ?_
  rintro e wH ⟨esh, rfl, hOh, heh, hbH⟩
  have HEH := Lib.hid heh
  have OxH := OxQ.on hbH
  clear heh
  go_wp2_with fail
  refine (eqCountS_any _ _ _ _ bag bag wH (OBag.bagW OxH.1 HEX.out HBb.out) (OBag.bagW hOh HEH.out HBb.out) (by omega) (by omega)).mono ?_
  rintro e wI ⟨rfl, hbI⟩
  rw [decide_eq_true (rfl : bag = bag)]
  have hbGI := bel_step hbH hbI
  have hbI0 := bel_step hbQ0 hbGI
  have OgI := OgQ.on hbGI
  have OwI := OwQ.on hbGI
  have OxI := OxQ.on hbGI
  have CxI := CxQ.on hbGI
  clear OgQ OwQ OxQ CxQ OxH hOh hbH hbI hbGI hbQ0 HEH
  -- the arguments marked
  have HMx := Lib.hid (show ∀ e ∈ esx, e.r.length ≤ 2097152 from ents_of HEX.out (fun j hj => by have := HL2.out j hj; omega))
  have HMg := Lib.hid (show ∀ e ∈ esg, e.r.length ≤ 2097152 from ents_of HEg.out (fun j hj => by have := HWr.out j hj; omega))
  have hbl : bag.length ≤ 2097152 := by omega
  go_wp2_with fail
  refine (markCondS_any _ _ wC.heap.size 1 l wI CxI (by omega) (by omega)).mono ?_
  rintro e wK ⟨rfl, _, hgK⟩
  have hWK : Within wC.heap.size (wC.heap.size + 1) wI wK := Within.of_grown hgK (.inl ⟨Nat.le_refl _, Nat.lt_succ_self _⟩)
  have hbIK : Below w.heap.size wI wK := (hWK.wide (lo' := w.heap.size) (hi' := wD.heap.size) hC0 (by omega)).bel hbI0.size
  have hbK0 := hbI0.trans hbIK
  have OgK := OgI.within hWK (.inr (by omega))
  have OwK := OwI.within hWK (.inl (Nat.le_refl _))
  have OxK := OxI.within hWK (.inr hgx)
  have hk0 : 0 ≤ ((1 + 4 * l.length : Nat) : Int) := Int.natCast_nonneg _
  have hk1 : ((1 + 4 * l.length : Nat) : Int) ≤ 8388608 := by omega
  clear OgI OwI OxI CxI hgK hWK hbIK hbI0
  generalize ((1 + 4 * l.length : Nat) : Int) = kk at *
  go_wp2_with fail
  refine (markCountS_more _ _ _ bag.length _ esx kk wK OxK hbl HMx.out hk0 (by omega)).mono ?_
  rintro e wL ⟨rfl, _, hWL⟩
  obtain ⟨hq0, hq1⟩ := kAt_more (k := kk) hk0 (by omega) HMx.out bag.length hbl
  have hbKL : Below w.heap.size wK wL := (hWL.wide (lo' := w.heap.size) (hi' := wD.heap.size) (by omega) (Nat.le_refl _)).bel hbK0.size
  have hbL0 := hbK0.trans hbKL
  have OgL := OgK.within hWL (.inr (Nat.le_refl _))
  have OwL := OwK.within hWL (.inl (by omega))
  clear OxK OgK OwK hWL hbKL hbK0 HMx
  generalize kAt kk esx bag.length = q1 at *
  go_wp2_with fail
  refine (eqCountS_any _ _ _ _ W W wL (OBag.bagW OgL.1 HEg.out HWb.out) (OBag.bagW OwL.1 HEw.out HWb.out) (by omega) (by omega)).mono ?_
  rintro e wN ⟨rfl, hbN⟩
  rw [decide_eq_true (rfl : W = W)]
  have hbN0 := bel_step hbL0 hbN
  have OgN := OgL.on hbN
  have OwN := OwL.on hbN
  clear OgL OwL hbN hbL0 hq1 hk0 hk1
  -- the answer marked
  have hgl : W.length = esg.length := by rw [← HEg.out, List.length_map]
  have HGL := Lib.hid hgl
  clear hgl
  go_wp2_with fail
  refine (markCountS_any _ _ _ W.length _ esg 1 wN OgN hWl HMg.out (by omega) (by omega)).mono ?_
  rintro e wO ⟨rfl, OgO, hWO⟩
  obtain ⟨hm0, hm1⟩ := kAt_fit (k := 1) (by omega) (by omega) HMg.out W.length hWl
  have hbNO : Below w.heap.size wN wO := (hWO.wide (lo' := w.heap.size) (hi' := wF.heap.size) (by omega) (Nat.le_refl _)).bel hbN0.size
  have hbO0 := hbN0.trans hbNO
  have OwO := OwN.within hWO (.inl (by omega))
  have HMb := Lib.hid (show ∀ e ∈ esg, e.r.length ≤ 1099511627776 from fun e he => by have := HMg.out e he; omega)
  clear OgN OwN hWO hbNO hbN0
  go_wp2_with fail
  refine (heldCountS_any _ W.length _ _ esg 1 wO HGL.out (OgO.bagK HMb.out) hWl HMg.out (by omega) (by omega)).mono ?_
  rintro e w' ⟨rfl, rfl⟩
  obtain ⟨q3, hq3⟩ : ∃ q3, kAt 1 esg W.length = q3 := ⟨_, rfl⟩
  rw [hq3] at hm0 hm1 ⊢
  have HQ3 := Lib.hid hq3
  clear hq3
  -- another call's answer
  go_wp2_with fail
  refine (toCondS_any a0 cap0 l wO (HC.out wO hbO0) (by omega)).mono ?_
  rintro e wS ⟨rfl, hCs, hbS⟩
  have hbS0 := bel_step hbO0 hbS
  have OwS := OwO.on hbS
  have OgS := OgO.on hbS
  clear hbO0 hbS OwO OgO
  go_wp2_with fail
  refine (toCountS_own a1 cap1 bag wS (HB.out wS hbS0) (by omega)).mono ?_
  rintro e wT ⟨esp, rfl, hOp, hep, hbT⟩
  have HEP := Lib.hid hep
  have hbT0 := bel_step hbS0 hbT
  have OwT := OwS.on hbT
  have OgT := OgS.on hbT
  have hCt := hCs.on hbT
  clear hep hbS0 hbT OwS OgS hCs
  have hRp := OBag.bagW hOp HEP.out HBb.out
  clear hOp
  go_wp2_with fail
  refine (implSifted_any _ _ _ _ l bag wT hCt.cnds hRp (by omega) (by omega)).mono ?_
  rintro e wR ⟨vh, esr, rfl, hOr, her, hbR⟩
  rw [HWE.out] at her
  obtain ⟨Ah, caph, rfl⟩ := hOr.formW her
  have HER := Lib.hid her
  have hbR0 := bel_step hbT0 hbR
  have OwR := OwT.on hbR
  have OgR := OgT.on hbR
  clear her hRp hbT0 hbR OwT OgT hCt
  go_wp2_with fail
  refine (eqCountS_any _ _ _ _ W W wR (OBag.bagW hOr HER.out HWb.out) (OBag.bagW OwR.1 HEw.out HWb.out) (by omega) (by omega)).mono ?_
  rintro e wU ⟨rfl, hbU⟩
  rw [decide_eq_true (rfl : W = W)]
  have hbU0 := bel_step hbR0 hbU
  have OgU := OgR.on hbU
  clear OwR OgR hbU hbR0 hOr
  go_wp2_with fail
  refine (heldCountS_any _ W.length _ _ esg 1 wU HGL.out (OgU.bagK HMb.out) hWl HMg.out (by omega) (by omega)).mono ?_
  rintro e w' ⟨rfl, rfl⟩
  rw [HQ3.out]
  go_wp2
  go_ret
  exact ⟨rfl, hbU0⟩
end Go.Proofs.Ytfhjgkiclfbgkaa
