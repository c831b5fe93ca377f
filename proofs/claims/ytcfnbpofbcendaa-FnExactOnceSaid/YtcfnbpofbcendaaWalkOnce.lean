/- The walk of laws.FnExactOnce: it returns true, and nothing that lay has turned. -/
import Derived.Test.YtcfnbpofbcendaaOnc1
import Derived.Test.YtcfnbpofbcendaaMark3
import Derived.Test.YtcfnbpofbcendaaSz2
import Derived.Test.YtcfnbpofbcendaaJB
namespace Go.Proofs.Ytcfnbpofbcendaa
open Go.RowKit

theorem onceB_fit {m : Nat} {a : List (List Int × Int)} (h : ∀ j, j < a.length → (rx a j).length ≤ m) : (onceB a).length ≤ a.length ∧ ∀ j, j < (onceB a).length → (rx (onceB a) j).length ≤ m := by
  unfold onceB
  split
  · refine ⟨once_len a, rows_mem.2 fun p hp => ?_⟩
    unfold onceL at hp
    obtain ⟨q, hq, rfl⟩ := List.mem_map.1 hp
    exact rows_mem.1 h q ((List.mem_filter.1 hq).1)
  · exact ⟨Nat.zero_le _, fun j hj => absurd hj (by simp)⟩
set_option maxRecDepth 100000 in
set_option maxHeartbeats 4000000 in
theorem walkFnExactOnce (a0 : Option Addr) (cap0 : Nat) (bag : List (List Int × Int)) (w : World) (w0 : RawBag w w.heap.size a0 bag) (hm : bag.length ≤ maxLen) :
    Calls Try.prog 3 #[.slice a0 bag.length cap0] w fun e w' => e = .returned (.bool true) ∧ Below w.heap.size w w' := by
  go_enter Try.func3, Try.ntmps3
  go_wp2_with fail
  refine (szCountS_left a0 cap0 bag 1048576 w w0 hm (by omega) (by omega)).mono ?_
  rintro e w1 ⟨x, rfl, hx1, hx, hb1⟩
  have HX := Lib.hid hx
  clear hx
  by_cases h0 : x < 0
  · go_wp2
    go_ret
    exact ⟨rfl, hb1⟩
  obtain ⟨hl1, hl2⟩ := HX.out (by omega)
  have HL2 := Lib.hid hl2
  have hb20 := hb1
  obtain ⟨w2, hw2⟩ : ∃ w2, w2 = w1 := ⟨_, rfl⟩
  subst hw2
  clear hl2 HX hx1 hb1
  have HB := Lib.hid (show ∀ W, Below w.heap.size w W → Bag W W.heap.size a0 bag from fun W h => (w0.on h).bag (fun j hj => by have := HL2.out j hj; omega))
  obtain ⟨hWl0, hWr⟩ := onceB_fit HL2.out
  have HWr := Lib.hid hWr
  have hWl : (onceB bag).length ≤ 2097152 := by omega
  clear w0 hm hWr hWl0
  obtain ⟨W, hW⟩ : ∃ W, onceB bag = W := ⟨_, rfl⟩
  rw [hW] at hWl HWr
  have HWE := Lib.hid hW
  clear hW
  have HWb := Lib.hid (show ∀ j, j < W.length → (rx W j).length ≤ 1099511627776 from fun j hj => by have := HWr.out j hj; omega)
  have HBb := Lib.hid (show ∀ j, j < bag.length → (rx bag j).length ≤ 1099511627776 from fun j hj => by have := HL2.out j hj; omega)
  -- the model's answer
  go_wp2_with fail
  refine (toCountS_own a0 cap0 bag w2 (HB.out w2 hb20) (by omega)).mono ?_
  rintro e wA ⟨esa, rfl, hOa, hea, hbA⟩
  have hbA0 := bel_step hb20 hbA
  have HEA := Lib.hid hea
  clear hea hb20
  have hRa := OBag.bagW hOa HEA.out HBb.out
  clear hOa hbA
  go_wp2_with fail
  refine ((specOnce_any _ _ bag wA hRa (by omega)).mono fun _ _ h => OwnBag.b h).mono ?_
  rintro e wC ⟨vw, esw, rfl, hOw, hew, hbC⟩
  rw [HWE.out] at hew
  obtain ⟨Aw, capw, rfl⟩ := hOw.formW hew
  have HEw := Lib.hid hew
  have hbC0 := bel_step hbA0 hbC
  have Ow := hOw.oin
  clear hRa hbA0 hbC hew hOw
  -- the program's answer
  go_wp2_with fail
  refine (toCountS_own a0 cap0 bag wC (HB.out wC hbC0) (by omega)).mono ?_
  rintro e wD ⟨esx, rfl, hOx, hex, hbD⟩
  have HEX := Lib.hid hex
  have hbD0 := bel_step hbC0 hbD
  have OwD := Ow.on hbD
  have Ox := hOx.oin
  have hC0 := hbC0.size
  have hDC := hbD.size
  clear hex hbC0 hbD Ow hOx
  have hRx := OBag.bagW Ox.1 HEX.out HBb.out
  go_wp2_with fail
  refine ((implOnce_any _ _ bag wD hRx (by omega)).mono fun _ _ h => OwnBag.b h).mono ?_
  rintro e wF ⟨vg, esg, rfl, hOg, heg, hbF⟩
  rw [HWE.out] at heg
  obtain ⟨Ag, capg, rfl⟩ := hOg.formW heg
  have HEg := Lib.hid heg
  have hbF0 := bel_step hbD0 hbF
  have Og := hOg.oin
  have OwF := OwD.on hbF
  have OxF := Ox.on hbF
  have hFE := hbF.size
  clear hRx hbD0 hbF heg hOg OwD Ox
  go_wp2_with fail
  refine (eqCountS_any _ _ _ _ W W wF (OBag.bagW Og.1 HEg.out HWb.out) (OBag.bagW OwF.1 HEw.out HWb.out) (by omega) (by omega)).mono ?_
  rintro e wG ⟨rfl, hbG⟩
  rw [decide_eq_true (rfl : W = W)]
  have hbG0 := bel_step hbF0 hbG
  have OgG := Og.on hbG
  have OwG := OwF.on hbG
  have OxG := OxF.on hbG
  clear Og OwF OxF hbG hbF0
  -- the arguments stay
  go_wp2_with fail
  refine (toCountS_own a0 cap0 bag wG (HB.out wG hbG0) (by omega)).mono ?_
  rintro e wH ⟨esh, rfl, hOh, heh, hbH⟩
  have HEH := Lib.hid heh
  have OxH := OxG.on hbH
  clear heh
  go_wp2_with fail
  refine (eqCountS_any _ _ _ _ bag bag wH (OBag.bagW OxH.1 HEX.out HBb.out) (OBag.bagW hOh HEH.out HBb.out) (by omega) (by omega)).mono ?_
  rintro e wI ⟨rfl, hbI⟩
  rw [decide_eq_true (rfl : bag = bag)]
  have hbGI := bel_step hbH hbI
  have hbI0 := bel_step hbG0 hbGI
  have OgI := OgG.on hbGI
  have OwI := OwG.on hbGI
  have OxI := OxG.on hbGI
  clear OgG OwG OxG OxH hOh hbH hbI hbGI hbG0 HEH
  -- the arguments marked
  have HMx := Lib.hid (show ∀ e ∈ esx, e.r.length ≤ 2097152 from ents_of HEX.out (fun j hj => by have := HL2.out j hj; omega))
  have HMg := Lib.hid (show ∀ e ∈ esg, e.r.length ≤ 2097152 from ents_of HEg.out (fun j hj => by have := HWr.out j hj; omega))
  have hbl : bag.length ≤ 2097152 := by omega
  go_wp2_with fail
  refine (markCountS_more _ _ _ bag.length _ esx 1 wI OxI hbl HMx.out (by omega) (by omega)).mono ?_
  rintro e wL ⟨rfl, _, hWL⟩
  obtain ⟨hq0, hq1⟩ := kAt_more (k := 1) (by omega) (by omega) HMx.out bag.length hbl
  have hbKL : Below w.heap.size wI wL := (hWL.wide (lo' := w.heap.size) (hi' := wD.heap.size) hC0 (Nat.le_refl _)).bel hbI0.size
  have hbL0 := hbI0.trans hbKL
  have OgL := OgI.within hWL (.inr (Nat.le_refl _))
  have OwL := OwI.within hWL (.inl (Nat.le_refl _))
  clear OxI OgI OwI hWL hbKL hbI0 HMx
  generalize kAt 1 esx bag.length = q1 at *
  go_wp2_with fail
  refine (eqCountS_any _ _ _ _ W W wL (OBag.bagW OgL.1 HEg.out HWb.out) (OBag.bagW OwL.1 HEw.out HWb.out) (by omega) (by omega)).mono ?_
  rintro e wN ⟨rfl, hbN⟩
  rw [decide_eq_true (rfl : W = W)]
  have hbN0 := bel_step hbL0 hbN
  have OgN := OgL.on hbN
  have OwN := OwL.on hbN
  clear OgL OwL hbN hbL0 hq1
  -- the answer marked
  have hgl : W.length = esg.length := by rw [← HEg.out, List.length_map]
  have HGL := Lib.hid hgl
  clear hgl
  go_wp2_with fail
  refine (markCountS_any _ _ _ W.length _ esg 1 wN OgN hWl HMg.out (by omega) (by omega)).mono ?_
  rintro e wO ⟨rfl, OgO, hWO⟩
  obtain ⟨hm0, hm1⟩ := kAt_fit (k := 1) (by omega) (by omega) HMg.out W.length hWl
  have hbNO : Below w.heap.size wN wO := (hWO.wide (lo' := w.heap.size) (hi' := wF.heap.size) (by omega) (Nat.le_refl _)).bel hbN0.size
  have hbO0 := hbN0.trans hbNO
  have OwO := OwN.within hWO (.inl (by omega))
  have HMb := Lib.hid (show ∀ e ∈ esg, e.r.length ≤ 1099511627776 from fun e he => by have := HMg.out e he; omega)
  clear OgN OwN hWO hbNO hbN0
  go_wp2_with fail
  refine (heldCountS_any _ W.length _ _ esg 1 wO HGL.out (OgO.bagK HMb.out) hWl HMg.out (by omega) (by omega)).mono ?_
  rintro e w' ⟨rfl, rfl⟩
  obtain ⟨q3, hq3⟩ : ∃ q3, kAt 1 esg W.length = q3 := ⟨_, rfl⟩
  rw [hq3] at hm0 hm1 ⊢
  have HQ3 := Lib.hid hq3
  clear hq3
  -- another call's answer
  go_wp2_with fail
  refine (toCountS_own a0 cap0 bag wO (HB.out wO hbO0) (by omega)).mono ?_
  rintro e wP ⟨esp, rfl, hOp, hep, hbP⟩
  have HEP := Lib.hid hep
  have hbP0 := bel_step hbO0 hbP
  have OwP := OwO.on hbP
  have OgP := OgO.on hbP
  clear hep hbO0 hbP OwO OgO
  have hRp := OBag.bagW hOp HEP.out HBb.out
  clear hOp
  go_wp2_with fail
  refine ((implOnce_any _ _ bag wP hRp (by omega)).mono fun _ _ h => OwnBag.b h).mono ?_
  rintro e wR ⟨vh, esr, rfl, hOr, her, hbR⟩
  rw [HWE.out] at her
  obtain ⟨Ah, caph, rfl⟩ := hOr.formW her
  have HER := Lib.hid her
  have hbR0 := bel_step hbP0 hbR
  have OwR := OwP.on hbR
  have OgR := OgP.on hbR
  clear her hRp hbP0 hbR OwP OgP
  go_wp2_with fail
  refine (eqCountS_any _ _ _ _ W W wR (OBag.bagW hOr HER.out HWb.out) (OBag.bagW OwR.1 HEw.out HWb.out) (by omega) (by omega)).mono ?_
  rintro e wS ⟨rfl, hbS⟩
  rw [decide_eq_true (rfl : W = W)]
  have hbS0 := bel_step hbR0 hbS
  have OgS := OgR.on hbS
  clear OwR OgR hbS hbR0 hOr
  go_wp2_with fail
  refine (heldCountS_any _ W.length _ _ esg 1 wS HGL.out (OgS.bagK HMb.out) hWl HMg.out (by omega) (by omega)).mono ?_
  rintro e w' ⟨rfl, rfl⟩
  rw [HQ3.out]
  go_wp2
  go_ret
  exact ⟨rfl, hbS0⟩
end Go.Proofs.Ytcfnbpofbcendaa
