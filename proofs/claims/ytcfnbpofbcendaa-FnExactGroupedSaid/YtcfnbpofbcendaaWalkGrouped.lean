/- The walk of laws.FnExactGrouped: it returns true, and nothing that lay has turned. -/
import Derived.Test.YtcfnbpofbcendaaGrp4
import Derived.Test.YtcfnbpofbcendaaMark3
import Derived.Test.YtcfnbpofbcendaaJB
namespace Go.Proofs.Ytcfnbpofbcendaa
open Go.RowKit

/-- The bag of an own bag whose counts are marked. -/
theorem OIn.bagG {w : World} {lo hi n c : Nat} {A : Option Addr} {es : List Ent} {k : Int} (h : OIn w lo hi (.slice A n c) (markTo k es n)) (hl : ∀ e ∈ es, e.r.length ≤ 1099511627776) : Bag w w.heap.size A ((markTo k es n).map Ent.pair) := by
  refine OBag.bag h.1 fun e he => ?_
  obtain ⟨j, hj, rfl⟩ := List.getElem_of_mem he
  have hj' : j < es.length := by rw [markTo_length] at hj; exact hj
  rw [(markTo_gr hj' hj).2]
  exact hl _ (List.getElem_mem hj')

set_option maxRecDepth 100000 in
set_option maxHeartbeats 4000000 in
theorem walkFnExactGrouped (a0 : Option Addr) (cap0 : Nat) (bag : List (List Int × Int)) (a1 : Option Addr) (len1 cap1 : Nat) (z1 : List Int) (n : Int) (w : World) (w0 : RawBag w w.heap.size a0 bag) (hm : bag.length ≤ maxLen) (w1' : IsRow .i64 w a1 len1 cap1 z1) (_wn : (Lit.int .i64 n).wf = true) :
    Calls Try.prog 5 #[.slice a0 bag.length cap0, .slice a1 len1 cap1, .int .i64 n] w fun e w' => e = .returned (.bool true) ∧ Below w.heap.size w w' := by
  clear _wn
  obtain ⟨row, rfl, hI, hm1, _⟩ := isRow_ints w1'
  unfold maxLen at hm1
  by_cases hbig : 1048576 < row.length
  · have hb : (1048576 : Int) < (row.length : Int) := by omega
    go_enter Try.func5, Try.ntmps5
    go_wp2
    go_ret
    exact ⟨rfl, Below.refl _ _⟩
  have hb : decide ((1048576 : Int) < (row.length : Int)) = false := by simp; omega
  have hlr : row.length ≤ 1048576 := by omega
  clear hbig hm1 w1'
  go_enter Try.func5, Try.ntmps5
  go_wp2_with fail
  refine (szCountS_any a0 cap0 bag w w0 hm).mono ?_
  rintro e w1 ⟨x, rfl, hx, hb1⟩
  have HX := Lib.hid hx
  clear hx
  by_cases h0 : x < 0
  · go_wp2
    go_ret
    exact ⟨rfl, hb1⟩
  obtain ⟨hl1, hl2⟩ := HX.out (by omega)
  have HB := Lib.hid (show ∀ W, Below w.heap.size w W → Bag W W.heap.size a0 bag from fun W h => (w0.on h).bag (fun j hj => by have := hl2 j hj; omega))
  have HI := Lib.hid (show ∀ W, Below w.heap.size w W → Ints W W.heap.size a1 row from fun W h => hI.on h)
  obtain ⟨hWl0, hWr0⟩ := grpB_fit (b := bag) (p := n) (m := 2097152) (show row.length + 2 ≤ 2097152 by omega)
  have HWr := Lib.hid hWr0
  have hWl : (grpB bag row n).length ≤ 2097152 := by omega
  clear hWl0 hWr0
  have HL2 := Lib.hid hl2
  clear hl2 w0 hm HX hI
  obtain ⟨W, hW⟩ : ∃ W, grpB bag row n = W := ⟨_, rfl⟩
  rw [hW] at hWl HWr
  have HWE := Lib.hid hW
  clear hW
  have HWb := Lib.hid (show ∀ j, j < W.length → (rx W j).length ≤ 1099511627776 from fun j hj => by have := HWr.out j hj; omega)
  have HBb := Lib.hid (show ∀ j, j < bag.length → (rx bag j).length ≤ 1099511627776 from fun j hj => by have := HL2.out j hj; omega)
  have HBs := Lib.hid (show ∀ j, j < bag.length → (rx bag j).length ≤ 1073741824 from fun j hj => by have := HL2.out j hj; omega)
  -- the model's answer
  go_wp2_with fail
  refine (toCountS_own a0 cap0 bag w1 (HB.out w1 hb1) (by omega)).mono ?_
  rintro e wA ⟨esa, rfl, hOa, hea, hbA⟩
  have hbA0 := bel_step hb1 hbA
  have HEA := Lib.hid hea
  clear hea hb1
  go_wp2_with fail
  refine (toInt64S_any a1 cap1 row wA (HI.out wA hbA0) (by omega)).mono ?_
  rintro e wB ⟨rfl, hra, hbB, _⟩
  have hbB0 := bel_step hbA0 hbB
  have hRa := OBag.bagW (hOa.on hbB) HEA.out HBb.out
  clear hOa hbA hbA0 hbB
  go_wp2_with fail
  refine ((specGrouped_any _ _ _ _ bag row n wB hRa hra.ints (by omega) HBs.out (by omega)).mono fun _ _ h => OwnBag.b h).mono ?_
  rintro e wC ⟨vw, esw, rfl, hOw, hew, hbC⟩
  rw [HWE.out] at hew
  obtain ⟨Aw, capw, rfl⟩ := hOw.formW hew
  have HEw := Lib.hid hew
  have hbC0 := bel_step hbB0 hbC
  have Ow := hOw.oin
  clear hRa hra hbB0 hbC hew hOw
  -- the program's answer
  go_wp2_with fail
  refine (toCountS_own a0 cap0 bag wC (HB.out wC hbC0) (by omega)).mono ?_
  rintro e wD ⟨esx, rfl, hOx, hex, hbD⟩
  have HEX := Lib.hid hex
  have hbD0 := bel_step hbC0 hbD
  have OwD := Ow.on hbD
  have Ox := hOx.oin
  have hC0 := hbC0.size
  have hDC := hbD.size
  clear hex hbC0 hbD Ow hOx
  go_wp2_with fail
  refine (toInt64S_any a1 cap1 row wD (HI.out wD hbD0) (by omega)).mono ?_
  rintro e wE ⟨rfl, X1, hbE, _⟩
  have hbE0 := bel_step hbD0 hbE
  have OwE := OwD.on hbE
  have OxE := Ox.on hbE
  have hED := hbE.size
  have hXE := X1.lt
  have hRx := OBag.bagW OxE.1 HEX.out HBb.out
  clear hbD0 hbE OwD Ox
  go_wp2_with fail
  refine ((implGrouped_any _ _ _ _ bag row n wE hRx X1.ints (by omega) HBs.out (by omega)).mono fun _ _ h => OwnBag.b h).mono ?_
  rintro e wF ⟨vg, esg, rfl, hOg, heg, hbF⟩
  rw [HWE.out] at heg
  obtain ⟨Ag, capg, rfl⟩ := hOg.formW heg
  have HEg := Lib.hid heg
  have hbF0 := bel_step hbE0 hbF
  have Og := hOg.oin
  have OwF := OwE.on hbF
  have OxF := OxE.on hbF
  have X1F := X1.below hbF X1.lt
  have hFE := hbF.size
  clear hRx hbE0 hbF heg hOg OwE OxE X1
  go_wp2_with fail
  refine (eqCountS_any _ _ _ _ W W wF (OBag.bagW Og.1 HEg.out HWb.out) (OBag.bagW OwF.1 HEw.out HWb.out) (by omega) (by omega)).mono ?_
  rintro e wG ⟨rfl, hbG⟩
  rw [decide_eq_true (rfl : W = W)]
  have hbG0 := bel_step hbF0 hbG
  have OgG := Og.on hbG
  have OwG := OwF.on hbG
  have OxG := OxF.on hbG
  have X1G := X1F.below hbG X1F.lt
  clear Og OwF OxF X1F hbG hbF0
  -- the arguments stay
  go_wp2_with fail
  refine (toCountS_own a0 cap0 bag wG (HB.out wG hbG0) (by omega)).mono ?_
  rintro e wH ⟨esh, rfl, hOh, heh, hbH⟩
  have HEH := Lib.hid heh
  have OxH := OxG.on hbH
  clear heh
  go_wp2_with fail
  refine (eqCountS_any _ _ _ _ bag bag wH (OBag.bagW OxH.1 HEX.out HBb.out) (OBag.bagW hOh HEH.out HBb.out) (by omega) (by omega)).mono ?_
  rintro e wI ⟨rfl, hbI⟩
  rw [decide_eq_true (rfl : bag = bag)]
  have hbGI := bel_step hbH hbI
  have hbI0 := bel_step hbG0 hbGI
  have OgI := OgG.on hbGI
  have OwI := OwG.on hbGI
  have OxI := OxG.on hbGI
  have X1I := X1G.below hbGI X1G.lt
  clear OgG OwG OxG X1G OxH hOh hbH hbI hbGI hbG0 HEH
  go_wp2_with fail
  refine (toInt64S_any a1 cap1 row wI (HI.out wI hbI0) (by omega)).mono ?_
  rintro e wJ ⟨rfl, hr2, hbJ, _⟩
  have X1J := X1I.below hbJ X1I.lt
  go_wp2_with fail
  refine (eqInt64S_any _ _ _ _ row row wJ _ _ X1J.ints hr2.ints (by omega) (by omega)).mono ?_
  rintro e wK ⟨rfl, n11, hwK⟩
  rw [decide_eq_true (rfl : row = row)]
  have hbJK : Below wJ.heap.size wJ wK := by rw [hwK]; exact bel_drewN (Below.refl _ _) n11
  have hbIK := bel_step hbJ hbJK
  have hbK0 := bel_step hbI0 hbIK
  have OgK := OgI.on hbIK
  have OwK := OwI.on hbIK
  have OxK := OxI.on hbIK
  have X1K := X1I.below hbIK X1I.lt
  clear OgI OwI OxI X1I X1J hr2 hbJ hbJK hbIK hbI0 hwK
  -- the arguments marked
  have HMx := Lib.hid (show ∀ e ∈ esx, e.r.length ≤ 2097152 from ents_of HEX.out (fun j hj => by have := HL2.out j hj; omega))
  have HMg := Lib.hid (show ∀ e ∈ esg, e.r.length ≤ 2097152 from ents_of HEg.out (fun j hj => by have := HWr.out j hj; omega))
  have hbl : bag.length ≤ 2097152 := by omega
  go_wp2_with fail
  refine (markCountS_any _ _ _ bag.length _ esx 1 wK OxK hbl HMx.out (by omega) (by omega)).mono ?_
  rintro e wL ⟨rfl, _, hWL⟩
  obtain ⟨hq0, hq1⟩ := kAt_fit (k := 1) (by omega) (by omega) HMx.out bag.length hbl
  have hbKL : Below w.heap.size wK wL := (hWL.wide (lo' := w.heap.size) (hi' := wD.heap.size) hC0 (Nat.le_refl _)).bel hbK0.size
  have hbL0 := hbK0.trans hbKL
  have OgL := OgK.within hWL (.inr hED)
  have OwL := OwK.within hWL (.inl (Nat.le_refl _))
  have X1L := X1K.within hWL (.inr (Nat.le_refl _))
  clear OxK OgK OwK X1K hWL hbKL hbK0 HMx
  generalize kAt 1 esx bag.length = q1 at *
  go_wp2_with fail
  refine (markInt64S_any (some ⟨wD.heap.size, 0, none⟩) _ wD.heap.size row q1 wL (Row.of_blk X1L) (by omega) hq0 (by omega)).mono ?_
  rintro e wM ⟨rfl, _, hgM⟩
  have hWM : Within wD.heap.size (wD.heap.size + 1) wL wM := Within.of_grown hgM (.inl ⟨Nat.le_refl _, Nat.lt_succ_self _⟩)
  have hbLM : Below w.heap.size wL wM := (hWM.wide (lo' := w.heap.size) (hi' := wD.heap.size + 1) (by omega) (Nat.le_refl _)).bel hbL0.size
  have hbM0 := hbL0.trans hbLM
  have OgM := OgL.within hWM (.inr (by omega))
  have OwM := OwL.within hWM (.inl hDC)
  clear OgL OwL X1L hgM hWM hbLM hbL0
  have hq2 : 0 ≤ q1 + (row.length : Int) := by omega
  go_wp2_with fail
  refine (eqCountS_any _ _ _ _ W W wM (OBag.bagW OgM.1 HEg.out HWb.out) (OBag.bagW OwM.1 HEw.out HWb.out) (by omega) (by omega)).mono ?_
  rintro e wN ⟨rfl, hbN⟩
  rw [decide_eq_true (rfl : W = W)]
  have hbN0 := bel_step hbM0 hbN
  have OgN := OgM.on hbN
  have OwN := OwM.on hbN
  clear OgM OwM hbN hbM0 hq0 hq1
  -- the answer marked
  have hgl : W.length = esg.length := by rw [← HEg.out, List.length_map]
  have HGL := Lib.hid hgl
  clear hgl
  go_wp2_with fail
  refine (markCountS_any _ _ _ W.length _ esg 1 wN OgN hWl HMg.out (by omega) (by omega)).mono ?_
  rintro e wO ⟨rfl, OgO, hWO⟩
  obtain ⟨hm0, hm1⟩ := kAt_fit (k := 1) (by omega) (by omega) HMg.out W.length hWl
  have hbNO : Below w.heap.size wN wO := (hWO.wide (lo' := w.heap.size) (hi' := wF.heap.size) (by omega) (Nat.le_refl _)).bel hbN0.size
  have hbO0 := hbN0.trans hbNO
  have OwO := OwN.within hWO (.inl (by omega))
  have HMb := Lib.hid (show ∀ e ∈ esg, e.r.length ≤ 1099511627776 from fun e he => by have := HMg.out e he; omega)
  clear OgN OwN hWO hbNO hbN0
  go_wp2_with fail
  refine (heldCountS_any _ W.length _ _ esg 1 wO HGL.out (OgO.bagG HMb.out) hWl HMg.out (by omega) (by omega)).mono ?_
  rintro e w' ⟨rfl, rfl⟩
  obtain ⟨q3, hq3⟩ : ∃ q3, kAt 1 esg W.length = q3 := ⟨_, rfl⟩
  rw [hq3] at hm0 hm1 ⊢
  have HQ3 := Lib.hid hq3
  clear hq3
  -- another call's answer
  go_wp2_with fail
  refine (toCountS_own a0 cap0 bag wO (HB.out wO hbO0) (by omega)).mono ?_
  rintro e wP ⟨esp, rfl, hOp, hep, hbP⟩
  have HEP := Lib.hid hep
  have hbP0 := bel_step hbO0 hbP
  have OwP := OwO.on hbP
  have OgP := OgO.on hbP
  clear hep hbO0 hbP OwO OgO
  go_wp2_with fail
  refine (toInt64S_any a1 cap1 row wP (HI.out wP hbP0) (by omega)).mono ?_
  rintro e wQ ⟨rfl, hrq, hbQ, _⟩
  have hbQ0 := bel_step hbP0 hbQ
  have OwQ := OwP.on hbQ
  have OgQ := OgP.on hbQ
  have hRp := OBag.bagW (hOp.on hbQ) HEP.out HBb.out
  clear hbP0 hbQ OwP OgP hOp
  go_wp2_with fail
  refine ((implGrouped_any _ _ _ _ bag row n wQ hRp hrq.ints (by omega) HBs.out (by omega)).mono fun _ _ h => OwnBag.b h).mono ?_
  rintro e wR ⟨vh, esr, rfl, hOr, her, hbR⟩
  rw [HWE.out] at her
  obtain ⟨Ah, caph, rfl⟩ := hOr.formW her
  have HER := Lib.hid her
  have hbR0 := bel_step hbQ0 hbR
  have OwR := OwQ.on hbR
  have OgR := OgQ.on hbR
  clear her hRp hrq hbQ0 hbR OwQ OgQ
  go_wp2_with fail
  refine (eqCountS_any _ _ _ _ W W wR (OBag.bagW hOr HER.out HWb.out) (OBag.bagW OwR.1 HEw.out HWb.out) (by omega) (by omega)).mono ?_
  rintro e wS ⟨rfl, hbS⟩
  rw [decide_eq_true (rfl : W = W)]
  have hbS0 := bel_step hbR0 hbS
  have OgS := OgR.on hbS
  clear OwR OgR hbS hbR0 hOr
  go_wp2_with fail
  refine (heldCountS_any _ W.length _ _ esg 1 wS HGL.out (OgS.bagG HMb.out) hWl HMg.out (by omega) (by omega)).mono ?_
  rintro e w' ⟨rfl, rfl⟩
  rw [HQ3.out]
  go_wp2
  go_ret
  exact ⟨rfl, hbS0⟩
end Go.Proofs.Ytcfnbpofbcendaa
