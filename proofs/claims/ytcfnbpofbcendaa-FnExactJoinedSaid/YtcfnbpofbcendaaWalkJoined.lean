/- The walk of laws.FnExactJoined: it returns true, and nothing that lay has turned. -/
import Derived.Test.YtcfnbpofbcendaaJon2
import Derived.Test.YtcfnbpofbcendaaMark3
import Derived.Test.YtcfnbpofbcendaaSz2
import Derived.Test.YtcfnbpofbcendaaJB
namespace Go.Proofs.Ytcfnbpofbcendaa
open Go.RowKit

theorem joinB_fit {a b : List (List Int × Int)} {p q : Int} : (joinB a b p q).length ≤ 90300 ∧ ∀ j, j < (joinB a b p q).length → (rx (joinB a b p q) j).length ≤ 2097152 := by
  cases h : joinOk a b p q with
  | false => rw [joinB_no h]; exact ⟨Nat.zero_le _, fun j hj => absurd hj (by simp)⟩
  | true =>
    have e : joinB a b p q = togL (pairsL a b p q) := by unfold joinB; rw [h]; rfl
    unfold joinOk at h
    simp only [Bool.and_eq_true] at h
    obtain ⟨r1, _⟩ := right_of h.1 h.2.2.1
    obtain ⟨r2, _⟩ := right_of h.2.1 h.2.2.2
    rw [e]
    have h1 := tog_length (pairsL a b p q)
    have h2 := pairs_len a b p q
    have h3 : a.length * b.length ≤ 300 * 300 := Nat.mul_le_mul r1.1 r2.1
    refine ⟨by omega, rows_mem.2 fun x hx => ?_⟩
    have := tog_rows (m := 12) (fun r hr => (pairs_six (p := p) (q := q) r1 r2 r hr).1) x hx
    omega
set_option maxRecDepth 100000 in
set_option maxHeartbeats 4000000 in
theorem walkFnExactJoined (a0 : Option Addr) (cap0 : Nat) (bag : List (List Int × Int)) (a1 : Option Addr) (cap1 : Nat) (bag' : List (List Int × Int)) (p q : Int) (w : World) (w0 : RawBag w w.heap.size a0 bag) (hm : bag.length ≤ maxLen) (w0' : RawBag w w.heap.size a1 bag') (hm' : bag'.length ≤ maxLen) (_hp : (Lit.int .i64 p).wf = true) (_hq : (Lit.int .i64 q).wf = true) :
    Calls Try.prog 4 #[.slice a0 bag.length cap0, .slice a1 bag'.length cap1, .int .i64 p, .int .i64 q] w fun e w' => e = .returned (.bool true) ∧ Below w.heap.size w w' := by
  clear _hp _hq
  go_enter Try.func4, Try.ntmps4
  go_wp2_with fail
  refine (szCountS_left a0 cap0 bag 1048576 w w0 hm (by omega) (by omega)).mono ?_
  rintro e w1 ⟨x, rfl, hx1, hx, hb1⟩
  have HX := Lib.hid hx
  clear hx
  by_cases h0 : x < 0
  · go_wp2
    go_ret
    exact ⟨rfl, hb1⟩
  obtain ⟨hl1, hl2⟩ := HX.out (by omega)
  have HL2 := Lib.hid hl2
  have hx0 : 0 ≤ x := by omega
  clear hl2 HX h0
  go_wp2_with fail
  refine (szCountS_left a1 cap1 bag' x w1 (w0'.on hb1) hm' hx0 hx1).mono ?_
  rintro e w2 ⟨y, rfl, hy1, hy, hb2⟩
  have hb20 := bel_step hb1 hb2
  have HY := Lib.hid hy
  clear hy hb1 hb2 hx0 hx1
  by_cases h0 : y < 0
  · go_wp2
    go_ret
    exact ⟨rfl, hb20⟩
  obtain ⟨hl1', hl2'⟩ := HY.out (by omega)
  have HL2' := Lib.hid hl2'
  have HB := Lib.hid (show ∀ W, Below w.heap.size w W → Bag W W.heap.size a0 bag from fun W h => (w0.on h).bag (fun j hj => by have := HL2.out j hj; omega))
  have HB' := Lib.hid (show ∀ W, Below w.heap.size w W → Bag W W.heap.size a1 bag' from fun W h => (w0'.on h).bag (fun j hj => by have := HL2'.out j hj; omega))
  obtain ⟨hWl0, hWr⟩ := joinB_fit (a := bag) (b := bag') (p := p) (q := q)
  have HWr := Lib.hid hWr
  have hWl : (joinB bag bag' p q).length ≤ 2097152 := by omega
  clear hl2' w0 hm w0' hm' HY hWr hWl0
  obtain ⟨W, hW⟩ : ∃ W, joinB bag bag' p q = W := ⟨_, rfl⟩
  rw [hW] at hWl HWr
  have HWE := Lib.hid hW
  clear hW
  have HWb := Lib.hid (show ∀ j, j < W.length → (rx W j).length ≤ 1099511627776 from fun j hj => by have := HWr.out j hj; omega)
  have HBb := Lib.hid (show ∀ j, j < bag.length → (rx bag j).length ≤ 1099511627776 from fun j hj => by have := HL2.out j hj; omega)
  have HBb' := Lib.hid (show ∀ j, j < bag'.length → (rx bag' j).length ≤ 1099511627776 from fun j hj => by have := HL2'.out j hj; omega)
  have HBs := Lib.hid (show ∀ j, j < bag.length → (rx bag j).length ≤ 1073741824 from fun j hj => by have := HL2.out j hj; omega)
  have HBs' := Lib.hid (show ∀ j, j < bag'.length → (rx bag' j).length ≤ 1073741824 from fun j hj => by have := HL2'.out j hj; omega)
  -- the model's answer
  go_wp2_with fail
  refine (toCountS_own a0 cap0 bag w2 (HB.out w2 hb20) (by omega)).mono ?_
  rintro e wA ⟨esa, rfl, hOa, hea, hbA⟩
  have hbA0 := bel_step hb20 hbA
  have HEA := Lib.hid hea
  clear hea hb20
  go_wp2_with fail
  refine (toCountS_own a1 cap1 bag' wA (HB'.out wA hbA0) (by omega)).mono ?_
  rintro e wB ⟨esb, rfl, hOb, heb, hbB⟩
  have hbB0 := bel_step hbA0 hbB
  have hRa := OBag.bagW (hOa.on hbB) HEA.out HBb.out
  have hRb := OBag.bagW hOb heb HBb'.out
  clear hOa hbA hbA0 hbB hOb heb
  go_wp2_with fail
  refine ((specJoined_any _ _ _ _ bag bag' p q wB hRa hRb (by omega) (by omega) HBs.out HBs'.out).mono fun _ _ h => OwnBag.b h).mono ?_
  rintro e wC ⟨vw, esw, rfl, hOw, hew, hbC⟩
  rw [HWE.out] at hew
  obtain ⟨Aw, capw, rfl⟩ := hOw.formW hew
  have HEw := Lib.hid hew
  have hbC0 := bel_step hbB0 hbC
  have Ow := hOw.oin
  clear hRa hRb hbB0 hbC hew hOw
  -- the program's answer
  go_wp2_with fail
  refine (toCountS_own a0 cap0 bag wC (HB.out wC hbC0) (by omega)).mono ?_
  rintro e wD ⟨esx, rfl, hOx, hex, hbD⟩
  have HEX := Lib.hid hex
  have hbD0 := bel_step hbC0 hbD
  have OwD := Ow.on hbD
  have Ox := hOx.oin
  have hC0 := hbC0.size
  have hDC := hbD.size
  clear hex hbC0 hbD Ow hOx
  go_wp2_with fail
  refine (toCountS_own a1 cap1 bag' wD (HB'.out wD hbD0) (by omega)).mono ?_
  rintro e wE ⟨esy, rfl, hOy, hey, hbE⟩
  have HEY := Lib.hid hey
  have hbE0 := bel_step hbD0 hbE
  have OwE := OwD.on hbE
  have OxE := Ox.on hbE
  have Oy := hOy.oin
  have hED := hbE.size
  have hRx := OBag.bagW OxE.1 HEX.out HBb.out
  have hRy := OBag.bagW Oy.1 HEY.out HBb'.out
  clear hbD0 hbE OwD Ox hey hOy
  go_wp2_with fail
  refine ((implJoined_any _ _ _ _ bag bag' p q wE hRx hRy (by omega) (by omega) HBs.out HBs'.out).mono fun _ _ h => OwnBag.b h).mono ?_
  rintro e wF ⟨vg, esg, rfl, hOg, heg, hbF⟩
  rw [HWE.out] at heg
  obtain ⟨Ag, capg, rfl⟩ := hOg.formW heg
  have HEg := Lib.hid heg
  have hbF0 := bel_step hbE0 hbF
  have Og := hOg.oin
  have OwF := OwE.on hbF
  have OxF := OxE.on hbF
  have OyF := Oy.on hbF
  have hFE := hbF.size
  clear hRx hRy hbE0 hbF heg hOg OwE OxE Oy
  go_wp2_with fail
  refine (eqCountS_any _ _ _ _ W W wF (OBag.bagW Og.1 HEg.out HWb.out) (OBag.bagW OwF.1 HEw.out HWb.out) (by omega) (by omega)).mono ?_
  rintro e wG ⟨rfl, hbG⟩
  rw [decide_eq_true (rfl : W = W)]
  have hbG0 := bel_step hbF0 hbG
  have OgG := Og.on hbG
  have OwG := OwF.on hbG
  have OxG := OxF.on hbG
  have OyG := OyF.on hbG
  clear Og OwF OxF OyF hbG hbF0
  -- the arguments stay
  go_wp2_with fail
  refine (toCountS_own a0 cap0 bag wG (HB.out wG hbG0) (by omega)).mono ?_
  rintro e wH ⟨esh, rfl, hOh, heh, hbH⟩
  have HEH := Lib.hid heh
  have OxH := OxG.on hbH
  clear heh
  go_wp2_with fail
  refine (eqCountS_any _ _ _ _ bag bag wH (OBag.bagW OxH.1 HEX.out HBb.out) (OBag.bagW hOh HEH.out HBb.out) (by omega) (by omega)).mono ?_
  rintro e wI ⟨rfl, hbI⟩
  rw [decide_eq_true (rfl : bag = bag)]
  have hbGI := bel_step hbH hbI
  have hbI0 := bel_step hbG0 hbGI
  have OgI := OgG.on hbGI
  have OwI := OwG.on hbGI
  have OxI := OxG.on hbGI
  have OyI := OyG.on hbGI
  clear OgG OwG OxG OyG OxH hOh hbH hbI hbGI hbG0 HEH
  go_wp2_with fail
  refine (toCountS_own a1 cap1 bag' wI (HB'.out wI hbI0) (by omega)).mono ?_
  rintro e wJ ⟨esh, rfl, hOh, heh, hbJ⟩
  have HEH := Lib.hid heh
  have OyJ := OyI.on hbJ
  clear heh
  go_wp2_with fail
  refine (eqCountS_any _ _ _ _ bag' bag' wJ (OBag.bagW OyJ.1 HEY.out HBb'.out) (OBag.bagW hOh HEH.out HBb'.out) (by omega) (by omega)).mono ?_
  rintro e wK ⟨rfl, hbK⟩
  rw [decide_eq_true (rfl : bag' = bag')]
  have hbIK := bel_step hbJ hbK
  have hbK0 := bel_step hbI0 hbIK
  have OgK := OgI.on hbIK
  have OwK := OwI.on hbIK
  have OxK := OxI.on hbIK
  have OyK := OyI.on hbIK
  clear OgI OwI OxI OyI OyJ hOh hbJ hbK hbIK hbI0 HEH
  -- the arguments marked
  have HMx := Lib.hid (show ∀ e ∈ esx, e.r.length ≤ 2097152 from ents_of HEX.out (fun j hj => by have := HL2.out j hj; omega))
  have HMy := Lib.hid (show ∀ e ∈ esy, e.r.length ≤ 2097152 from ents_of HEY.out (fun j hj => by have := HL2'.out j hj; omega))
  have HMg := Lib.hid (show ∀ e ∈ esg, e.r.length ≤ 2097152 from ents_of HEg.out (fun j hj => by have := HWr.out j hj; omega))
  have hbl : bag.length ≤ 2097152 := by omega
  have hbl' : bag'.length ≤ 2097152 := by omega
  go_wp2_with fail
  refine (markCountS_more _ _ _ bag.length _ esx 1 wK OxK hbl HMx.out (by omega) (by omega)).mono ?_
  rintro e wL ⟨rfl, _, hWL⟩
  obtain ⟨hq0, hq1⟩ := kAt_more (k := 1) (by omega) (by omega) HMx.out bag.length hbl
  have hbKL : Below w.heap.size wK wL := (hWL.wide (lo' := w.heap.size) (hi' := wD.heap.size) hC0 (Nat.le_refl _)).bel hbK0.size
  have hbL0 := hbK0.trans hbKL
  have OgL := OgK.within hWL (.inr hED)
  have OwL := OwK.within hWL (.inl (Nat.le_refl _))
  have OyL := OyK.within hWL (.inr (Nat.le_refl _))
  clear OxK OgK OwK OyK hWL hbKL hbK0 HMx
  generalize kAt 1 esx bag.length = q1 at *
  go_wp2_with fail
  refine (markCountS_more _ _ _ bag'.length _ esy q1 wL OyL hbl' HMy.out hq0 (by omega)).mono ?_
  rintro e wM ⟨rfl, _, hWM⟩
  obtain ⟨hq2, hq3⟩ := kAt_more (k := q1) hq0 (by omega) HMy.out bag'.length hbl'
  have hbLM : Below w.heap.size wL wM := (hWM.wide (lo' := w.heap.size) (hi' := wE.heap.size) (by omega) (Nat.le_refl _)).bel hbL0.size
  have hbM0 := hbL0.trans hbLM
  have OgM := OgL.within hWM (.inr (Nat.le_refl _))
  have OwM := OwL.within hWM (.inl hDC)
  clear OgL OwL OyL hWM hbLM hbL0 HMy
  generalize kAt q1 esy bag'.length = q2 at *
  go_wp2_with fail
  refine (eqCountS_any _ _ _ _ W W wM (OBag.bagW OgM.1 HEg.out HWb.out) (OBag.bagW OwM.1 HEw.out HWb.out) (by omega) (by omega)).mono ?_
  rintro e wN ⟨rfl, hbN⟩
  rw [decide_eq_true (rfl : W = W)]
  have hbN0 := bel_step hbM0 hbN
  have OgN := OgM.on hbN
  have OwN := OwM.on hbN
  clear OgM OwM hbN hbM0 hq0 hq1 hq3
  -- the answer marked
  have hgl : W.length = esg.length := by rw [← HEg.out, List.length_map]
  have HGL := Lib.hid hgl
  clear hgl
  go_wp2_with fail
  refine (markCountS_any _ _ _ W.length _ esg 1 wN OgN hWl HMg.out (by omega) (by omega)).mono ?_
  rintro e wO ⟨rfl, OgO, hWO⟩
  obtain ⟨hm0, hm1⟩ := kAt_fit (k := 1) (by omega) (by omega) HMg.out W.length hWl
  have hbNO : Below w.heap.size wN wO := (hWO.wide (lo' := w.heap.size) (hi' := wF.heap.size) (by omega) (Nat.le_refl _)).bel hbN0.size
  have hbO0 := hbN0.trans hbNO
  have OwO := OwN.within hWO (.inl (by omega))
  have HMb := Lib.hid (show ∀ e ∈ esg, e.r.length ≤ 1099511627776 from fun e he => by have := HMg.out e he; omega)
  clear OgN OwN hWO hbNO hbN0
  go_wp2_with fail
  refine (heldCountS_any _ W.length _ _ esg 1 wO HGL.out (OgO.bagK HMb.out) hWl HMg.out (by omega) (by omega)).mono ?_
  rintro e w' ⟨rfl, rfl⟩
  obtain ⟨q3, hq3⟩ : ∃ q3, kAt 1 esg W.length = q3 := ⟨_, rfl⟩
  rw [hq3] at hm0 hm1 ⊢
  have HQ3 := Lib.hid hq3
  clear hq3
  -- another call's answer
  go_wp2_with fail
  refine (toCountS_own a0 cap0 bag wO (HB.out wO hbO0) (by omega)).mono ?_
  rintro e wP ⟨esp, rfl, hOp, hep, hbP⟩
  have HEP := Lib.hid hep
  have hbP0 := bel_step hbO0 hbP
  have OwP := OwO.on hbP
  have OgP := OgO.on hbP
  clear hep hbO0 hbP OwO OgO
  go_wp2_with fail
  refine (toCountS_own a1 cap1 bag' wP (HB'.out wP hbP0) (by omega)).mono ?_
  rintro e wQ ⟨esq, rfl, hOq, heq, hbQ⟩
  have hbQ0 := bel_step hbP0 hbQ
  have OwQ := OwP.on hbQ
  have OgQ := OgP.on hbQ
  have hRp := OBag.bagW (hOp.on hbQ) HEP.out HBb.out
  have hRq := OBag.bagW hOq heq HBb'.out
  clear hbP0 hbQ OwP OgP hOp hOq heq
  go_wp2_with fail
  refine ((implJoined_any _ _ _ _ bag bag' p q wQ hRp hRq (by omega) (by omega) HBs.out HBs'.out).mono fun _ _ h => OwnBag.b h).mono ?_
  rintro e wR ⟨vh, esr, rfl, hOr, her, hbR⟩
  rw [HWE.out] at her
  obtain ⟨Ah, caph, rfl⟩ := hOr.formW her
  have HER := Lib.hid her
  have hbR0 := bel_step hbQ0 hbR
  have OwR := OwQ.on hbR
  have OgR := OgQ.on hbR
  clear her hRp hRq hbQ0 hbR OwQ OgQ
  go_wp2_with fail
  refine (eqCountS_any _ _ _ _ W W wR (OBag.bagW hOr HER.out HWb.out) (OBag.bagW OwR.1 HEw.out HWb.out) (by omega) (by omega)).mono ?_
  rintro e wS ⟨rfl, hbS⟩
  rw [decide_eq_true (rfl : W = W)]
  have hbS0 := bel_step hbR0 hbS
  have OgS := OgR.on hbS
  clear OwR OgR hbS hbR0 hOr
  go_wp2_with fail
  refine (heldCountS_any _ W.length _ _ esg 1 wS HGL.out (OgS.bagK HMb.out) hWl HMg.out (by omega) (by omega)).mono ?_
  rintro e w' ⟨rfl, rfl⟩
  rw [HQ3.out]
  go_wp2
  go_ret
  exact ⟨rfl, hbS0⟩
end Go.Proofs.Ytcfnbpofbcendaa
