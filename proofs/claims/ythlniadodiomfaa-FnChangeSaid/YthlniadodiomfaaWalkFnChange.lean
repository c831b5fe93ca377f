/- The walk of laws.FnChange: it returns true, whatever the code; nothing that lay has turned. -/
import Derived.Test.YthlniadodiomfaaDrawSum
import Derived.Test.YthlniadodiomfaaSgn6
import Derived.Test.YthlniadodiomfaaMark3
namespace Go.Proofs.Ythlniadodiomfaa
open Go.RowKit

theorem changeB_no {a b : List (List Int × Int)} (h : bagOkB a = false ∨ bagOkB b = false) : changeB a b = [] := by
  unfold changeB
  rcases h with h | h <;> rw [h] <;> simp
theorem changeB_yes {a b : List (List Int × Int)} (ha : bagOkB a = true) (hb : bagOkB b = true) : changeB a b = changeL a b := by
  unfold changeB; rw [ha, hb]; rfl
/-- What the law asks of two bags in order, where the change is one. -/
theorem change_law {a b D : List (List Int × Int)} (ha : bagOkB a = true) (hb : bagOkB b = true) (hD : changeB a b = D) (hd : bagOkB D = true) : plusB a D = b ∧ changeB a a = [] ∧ changeB b a = minusB D := by
  obtain ⟨fa, la⟩ := bagOk_fit ha
  obtain ⟨fb, lb⟩ := bagOk_fit hb
  rw [changeB_yes ha hb] at hD
  subst hD
  refine ⟨?_, ?_, ?_⟩
  · unfold plusB; rw [ha, hd]; exact plus_change fa fb (by omega) hd
  · rw [changeB_yes ha ha, change_self fa (by omega)]
  · rw [changeB_yes hb ha, change_turn fa fb (by omega) (by omega)]
    unfold minusB; rw [hd]; rfl

set_option maxRecDepth 100000 in
set_option maxHeartbeats 8000000 in
theorem walkFnChange (a0 : Option Addr) (len0 cap0 : Nat) (z0 : List Int) (w : World) (w0 : IsRow .u8 w a0 len0 cap0 z0) :
    Calls Try.prog 5 #[.slice a0 len0 cap0] w fun e w' => e = .returned (.bool true) ∧ Below w.heap.size w w' := by
  obtain ⟨zs, rfl, hU, hm⟩ := isRow_u8 w0
  clear w0
  by_cases hbig : (4096 : Int) < (zs.length : Int)
  · have hd := decide_eq_true hbig
    have HD := Lib.hid hd
    clear hd hbig
    go_enter Try.func5, Try.ntmps5
    go_wp2_with fail
    refine (big_any a0 zs.length cap0 w).mono ?_
    rintro e w1 ⟨rfl, rfl⟩
    rw [HD.out]
    go_wp2
    go_ret
    exact ⟨rfl, Below.refl _ _⟩
  have hd := decide_eq_false hbig
  have HD := Lib.hid hd
  have hzl : zs.length ≤ 1048576 := by omega
  clear hd hbig hm
  go_enter Try.func5, Try.ntmps5
  go_wp2_with fail
  refine (big_any a0 zs.length cap0 w).mono ?_
  rintro e w1 ⟨rfl, rfl⟩
  rw [HD.out]
  clear HD
  go_wp2_with fail
  refine (drawChange_any a0 cap0 zs w hU hzl).mono ?_
  rintro e w1 ⟨g, cap, a, g', cap', b, rfl, hA1, hca, hla, hB1, hcb, hlb, hb1⟩
  clear hU
  obtain ⟨D, hD⟩ : ∃ D, changeB a b = D := ⟨_, rfl⟩
  obtain ⟨hDl, hDr⟩ := changeB_fit hA1.le hB1.le
  rw [hD] at hDl hDr
  have HD := Lib.hid hD
  have HDr := Lib.hid hDr
  have HAr := Lib.hid hA1.le
  have HBr := Lib.hid hB1.le
  have hDl2 : D.length ≤ 800 := by omega
  clear hD hDr hDl
  -- the change
  go_wp2_with fail
  refine (implChange_any _ _ _ _ a b w1 hA1 hB1 hcb (by omega) (by omega)).mono ?_
  rintro e w2 ⟨vd, esd, rfl, hOd, hed, hb2⟩
  rw [HD.out] at hed
  obtain ⟨Ad, capd, rfl⟩ := hOd.formW hed
  have hcd : D.length ≤ capd := OBag.cap hOd
  have hD2 := OBag.bagW hOd hed HDr.out
  have hA2 := hA1.on hb2
  have hB2 := hB1.on hb2
  have hb02 := bel_step hb1 hb2
  clear hed hOd hA1 hB1 hb1 hb2
  go_wp2_with fail
  refine ((specChange_any _ _ _ _ a b w2 hA2 hB2 (by omega) (by omega)).mono fun _ _ h => OwnBag.b h).mono ?_
  rintro e w3 ⟨vs, ess, rfl, hOs, hes, hb3⟩
  rw [HD.out] at hes
  obtain ⟨As, caps, rfl⟩ := hOs.formW hes
  have hS3 := OBag.bagW hOs hes HDr.out
  have hD3 := hD2.on hb3
  have hA3 := hA2.on hb3
  have hB3 := hB2.on hb3
  have hb03 := bel_step hb02 hb3
  clear hes hOs hA2 hB2 hD2 hb02 hb3
  go_wp2_with fail
  refine (likeBag_any _ _ _ _ D D w3 hD3 hS3 (by omega) (by omega)).mono ?_
  rintro e w4 ⟨rfl, n4, hw4⟩
  rw [decide_eq_true (rfl : D = D)]
  have hA4 : Bag w4 w4.heap.size (some ⟨g, 0, none⟩) a := by rw [hw4]; exact hA3
  have hB4 : Bag w4 w4.heap.size (some ⟨g', 0, none⟩) b := by rw [hw4]; exact hB3
  have hD4 : Bag w4 w4.heap.size Ad D := by rw [hw4]; exact hD3
  have hb04 : Below w.heap.size w w4 := by rw [hw4]; exact bel_drewN hb03 n4
  clear hw4 hA3 hB3 hD3 hb03 hS3
  go_wp2_with fail
  refine (specBagOk_any _ _ a w4 _ hA4 (by omega)).mono ?_
  rintro e w5 ⟨rfl, n5, hw5⟩
  have hA5 : Bag w5 w5.heap.size (some ⟨g, 0, none⟩) a := by rw [hw5]; exact hA4
  have hB5 : Bag w5 w5.heap.size (some ⟨g', 0, none⟩) b := by rw [hw5]; exact hB4
  have hD5 : Bag w5 w5.heap.size Ad D := by rw [hw5]; exact hD4
  have hb05 : Below w.heap.size w w5 := by rw [hw5]; exact bel_drewN hb04 n5
  clear hw5 hA4 hB4 hD4 hb04
  cases hoa : bagOkB a with
  | false =>
    have hz : D = [] := by rw [← HD.out]; exact changeB_no (.inl hoa)
    have hz2 : ((D.length : Int) == 0) = true := by rw [hz]; rfl
    clear hoa hz hD5
    go_wp2
    go_ret
    exact ⟨rfl, hb05⟩
  | true =>
    have HOA := Lib.hid hoa
    clear hoa
    go_wp2_with fail
    refine (specBagOk_any _ _ b w5 _ hB5 (by omega)).mono ?_
    rintro e w6 ⟨rfl, n6, hw6⟩
    have hA6 : Bag w6 w6.heap.size (some ⟨g, 0, none⟩) a := by rw [hw6]; exact hA5
    have hB6 : Bag w6 w6.heap.size (some ⟨g', 0, none⟩) b := by rw [hw6]; exact hB5
    have hD6 : Bag w6 w6.heap.size Ad D := by rw [hw6]; exact hD5
    have hb06 : Below w.heap.size w w6 := by rw [hw6]; exact bel_drewN hb05 n6
    clear hw6 hA5 hB5 hD5 hb05
    cases hob : bagOkB b with
    | false =>
      have hz : D = [] := by rw [← HD.out]; exact changeB_no (.inr hob)
      have hz2 : ((D.length : Int) == 0) = true := by rw [hz]; rfl
      clear hob hz hD6
      go_wp2
      go_ret
      exact ⟨rfl, hb06⟩
    | true =>
      have HOB := Lib.hid hob
      clear hob
      go_wp2_with fail
      refine (specBagOk_any _ _ D w6 _ hD6 (by omega)).mono ?_
      rintro e w7 ⟨rfl, n7, hw7⟩
      have hA7 : Bag w7 w7.heap.size (some ⟨g, 0, none⟩) a := by rw [hw7]; exact hA6
      have hB7 : Bag w7 w7.heap.size (some ⟨g', 0, none⟩) b := by rw [hw7]; exact hB6
      have hD7 : Bag w7 w7.heap.size Ad D := by rw [hw7]; exact hD6
      have hb07 : Below w.heap.size w w7 := by rw [hw7]; exact bel_drewN hb06 n7
      clear hw7 hA6 hB6 hD6 hb06
      cases hod : bagOkB D with
      | false =>
        clear hod
        go_wp2
        go_ret
        exact ⟨rfl, hb07⟩
      | true =>
        obtain ⟨l1, l2, l3⟩ := change_law HOA.out HOB.out HD.out hod
        obtain ⟨hMl, hMr⟩ := minusB_fit HDr.out
        obtain ⟨M, hM⟩ : ∃ M, minusB D = M := ⟨_, rfl⟩
        rw [hM] at l3 hMl hMr
        have HL1 := Lib.hid l1
        have HL2 := Lib.hid l2
        have HL3 := Lib.hid l3
        have HM := Lib.hid hM
        have HMr := Lib.hid hMr
        clear l1 l2 l3 hod hM hMr
        -- from a by the change to b
        go_wp2_with fail
        refine (implPlus_any _ _ _ _ a D w7 hA7 hD7 hca hcd (by omega) (by omega)).mono ?_
        rintro e w8 ⟨vp, esp, rfl, hOp, hep, hb8⟩
        rw [HL1.out] at hep
        obtain ⟨Ap, capp, rfl⟩ := hOp.formW hep
        have hP8 := OBag.bagW hOp hep HBr.out
        have hA8 := hA7.on hb8
        have hB8 := hB7.on hb8
        have hD8 := hD7.on hb8
        have hb08 := bel_step hb07 hb8
        clear hep hOp hA7 hB7 hD7 hb07 hb8
        go_wp2_with fail
        refine (likeBag_any _ _ _ _ b b w8 hP8 hB8 (by omega) (by omega)).mono ?_
        rintro e w9 ⟨rfl, n9, hw9⟩
        rw [decide_eq_true (rfl : b = b)]
        have hA9 : Bag w9 w9.heap.size (some ⟨g, 0, none⟩) a := by rw [hw9]; exact hA8
        have hB9 : Bag w9 w9.heap.size (some ⟨g', 0, none⟩) b := by rw [hw9]; exact hB8
        have hD9 : Bag w9 w9.heap.size Ad D := by rw [hw9]; exact hD8
        have hb09 : Below w.heap.size w w9 := by rw [hw9]; exact bel_drewN hb08 n9
        clear hw9 hA8 hB8 hD8 hb08 hP8
        -- none from a to itself
        go_wp2_with fail
        refine (implChange_any _ _ _ _ a a w9 hA9 hA9 hca (by omega) (by omega)).mono ?_
        rintro e wA ⟨vo, eso, rfl, hOo, heo, hbA⟩
        rw [HL2.out] at heo
        obtain ⟨Ao, capo, rfl⟩ := hOo.formW heo
        have hAA := hA9.on hbA
        have hBA := hB9.on hbA
        have hDA := hD9.on hbA
        have hb0A := bel_step hb09 hbA
        clear heo hOo hA9 hB9 hD9 hb09 hbA
        -- the change turned round
        go_wp2_with fail
        refine (implChange_any _ _ _ _ b a wA hBA hAA hca (by omega) (by omega)).mono ?_
        rintro e wB ⟨vt, est, rfl, hOt, het, hbB⟩
        rw [HL3.out] at het
        obtain ⟨At, capt, rfl⟩ := hOt.formW het
        have hTB := OBag.bagW hOt het HMr.out
        have hDB := hDA.on hbB
        have hb0B := bel_step hb0A hbB
        clear het hOt hAA hBA hDA hb0A hbB
        go_wp2_with fail
        refine (implMinus_any _ _ D wB hDB (by omega)).mono ?_
        rintro e wC ⟨vm, esm, rfl, hOm, hem, hbC⟩
        rw [HM.out] at hem
        obtain ⟨Am, capm, rfl⟩ := hOm.formW hem
        have hMC := OBag.bagW hOm hem HMr.out
        have hTC := hTB.on hbC
        have hb0C := bel_step hb0B hbC
        clear hem hOm hTB hDB hb0B hbC
        go_wp2_with fail
        refine (likeBag_any _ _ _ _ M M wC hTC hMC (by omega) (by omega)).mono ?_
        rintro e wD ⟨rfl, nD, hwD⟩
        rw [decide_eq_true (rfl : M = M)]
        have hb0D : Below w.heap.size w wD := by rw [hwD]; exact bel_drewN hb0C nD
        clear hwD hTC hMC hb0C
        go_wp2
        go_ret
        exact ⟨rfl, hb0D⟩
end Go.Proofs.Ythlniadodiomfaa
