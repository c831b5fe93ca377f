/- The walk of laws.FnPlus: it returns true, whatever the code; nothing that lay has turned. -/
import Derived.Test.YthlniadodiomfaaDrawSum
import Derived.Test.YthlniadodiomfaaSgn2
import Derived.Test.YthlniadodiomfaaSgn6
import Derived.Test.YthlniadodiomfaaMark3
namespace Go.Proofs.Ythlniadodiomfaa
open Go.RowKit

theorem plusB_no {a b : List (List Int × Int)} (h : bagOkB a = false ∨ bagOkB b = false) : plusB a b = [] := by
  unfold plusB
  rcases h with h | h <;> rw [h] <;> simp
theorem plusB_is {a b : List (List Int × Int)} (ha : bagOkB a = true) (hb : bagOkB b = true) : plusB a b = plusL a b := by
  unfold plusB; rw [ha, hb]; rfl
theorem plusB_comm (a b : List (List Int × Int)) : plusB b a = plusB a b := by
  cases ha : bagOkB a with
  | false => rw [plusB_no (.inl ha), plusB_no (.inr ha)]
  | true =>
    cases hb : bagOkB b with
    | false => rw [plusB_no (.inr hb), plusB_no (.inl hb)]
    | true => rw [plusB_is ha hb, plusB_is hb ha, plus_comm (bagOk_fit hb).1 (bagOk_fit ha).1 (by have := (bagOk_fit hb).2; omega) (by have := (bagOk_fit ha).2; omega)]
theorem minus_law {m : List (List Int × Int)} (h : bagOkB m = true) : minusB (minusB m) = m ∧ plusB m (minusB m) = [] := by
  have e : minusB m = minusL m := by unfold minusB; rw [h]; rfl
  have h' : bagOkB (minusL m) = true := by rw [bagOk_minus]; exact h
  rw [e]
  refine ⟨?_, ?_⟩
  · unfold minusB; rw [h', if_pos rfl, minus_minus]
  · rw [plusB_is h h', plus_minus (bagOk_fit h).1 (by have := (bagOk_fit h).2; omega)]
/-- What the law asks of the sum of two bags in order. -/
theorem plus_law {a b X : List (List Int × Int)} (ha : bagOkB a = true) (hb : bagOkB b = true) (hX : plusB a b = X) :
    (∀ k, k < X.length → nx X k = timesL a (rx X k) + timesL b (rx X k) ∧ nx X k ≠ 0) ∧ (∀ k, k + 1 < X.length → lessB (rx X k) (rx X (k + 1)) = true) ∧ (∀ k, k < a.length → timesL X (rx a k) = nx a k + timesL b (rx a k)) ∧
    (∀ s, -1000000 ≤ timesL a s ∧ timesL a s ≤ 1000000) ∧ (∀ s, -1000000 ≤ timesL b s ∧ timesL b s ≤ 1000000) ∧ ∀ k, k < a.length → -1000000 ≤ nx a k ∧ nx a k ≤ 1000000 := by
  obtain ⟨fa, la⟩ := bagOk_fit ha
  obtain ⟨fb, lb⟩ := bagOk_fit hb
  rw [plusB_is ha hb] at hX
  obtain ⟨p1, p2, p3⟩ := Fit.plus (by omega) (by omega) fa fb (by omega)
  rw [hX] at p1 p2 p3
  refine ⟨fun k hk => ⟨?_, ?_⟩, fun k hk => ?_, fun k hk => ?_, times_within (by omega) fa.2.2, times_within (by omega) fb.2.2, fun k hk => ?_⟩
  · rw [← times_at p1 hk, p3]
  · have := p2 X[k] (List.getElem_mem hk)
    rwa [show nx X k = X[k].2 by simp [nx, hk]]
  · have hk' : k < X.length := by omega
    rw [show rx X k = X[k].1 by simp [rx, hk'], show rx X (k + 1) = X[k + 1].1 by simp [rx, hk]]
    exact List.pairwise_iff_getElem.1 p1 k (k + 1) hk' hk (by omega)
  · rw [p3, times_at fa.1 hk]
  · have := fa.2.2 a[k] (List.getElem_mem hk)
    rwa [show nx a k = a[k].2 by simp [nx, hk]]

set_option maxRecDepth 100000 in
set_option maxHeartbeats 16000000 in
theorem walkFnPlus (a0 : Option Addr) (len0 cap0 : Nat) (z0 : List Int) (w : World) (w0 : IsRow .u8 w a0 len0 cap0 z0) :
    Calls Try.prog 4 #[.slice a0 len0 cap0] w fun e w' => e = .returned (.bool true) ∧ Below w.heap.size w w' := by
  obtain ⟨zs, rfl, hU, hm⟩ := isRow_u8 w0
  clear w0
  by_cases hbig : (4096 : Int) < (zs.length : Int)
  · have hd := decide_eq_true hbig
    have HD := Lib.hid hd
    clear hd hbig
    go_enter Try.func4, Try.ntmps4
    go_wp2_with fail
    refine (big_any a0 zs.length cap0 w).mono ?_
    rintro e w1 ⟨rfl, rfl⟩
    rw [HD.out]
    go_wp2
    go_ret
    exact ⟨rfl, Below.refl _ _⟩
  have hd := decide_eq_false hbig
  have HD := Lib.hid hd
  have hzl : zs.length ≤ 1048576 := by omega
  clear hd hbig hm
  go_enter Try.func4, Try.ntmps4
  go_wp2_with fail
  refine (big_any a0 zs.length cap0 w).mono ?_
  rintro e w1 ⟨rfl, rfl⟩
  rw [HD.out]
  clear HD
  go_wp2_with fail
  refine (drawPlus_any a0 cap0 zs w hU hzl).mono ?_
  rintro e w1 ⟨g, cap, a, g', cap', b, rfl, hA1, hca, hla, hB1, hcb, hlb, hb1⟩
  obtain ⟨X, hX⟩ : ∃ X, plusB a b = X := ⟨_, rfl⟩
  obtain ⟨hXl, hXr⟩ := plusB_fit hA1.le hB1.le
  rw [hX] at hXl hXr
  have HX := Lib.hid hX
  have HXr := Lib.hid hXr
  have hXl2 : X.length ≤ 800 := by omega
  clear hX hXr hXl
  -- the sum
  go_wp2_with fail
  refine (implPlus_any _ _ _ _ a b w1 hA1 hB1 hca hcb (by omega) (by omega)).mono ?_
  rintro e w2 ⟨vd, esd, rfl, hOd, hed, hb2⟩
  rw [HX.out] at hed
  obtain ⟨Ax, capx, rfl⟩ := hOd.formW hed
  have hX2 := OBag.bagW hOd hed HXr.out
  have hA2 := hA1.on hb2
  have hB2 := hB1.on hb2
  have hb02 := bel_step hb1 hb2
  clear hed hOd hA1 hB1 hb1 hb2
  -- a bag, and turned round
  go_wp2_with fail
  refine (drawMinus_any a0 cap0 zs w2 (hU.on hb02) hzl).mono ?_
  rintro e w3 ⟨gm, capm, m, rfl, hM3, hcm, hlm, hb3⟩
  have hX3 := hX2.on hb3
  have hA3 := hA2.on hb3
  have hB3 := hB2.on hb3
  have hb03 := bel_step hb02 hb3
  obtain ⟨Y, hY⟩ : ∃ Y, minusB m = Y := ⟨_, rfl⟩
  obtain ⟨hYl, hYr⟩ := minusB_fit hM3.le
  rw [hY] at hYl hYr
  have HY := Lib.hid hY
  have HYr := Lib.hid hYr
  have HMr := Lib.hid hM3.le
  clear hX2 hA2 hB2 hb02 hb3 hY hYr
  go_wp2_with fail
  refine (implMinus_any _ _ m w3 hM3 (by omega)).mono ?_
  rintro e w4 ⟨vd, esd, rfl, hOd, hed, hb4⟩
  rw [HY.out] at hed
  obtain ⟨Ay, capy, rfl⟩ := hOd.formW hed
  have hcy : Y.length ≤ capy := OBag.cap hOd
  have hY4 := OBag.bagW hOd hed HYr.out
  have hX4 := hX3.on hb4
  have hA4 := hA3.on hb4
  have hB4 := hB3.on hb4
  have hM4 := hM3.on hb4
  have hb04 := bel_step hb03 hb4
  clear hed hOd hX3 hA3 hB3 hM3 hb03 hb4
  go_wp2_with fail
  refine (drawIsSet_any a0 cap0 zs w4 (hU.on hb04) hzl).mono ?_
  rintro e w5 ⟨gq, capq, q, rfl, hQ5, _, hlq, hb5⟩
  have hX5 := hX4.on hb5
  have hA5 := hA4.on hb5
  have hB5 := hB4.on hb5
  have hM5 := hM4.on hb5
  have hY5 := hY4.on hb5
  have hb05 := bel_step hb04 hb5
  clear hX4 hA4 hB4 hM4 hY4 hb04 hb5
  go_wp2_with fail
  refine (drawLeast_any a0 cap0 zs w5 (hU.on hb05) hzl).mono ?_
  rintro e w6 ⟨gl, capl, l, rfl, hL6, _, hll, hb6⟩
  have hX6 := hX5.on hb6
  have hA6 := hA5.on hb6
  have hB6 := hB5.on hb6
  have hM6 := hM5.on hb6
  have hY6 := hY5.on hb6
  have hQ6 := hQ5.on hb6
  have hb06 := bel_step hb05 hb6
  clear hX5 hA5 hB5 hM5 hY5 hQ5 hb05 hb6 hU
  -- the model's answers
  go_wp2_with fail
  refine ((specPlus_any _ _ _ _ a b w6 hA6 hB6 (by omega) (by omega)).mono fun _ _ h => OwnBag.b h).mono ?_
  rintro e w7 ⟨vs, ess, rfl, hOs, hes, hb7⟩
  rw [HX.out] at hes
  obtain ⟨As, caps, rfl⟩ := hOs.formW hes
  have hS7 := OBag.bagW hOs hes HXr.out
  have hX7 := hX6.on hb7
  have hA7 := hA6.on hb7
  have hB7 := hB6.on hb7
  have hM7 := hM6.on hb7
  have hY7 := hY6.on hb7
  have hQ7 := hQ6.on hb7
  have hL7 := hL6.on hb7
  have hb07 := bel_step hb06 hb7
  clear hes hOs hX6 hA6 hB6 hM6 hY6 hQ6 hL6 hb06 hb7
  go_wp2_with fail
  refine (likeBag_any _ _ _ _ X X w7 hX7 hS7 (by omega) (by omega)).mono ?_
  rintro e w8 ⟨rfl, n8, hw8⟩
  rw [decide_eq_true (rfl : X = X)]
  have hb78 : Below w7.heap.size w7 w8 := by rw [hw8]; exact bel_drewN (Below.refl _ _) n8
  have hX8 := hX7.on hb78
  have hA8 := hA7.on hb78
  have hB8 := hB7.on hb78
  have hM8 := hM7.on hb78
  have hY8 := hY7.on hb78
  have hQ8 := hQ7.on hb78
  have hL8 := hL7.on hb78
  have hb08 := bel_step hb07 hb78
  clear hw8 hS7 hX7 hA7 hB7 hM7 hY7 hQ7 hL7 hb07 hb78
  go_wp2_with fail
  refine ((specMinus_any _ _ m w8 hM8 (by omega)).mono fun _ _ h => OwnBag.b h).mono ?_
  rintro e w9 ⟨vs, ess, rfl, hOs, hes, hb9⟩
  rw [HY.out] at hes
  obtain ⟨Ams, capms, rfl⟩ := hOs.formW hes
  have hS9 := OBag.bagW hOs hes HYr.out
  have hX9 := hX8.on hb9
  have hA9 := hA8.on hb9
  have hB9 := hB8.on hb9
  have hM9 := hM8.on hb9
  have hY9 := hY8.on hb9
  have hQ9 := hQ8.on hb9
  have hL9 := hL8.on hb9
  have hb09 := bel_step hb08 hb9
  clear hes hOs hX8 hA8 hB8 hM8 hY8 hQ8 hL8 hb08 hb9
  go_wp2_with fail
  refine (likeBag_any _ _ _ _ Y Y w9 hY9 hS9 (by omega) (by omega)).mono ?_
  rintro e wA ⟨rfl, nA, hwA⟩
  rw [decide_eq_true (rfl : Y = Y)]
  have hb9A : Below w9.heap.size w9 wA := by rw [hwA]; exact bel_drewN (Below.refl _ _) nA
  have hXA := hX9.on hb9A
  have hAA := hA9.on hb9A
  have hBA := hB9.on hb9A
  have hMA := hM9.on hb9A
  have hYA := hY9.on hb9A
  have hQA := hQ9.on hb9A
  have hLA := hL9.on hb9A
  have hb0A := bel_step hb09 hb9A
  clear hwA hS9 hX9 hA9 hB9 hM9 hY9 hQ9 hL9 hb09 hb9A
  go_wp2_with fail
  refine (implIsSet_any _ _ q wA hQA (by omega)).mono ?_
  rintro e wB ⟨rfl, hbB⟩
  have hXB := hXA.on hbB
  have hAB := hAA.on hbB
  have hBB := hBA.on hbB
  have hMB := hMA.on hbB
  have hYB := hYA.on hbB
  have hQB := hQA.on hbB
  have hLB := hLA.on hbB
  have hb0B := bel_step hb0A hbB
  clear hXA hAA hBA hMA hYA hQA hLA hb0A hbB
  go_wp2_with fail
  refine (specIsSet_any _ _ q wB hQB (by omega)).mono ?_
  rintro e wC ⟨rfl, nC, hwC⟩
  have hbBC : Below wB.heap.size wB wC := by rw [hwC]; exact bel_drewN (Below.refl _ _) nC
  have hXC := hXB.on hbBC
  have hAC := hAB.on hbBC
  have hBC := hBB.on hbBC
  have hMC := hMB.on hbBC
  have hYC := hYB.on hbBC
  have hLC := hLB.on hbBC
  have hb0C := bel_step hb0B hbBC
  clear hwC hXB hAB hBB hMB hYB hQB hLB hb0B hbBC
  generalize isSetB q = bo
  go_wp2_with fail
  refine (implLeast_any _ _ l wC hLC (by omega)).mono ?_
  rintro e wD ⟨rfl, hbD⟩
  have hXD := hXC.on hbD
  have hAD := hAC.on hbD
  have hBD := hBC.on hbD
  have hMD := hMC.on hbD
  have hYD := hYC.on hbD
  have hLD := hLC.on hbD
  have hb0D := bel_step hb0C hbD
  clear hXC hAC hBC hMC hYC hLC hb0C hbD
  go_wp2_with fail
  refine (specLeast_any _ _ l wD hLD (by omega)).mono ?_
  rintro e wE ⟨rfl, nE, hwE⟩
  have hbDE : Below wD.heap.size wD wE := by rw [hwE]; exact bel_drewN (Below.refl _ _) nE
  have hXE := hXD.on hbDE
  have hAE := hAD.on hbDE
  have hBE := hBD.on hbDE
  have hME := hMD.on hbDE
  have hYE := hYD.on hbDE
  have hb0E := bel_step hb0D hbDE
  clear hwE hXD hAD hBD hMD hYD hLD hb0D hbDE
  generalize leastB l = ln
  -- the other way round
  have HXc := Lib.hid (show plusB b a = X by rw [plusB_comm]; exact HX.out)
  go_wp2_with fail
  refine (implPlus_any _ _ _ _ b a wE hBE hAE hcb hca (by omega) (by omega)).mono ?_
  rintro e wF ⟨vd, esd, rfl, hOd, hed, hbF⟩
  rw [HXc.out] at hed
  obtain ⟨Az, capz, rfl⟩ := hOd.formW hed
  have hZF := OBag.bagW hOd hed HXr.out
  have hXF := hXE.on hbF
  have hAF := hAE.on hbF
  have hBF := hBE.on hbF
  have hMF := hME.on hbF
  have hYF := hYE.on hbF
  have hb0F := bel_step hb0E hbF
  clear hed hOd hXE hAE hBE hME hYE hb0E hbF HXc
  go_wp2_with fail
  refine (likeBag_any _ _ _ _ X X wF hXF hZF (by omega) (by omega)).mono ?_
  rintro e wG ⟨rfl, nG, hwG⟩
  rw [decide_eq_true (rfl : X = X)]
  have hbFG : Below wF.heap.size wF wG := by rw [hwG]; exact bel_drewN (Below.refl _ _) nG
  have hXG := hXF.on hbFG
  have hAG := hAF.on hbFG
  have hBG := hBF.on hbFG
  have hMG := hMF.on hbFG
  have hYG := hYF.on hbFG
  have hb0G := bel_step hb0F hbFG
  clear hwG hZF hXF hAF hBF hMF hYF hb0F hbFG
  go_wp2_with fail
  refine (specBagOk_any _ _ m wG _ hMG (by omega)).mono ?_
  rintro e wH ⟨rfl, nH, hwH⟩
  have hbGH : Below wG.heap.size wG wH := by rw [hwH]; exact bel_drewN (Below.refl _ _) nH
  have hXH := hXG.on hbGH
  have hAH := hAG.on hbGH
  have hBH := hBG.on hbGH
  have hMH := hMG.on hbGH
  have hYH := hYG.on hbGH
  have hb0H := bel_step hb0G hbGH
  clear hwH hXG hAG hBG hMG hYG hb0G hbGH
  cases hom : bagOkB m with
  | false =>
    clear hom hMH hYH
    go_wp2_with fail
    refine (specBagOk_any _ _ a wH _ hAH (by omega)).mono ?_
    rintro e wI ⟨rfl, nI, hwI⟩
    have hbHI : Below wH.heap.size wH wI := by rw [hwI]; exact bel_drewN (Below.refl _ _) nI
    have hXI := hXH.on hbHI
    have hAI := hAH.on hbHI
    have hBI := hBH.on hbHI
    have hb0I := bel_step hb0H hbHI
    clear hwI hXH hAH hBH hb0H hbHI
    cases hoa : bagOkB a with
    | false =>
      have hz : X = [] := by rw [← HX.out]; exact plusB_no (.inl hoa)
      have hz2 : ((X.length : Int) == 0) = true := by rw [hz]; rfl
      clear hoa hz hXI
      go_wp2
      go_ret
      exact ⟨rfl, hb0I⟩
    | true =>
      have HOA := Lib.hid hoa
      clear hoa
      go_wp2_with fail
      refine (specBagOk_any _ _ b wI _ hBI (by omega)).mono ?_
      rintro e wJ ⟨rfl, nJ, hwJ⟩
      have hbIJ : Below wI.heap.size wI wJ := by rw [hwJ]; exact bel_drewN (Below.refl _ _) nJ
      have hXJ := hXI.on hbIJ
      have hAJ := hAI.on hbIJ
      have hBJ := hBI.on hbIJ
      have hb0J := bel_step hb0I hbIJ
      clear hwJ hXI hAI hBI hb0I hbIJ
      cases hob : bagOkB b with
      | false =>
        have hz : X = [] := by rw [← HX.out]; exact plusB_no (.inr hob)
        have hz2 : ((X.length : Int) == 0) = true := by rw [hz]; rfl
        clear hob hz hXJ
        go_wp2
        go_ret
        exact ⟨rfl, hb0J⟩
      | true =>
        obtain ⟨f1, f2, f3, f4, f5, f6⟩ := plus_law HOA.out hob HX.out
        have HF1 := Lib.hid f1
        have HF2 := Lib.hid f2
        have HF3 := Lib.hid f3
        have HF4 := Lib.hid f4
        have HF5 := Lib.hid f5
        have HF6 := Lib.hid f6
        clear hob f1 f2 f3 f4 f5 f6 HOA HX HXr HY HYr HMr
        go_wp2
        -- each of the sum
        go_loopw [10] (fun i wr => ∃ k : Nat, k ≤ X.length ∧ i = .int .i64 k ∧ ∃ n, wr = wJ.drewN n) (fun i _ => X.length - (intOf i).toNat)
        case atStart => exact ⟨0, Nat.zero_le _, rfl, 0, rfl⟩
        case round =>
          obtain ⟨k, hk, rfl, hW⟩ := hrel
          have hXr : Bag wr wr.heap.size Ax X := by obtain ⟨n, rfl⟩ := hW; exact hXJ
          have hAr : Bag wr wr.heap.size (some ⟨g, 0, none⟩) a := by obtain ⟨n, rfl⟩ := hW; exact hAJ
          have hBr : Bag wr wr.heap.size (some ⟨g', 0, none⟩) b := by obtain ⟨n, rfl⟩ := hW; exact hBJ
          have HW := Lib.hid hW
          clear hW
          by_cases hlt : k < X.length
          · clear hXJ hAJ hBJ
            obtain ⟨bx, ox, rfl, _, hc⟩ := hXr (by omega)
            obtain ⟨Ak, ck, h1, h2, h3, h4⟩ := hc k hlt
            obtain ⟨e1, e2⟩ := HF1.out k hlt
            have ba := HF4.out (rx X k)
            have bb := HF5.out (rx X k)
            have HC := Lib.hid hc
            have hws : IntKind.i64.wrap (timesL a (rx X k) + timesL b (rx X k)) = nx X k := by rw [IntKind.wrap_i64]; omega
            have hz2 : (nx X k == 0) = false := beq_eq_false_iff_ne.2 e2
            clear hc e1 e2 ba bb
            generalize nx X k = y at *
            by_cases h0 : 0 < k
            · obtain ⟨k0, hk0⟩ : ∃ k0 : Nat, k = k0 + 1 := ⟨k - 1, by omega⟩
              obtain ⟨Ap, cp, p1, p2, p3, p4⟩ := HC.out k0 (by omega)
              have hwr : IntKind.i64.wrap ((k : Int) - 1) = (k0 : Int) := by rw [IntKind.wrap_i64]; omega
              have hk0l : k0 < X.length := by omega
              have HL := Lib.hid (show lessB (rx X k0) (rx X k) = true by rw [hk0]; exact HF2.out k0 (by omega))
              clear hk0 p2
              go_wp2_with fail
              go_quiet (first | (go_at_call 28; exact Calls.quiet_of (specTimesIn_any _ _ _ _ _ _ _ wr.heap.size wr.heap.size (by first | exact hAr.drewN _ | exact hBr.drewN _) (h3.drewN _) (by omega) h4)) | (go_at_call 41; exact Calls.quiet_of (specRowLess_yes Ap Ak cp ck (rx X k0) (rx X k) _ wr.heap.size wr.heap.size (p3.drewN _) (h3.drewN _) p4 h4 HL.out)))
              go_wp2
              go_roundw
              case rel => exact ⟨k + 1, by omega, by go_num, drew_more HW.out _⟩
              case measure => simp [intOf]; omega
            · have hd0 : decide (0 < k) = false := by simpa using h0
              have H0 := Lib.hid h0
              clear h0
              go_wp2_with fail
              go_quiet (first | (go_at_call 28; exact Calls.quiet_of (specTimesIn_any _ _ _ _ _ _ _ wr.heap.size wr.heap.size (by first | exact hAr.drewN _ | exact hBr.drewN _) (h3.drewN _) (by omega) h4)))
              go_wp2
              go_roundw
              case rel => exact ⟨k + 1, by omega, by go_num, drew_more HW.out _⟩
              case measure => simp [intOf]; omega
          · have hdk : decide (k < X.length) = false := by simpa using hlt
            have hb0r : Below w.heap.size w wr := by obtain ⟨n, rfl⟩ := HW.out; exact bel_drewN hb0J n
            clear hXJ hAJ hBJ hb0J HW HF1 HF2 HF4 hk
            obtain ⟨wp, rfl⟩ : ∃ wp : World, wp = wr := ⟨_, rfl⟩
            go_wp2
            -- each of a
            go_loopw [11] (fun i wr => ∃ q : Nat, q ≤ a.length ∧ i = .int .i64 q ∧ ∃ n, wr = wp.drewN n) (fun i _ => a.length - (intOf i).toNat)
            case atStart => exact ⟨0, Nat.zero_le _, rfl, 0, rfl⟩
            case round =>
              obtain ⟨q, hq, rfl, hW⟩ := hrel
              have hXs : Bag wr wr.heap.size Ax X := by obtain ⟨n, rfl⟩ := hW; exact hXr
              have hAs : Bag wr wr.heap.size (some ⟨g, 0, none⟩) a := by obtain ⟨n, rfl⟩ := hW; exact hAr
              have hBs : Bag wr wr.heap.size (some ⟨g', 0, none⟩) b := by obtain ⟨n, rfl⟩ := hW; exact hBr
              have HW := Lib.hid hW
              clear hW hXr hAr hBr
              by_cases hlt2 : q < a.length
              · obtain ⟨ba, oa, hba, _, hc⟩ := hAs (by omega)
                obtain ⟨rfl, rfl⟩ : g = ba ∧ 0 = oa := by simpa using hba
                obtain ⟨Ak, ck, h1, h2, h3, h4⟩ := hc q hlt2
                rw [Nat.zero_add] at h1 h2
                have e1 := HF3.out q hlt2
                have bb := HF5.out (rx a q)
                have bn := HF6.out q hlt2
                have hws : IntKind.i64.wrap (nx a q + timesL b (rx a q)) = timesL X (rx a q) := by rw [IntKind.wrap_i64]; omega
                clear hc hba e1 bb bn hAs hlt hdk
                generalize nx a q = y at *
                go_wp2_with fail
                go_quiet (first | (go_at_call 28; exact Calls.quiet_of (specTimesIn_any _ _ _ _ _ _ _ wr.heap.size wr.heap.size (by first | exact hXs.drewN _ | exact hBs.drewN _) (h3.drewN _) (by omega) h4)))
                go_wp2
                go_roundw
                case rel => exact ⟨q + 1, by omega, by go_num, drew_more HW.out _⟩
                case measure => simp [intOf]; omega
              · have hdq : decide (q < a.length) = false := by simpa using hlt2
                have hb0s : Below w.heap.size w wr := by obtain ⟨n, rfl⟩ := HW.out; exact bel_drewN hb0r n
                go_wp2
                go_ret
                exact ⟨rfl, hb0s⟩
  | true =>
    obtain ⟨l1, l2⟩ := minus_law hom
    rw [HY.out] at l1 l2
    have HL1 := Lib.hid l1
    have HL2 := Lib.hid l2
    clear hom l1 l2
    go_wp2_with fail
    refine (implMinus_any _ _ Y wH hYH (by omega)).mono ?_
    rintro e wI ⟨vd, esd, rfl, hOd, hed, hbI⟩
    rw [HL1.out] at hed
    obtain ⟨An, capn, rfl⟩ := hOd.formW hed
    have hNI := OBag.bagW hOd hed HMr.out
    have hXI := hXH.on hbI
    have hAI := hAH.on hbI
    have hBI := hBH.on hbI
    have hMI := hMH.on hbI
    have hYI := hYH.on hbI
    have hb0I := bel_step hb0H hbI
    clear hed hOd hXH hAH hBH hMH hYH hb0H hbI
    go_wp2_with fail
    refine (likeBag_any _ _ _ _ m m wI hNI hMI (by omega) (by omega)).mono ?_
    rintro e wJ ⟨rfl, nJ, hwJ⟩
    rw [decide_eq_true (rfl : m = m)]
    have hbIJ : Below wI.heap.size wI wJ := by rw [hwJ]; exact bel_drewN (Below.refl _ _) nJ
    have hXJ := hXI.on hbIJ
    have hAJ := hAI.on hbIJ
    have hBJ := hBI.on hbIJ
    have hMJ := hMI.on hbIJ
    have hYJ := hYI.on hbIJ
    have hb0J := bel_step hb0I hbIJ
    clear hwJ hNI hXI hAI hBI hMI hYI hb0I hbIJ
    go_wp2_with fail
    refine (implPlus_any _ _ _ _ m Y wJ hMJ hYJ hcm hcy (by omega) (by omega)).mono ?_
    rintro e wK ⟨vd, esd, rfl, hOd, hed, hbK⟩
    rw [HL2.out] at hed
    obtain ⟨Ao, capo, rfl⟩ := hOd.formW hed
    have hXH := hXJ.on hbK
    have hAH := hAJ.on hbK
    have hBH := hBJ.on hbK
    have hb0H := bel_step hb0J hbK
    clear hed hOd hXJ hAJ hBJ hMJ hYJ hb0J hbK
    obtain ⟨wH, rfl⟩ : ∃ wH, wH = wK := ⟨_, rfl⟩
    go_wp2_with fail
    refine (specBagOk_any _ _ a wH _ hAH (by omega)).mono ?_
    rintro e wI ⟨rfl, nI, hwI⟩
    have hbHI : Below wH.heap.size wH wI := by rw [hwI]; exact bel_drewN (Below.refl _ _) nI
    have hXI := hXH.on hbHI
    have hAI := hAH.on hbHI
    have hBI := hBH.on hbHI
    have hb0I := bel_step hb0H hbHI
    clear hwI hXH hAH hBH hb0H hbHI
    cases hoa : bagOkB a with
    | false =>
      have hz : X = [] := by rw [← HX.out]; exact plusB_no (.inl hoa)
      have hz2 : ((X.length : Int) == 0) = true := by rw [hz]; rfl
      clear hoa hz hXI
      go_wp2
      go_ret
      exact ⟨rfl, hb0I⟩
    | true =>
      have HOA := Lib.hid hoa
      clear hoa
      go_wp2_with fail
      refine (specBagOk_any _ _ b wI _ hBI (by omega)).mono ?_
      rintro e wJ ⟨rfl, nJ, hwJ⟩
      have hbIJ : Below wI.heap.size wI wJ := by rw [hwJ]; exact bel_drewN (Below.refl _ _) nJ
      have hXJ := hXI.on hbIJ
      have hAJ := hAI.on hbIJ
      have hBJ := hBI.on hbIJ
      have hb0J := bel_step hb0I hbIJ
      clear hwJ hXI hAI hBI hb0I hbIJ
      cases hob : bagOkB b with
      | false =>
        have hz : X = [] := by rw [← HX.out]; exact plusB_no (.inr hob)
        have hz2 : ((X.length : Int) == 0) = true := by rw [hz]; rfl
        clear hob hz hXJ
        go_wp2
        go_ret
        exact ⟨rfl, hb0J⟩
      | true =>
        obtain ⟨f1, f2, f3, f4, f5, f6⟩ := plus_law HOA.out hob HX.out
        have HF1 := Lib.hid f1
        have HF2 := Lib.hid f2
        have HF3 := Lib.hid f3
        have HF4 := Lib.hid f4
        have HF5 := Lib.hid f5
        have HF6 := Lib.hid f6
        clear hob f1 f2 f3 f4 f5 f6 HOA HX HXr HY HYr HMr
        go_wp2
        -- each of the sum
        go_loopw [10] (fun i wr => ∃ k : Nat, k ≤ X.length ∧ i = .int .i64 k ∧ ∃ n, wr = wJ.drewN n) (fun i _ => X.length - (intOf i).toNat)
        case atStart => exact ⟨0, Nat.zero_le _, rfl, 0, rfl⟩
        case round =>
          obtain ⟨k, hk, rfl, hW⟩ := hrel
          have hXr : Bag wr wr.heap.size Ax X := by obtain ⟨n, rfl⟩ := hW; exact hXJ
          have hAr : Bag wr wr.heap.size (some ⟨g, 0, none⟩) a := by obtain ⟨n, rfl⟩ := hW; exact hAJ
          have hBr : Bag wr wr.heap.size (some ⟨g', 0, none⟩) b := by obtain ⟨n, rfl⟩ := hW; exact hBJ
          have HW := Lib.hid hW
          clear hW
          by_cases hlt : k < X.length
          · clear hXJ hAJ hBJ
            obtain ⟨bx, ox, rfl, _, hc⟩ := hXr (by omega)
            obtain ⟨Ak, ck, h1, h2, h3, h4⟩ := hc k hlt
            obtain ⟨e1, e2⟩ := HF1.out k hlt
            have ba := HF4.out (rx X k)
            have bb := HF5.out (rx X k)
            have HC := Lib.hid hc
            have hws : IntKind.i64.wrap (timesL a (rx X k) + timesL b (rx X k)) = nx X k := by rw [IntKind.wrap_i64]; omega
            have hz2 : (nx X k == 0) = false := beq_eq_false_iff_ne.2 e2
            clear hc e1 e2 ba bb
            generalize nx X k = y at *
            by_cases h0 : 0 < k
            · obtain ⟨k0, hk0⟩ : ∃ k0 : Nat, k = k0 + 1 := ⟨k - 1, by omega⟩
              obtain ⟨Ap, cp, p1, p2, p3, p4⟩ := HC.out k0 (by omega)
              have hwr : IntKind.i64.wrap ((k : Int) - 1) = (k0 : Int) := by rw [IntKind.wrap_i64]; omega
              have hk0l : k0 < X.length := by omega
              have HL := Lib.hid (show lessB (rx X k0) (rx X k) = true by rw [hk0]; exact HF2.out k0 (by omega))
              clear hk0 p2
              go_wp2_with fail
              go_quiet (first | (go_at_call 28; exact Calls.quiet_of (specTimesIn_any _ _ _ _ _ _ _ wr.heap.size wr.heap.size (by first | exact hAr.drewN _ | exact hBr.drewN _) (h3.drewN _) (by omega) h4)) | (go_at_call 41; exact Calls.quiet_of (specRowLess_yes Ap Ak cp ck (rx X k0) (rx X k) _ wr.heap.size wr.heap.size (p3.drewN _) (h3.drewN _) p4 h4 HL.out)))
              go_wp2
              go_roundw
              case rel => exact ⟨k + 1, by omega, by go_num, drew_more HW.out _⟩
              case measure => simp [intOf]; omega
            · have hd0 : decide (0 < k) = false := by simpa using h0
              have H0 := Lib.hid h0
              clear h0
              go_wp2_with fail
              go_quiet (first | (go_at_call 28; exact Calls.quiet_of (specTimesIn_any _ _ _ _ _ _ _ wr.heap.size wr.heap.size (by first | exact hAr.drewN _ | exact hBr.drewN _) (h3.drewN _) (by omega) h4)))
              go_wp2
              go_roundw
              case rel => exact ⟨k + 1, by omega, by go_num, drew_more HW.out _⟩
              case measure => simp [intOf]; omega
          · have hdk : decide (k < X.length) = false := by simpa using hlt
            have hb0r : Below w.heap.size w wr := by obtain ⟨n, rfl⟩ := HW.out; exact bel_drewN hb0J n
            clear hXJ hAJ hBJ hb0J HW HF1 HF2 HF4 hk
            obtain ⟨wp, rfl⟩ : ∃ wp : World, wp = wr := ⟨_, rfl⟩
            go_wp2
            -- each of a
            go_loopw [11] (fun i wr => ∃ q : Nat, q ≤ a.length ∧ i = .int .i64 q ∧ ∃ n, wr = wp.drewN n) (fun i _ => a.length - (intOf i).toNat)
            case atStart => exact ⟨0, Nat.zero_le _, rfl, 0, rfl⟩
            case round =>
              obtain ⟨q, hq, rfl, hW⟩ := hrel
              have hXs : Bag wr wr.heap.size Ax X := by obtain ⟨n, rfl⟩ := hW; exact hXr
              have hAs : Bag wr wr.heap.size (some ⟨g, 0, none⟩) a := by obtain ⟨n, rfl⟩ := hW; exact hAr
              have hBs : Bag wr wr.heap.size (some ⟨g', 0, none⟩) b := by obtain ⟨n, rfl⟩ := hW; exact hBr
              have HW := Lib.hid hW
              clear hW hXr hAr hBr
              by_cases hlt2 : q < a.length
              · obtain ⟨ba, oa, hba, _, hc⟩ := hAs (by omega)
                obtain ⟨rfl, rfl⟩ : g = ba ∧ 0 = oa := by simpa using hba
                obtain ⟨Ak, ck, h1, h2, h3, h4⟩ := hc q hlt2
                rw [Nat.zero_add] at h1 h2
                have e1 := HF3.out q hlt2
                have bb := HF5.out (rx a q)
                have bn := HF6.out q hlt2
                have hws : IntKind.i64.wrap (nx a q + timesL b (rx a q)) = timesL X (rx a q) := by rw [IntKind.wrap_i64]; omega
                clear hc hba e1 bb bn hAs hlt hdk
                generalize nx a q = y at *
                go_wp2_with fail
                go_quiet (first | (go_at_call 28; exact Calls.quiet_of (specTimesIn_any _ _ _ _ _ _ _ wr.heap.size wr.heap.size (by first | exact hXs.drewN _ | exact hBs.drewN _) (h3.drewN _) (by omega) h4)))
                go_wp2
                go_roundw
                case rel => exact ⟨q + 1, by omega, by go_num, drew_more HW.out _⟩
                case measure => simp [intOf]; omega
              · have hdq : decide (q < a.length) = false := by simpa using hlt2
                have hb0s : Below w.heap.size w wr := by obtain ⟨n, rfl⟩ := HW.out; exact bel_drewN hb0r n
                go_wp2
                go_ret
                exact ⟨rfl, hb0s⟩
end Go.Proofs.Ythlniadodiomfaa
