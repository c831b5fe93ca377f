/- For every input laws.FnExactPicked returns true and each argument reads behind the call as it read before. No condition. -/
import Derived.Test.YthlniadodiomfaaRows
import Derived.WalkKit
import Derived.Test.YthlniadodiomfaaMarks1
import Derived.ProofKit
import Derived.OpenShut
import Derived.ShutString
import Derived.ChangeOld
import Derived.Below
namespace Go.Proofs.Ythlniadodiomfaa.fnExactPicked
open Go.ChangeShapes Go.WideShapes Go.ChangeAt Go.RowKit
open Go.ChangeMaps (open_string shut_string)
set_option linter.unusedVariables false

theorem own : ownKnob Try.prog.godebug = none := by kernel_rfl
theorem laidOut : laidOutB Try.prog = true := by kernel_rfl

/-! ### STEP 1: THE WALK: the Go text returns true, AND WRITES NOTHING THAT WAS THERE: 'Below w.heap.size w w'' (Derived/Below.lean: '.refl', '.alloc', '.drew', '.setCell' at a new block, '.trans'). Open each 'IsRow' by 'rcases' AHEAD of 'go_enter'; part every test ahead of the walk. -/
set_option maxRecDepth 100000 in
set_option maxHeartbeats 4000000 in
theorem walk (a0 : Option Addr) (len0 cap0 : Nat) (z0 : List Int) (a1 : Option Addr) (len1 cap1 : Nat) (z1 : List Int) (w : World) (w0 : IsRow .i64 w a0 len0 cap0 z0) (w1 : IsRow .i64 w a1 len1 cap1 z1) :
    Calls Try.prog 9 #[.slice a0 len0 cap0, .slice a1 len1 cap1] w fun e w' => e = .returned (.bool true) ∧ Below w.heap.size w w' := by
  obtain ⟨zs, rfl, hI, hm, _⟩ := isRow_ints w0
  obtain ⟨ps, rfl, hI', hm', _⟩ := isRow_ints w1
  unfold maxLen at hm hm'
  by_cases hbig : 1048576 < zs.length
  · have hb : (1048576 : Int) < (zs.length : Int) := by omega
    go_enter Try.func9, Try.ntmps9
    go_wp2
    go_ret
    exact ⟨rfl, Below.refl _ _⟩
  by_cases hbig' : 1048576 < ps.length
  · have hb : decide ((1048576 : Int) < (zs.length : Int)) = false := by simp; omega
    have hb' : (1048576 : Int) < (ps.length : Int) := by omega
    go_enter Try.func9, Try.ntmps9
    go_wp2
    go_ret
    exact ⟨rfl, Below.refl _ _⟩
  have hb : decide ((1048576 : Int) < (zs.length : Int)) = false := by simp; omega
  have hb' : decide ((1048576 : Int) < (ps.length : Int)) = false := by simp; omega
  have hl : zs.length ≤ 1073741824 := by omega
  have hl' : ps.length ≤ 1073741824 := by omega
  have hk0 : decide (1 + (zs.length : Int) + (ps.length : Int) < 0) = false := by simp; omega
  have hPl : (pickedL zs ps).length ≤ 1073741824 := by have := pickedL_length zs ps; omega
  have hq0 : decide (1 + ((pickedL zs ps).length : Int) < 0) = false := by simp; omega
  clear hbig hbig' hm hm'
  generalize hP : pickedL zs ps = P at *
  have HP := Lib.hid hP
  clear hP
  go_enter Try.func9, Try.ntmps9
  go_wp2_with fail
  refine (toInt64S_any _ _ zs w hI (by omega)).mono ?_
  rintro e w1 ⟨rfl, hB1, hb1, hs1⟩
  have R1 := Row.of_blk hB1
  clear hs1 hB1
  go_wp2_with fail
  refine (toInt64S_any _ _ ps w1 ((hI'.below hb1).more hb1.size) (by omega)).mono ?_
  rintro e w2 ⟨rfl, hB2, hb2, hs2⟩
  have R2 := Row.of_blk hB2
  have R1' := R1.on hb2
  have hb02 : Below w.heap.size w w2 := hb1.trans (hb2.mono hb1.size)
  clear hs2 hB2
  go_wp2_with fail
  refine (specPicked_any _ _ _ _ zs ps w2 R1'.ints R2.ints hl hl').mono ?_
  rintro e w3 ⟨v0, rfl, hown3, hb3⟩
  rw [HP.out] at hown3
  obtain ⟨A0, cap0, gw, rfl, hgw, RW⟩ := Row.of_own hown3
  have hb03 : Below w.heap.size w w3 := hb02.trans (hb3.mono hb02.size)
  clear hown3 R1 R1' R2 hb1 hb2 hb3 hb02 hgw
  go_wp2_with fail
  refine (toInt64S_any _ _ zs w3 ((hI.below hb03).more hb03.size) (by omega)).mono ?_
  rintro e w4 ⟨rfl, hB4, hb4, hs4⟩
  have RX := Row.of_blk hB4
  have hlt4 := hB4.lt
  have RW4 := RW.on hb4
  have hgw : 0 < P.length → gw < w3.heap.size := RW.lt
  have hb04 : Below w.heap.size w w4 := hb03.trans (hb4.mono hb03.size)
  clear hs4 hB4 RW
  go_wp2_with fail
  refine (toInt64S_any _ _ ps w4 ((hI'.below hb04).more hb04.size) (by omega)).mono ?_
  rintro e w5 ⟨rfl, hB5, hb5, hs5⟩
  have RY := Row.of_blk hB5
  have hlt5 := hB5.lt
  have RX5 := RX.on hb5
  have RW5 := RW4.on hb5
  have hb05 : Below w.heap.size w w5 := hb04.trans (hb5.mono hb04.size)
  clear hs5 hB5 RX RW4
  go_wp2_with fail
  refine (implPicked_any _ _ _ _ zs ps w5 RX5.ints RY.ints hl hl').mono ?_
  rintro e w6 ⟨v6, rfl, hown6, hb6⟩
  rw [HP.out] at hown6
  obtain ⟨AG, capg, gg, rfl, hgg, RG⟩ := Row.of_own hown6
  have RX6 := RX5.on hb6
  have RY6 := RY.on hb6
  have RW6 := RW5.on hb6
  have hb06 : Below w.heap.size w w6 := hb05.trans (hb6.mono hb05.size)
  clear hown6 RX5 RY RW5 hb6
  go_wp2_with fail
  refine (eqInt64S_any _ _ _ _ P P w6 w6.heap.size w6.heap.size RG.ints RW6.ints (by omega) (by omega)).mono ?_
  rintro e w7 ⟨rfl, nd7, rfl⟩
  rw [decide_eq_true (rfl : P = P)]
  have hb07 := bel_drewN hb06 nd7
  have RX7 := RX6.drewN nd7
  have RY7 := RY6.drewN nd7
  have RW7 := RW6.drewN nd7
  have RG7 := RG.drewN nd7
  clear RX6 RY6 RW6 RG hb06
  generalize w6.drewN nd7 = w7 at *
  go_wp2_with fail
  refine (toInt64S_any _ _ zs w7 ((hI.below hb07).more hb07.size) (by omega)).mono ?_
  rintro e w8 ⟨rfl, hB8, hb8, hs8⟩
  have RX8 := RX7.on hb8
  have RY8 := RY7.on hb8
  have RW8 := RW7.on hb8
  have RG8 := RG7.on hb8
  have hb08 : Below w.heap.size w w8 := hb07.trans (hb8.mono hb07.size)
  clear hs8 RX7 RY7 RW7 RG7 hb8 hb07
  go_wp2_with fail
  refine (eqInt64S_any _ _ _ _ zs zs w8 w8.heap.size w8.heap.size RX8.ints hB8.ints (by omega) (by omega)).mono ?_
  rintro e w9 ⟨rfl, nd9, rfl⟩
  rw [decide_eq_true (rfl : zs = zs)]
  have hb09 := bel_drewN hb08 nd9
  have RX9 := RX8.drewN nd9
  have RY9 := RY8.drewN nd9
  have RW9 := RW8.drewN nd9
  have RG9 := RG8.drewN nd9
  clear RX8 RY8 RW8 RG8 hb08 hB8
  generalize w8.drewN nd9 = w9 at *
  go_wp2_with fail
  refine (toInt64S_any _ _ ps w9 ((hI'.below hb09).more hb09.size) (by omega)).mono ?_
  rintro e w10 ⟨rfl, hB10, hb10, hs10⟩
  have RX10 := RX9.on hb10
  have RY10 := RY9.on hb10
  have RW10 := RW9.on hb10
  have RG10 := RG9.on hb10
  have hb010 : Below w.heap.size w w10 := hb09.trans (hb10.mono hb09.size)
  clear hs10 RX9 RY9 RW9 RG9 hb10 hb09
  go_wp2_with fail
  refine (eqInt64S_any _ _ _ _ ps ps w10 w10.heap.size w10.heap.size RY10.ints hB10.ints (by omega) (by omega)).mono ?_
  rintro e w11 ⟨rfl, nd11, rfl⟩
  rw [decide_eq_true (rfl : ps = ps)]
  have hb011 := bel_drewN hb010 nd11
  have RX11 := RX10.drewN nd11
  have RY11 := RY10.drewN nd11
  have RW11 := RW10.drewN nd11
  have RG11 := RG10.drewN nd11
  clear RX10 RY10 RW10 RG10 hb010 hB10
  generalize w10.drewN nd11 = w11 at *
  go_wp2_with fail
  refine (markInt64S_any _ _ w3.heap.size zs 1 w11 RX11 hl (by omega) (by omega)).mono ?_
  rintro e w12 ⟨rfl, _, hg12⟩
  have RY12 := RY11.kept hg12 (fun _ => by simp; omega)
  have RW12 := RW11.kept hg12 (fun h => by have := hgw h; simp; omega)
  have RG12 := RG11.kept hg12 (fun _ => by simp; omega)
  have hb012 : Below w.heap.size w w12 := hb011.grown hg12 hb011.size (fun g hg => by cases hg; exact hb03.size)
  clear RX11 RY11 RW11 RG11 hg12 hb011
  go_wp2_with fail
  refine (markInt64S_any _ _ w4.heap.size ps (1 + (zs.length : Int)) w12 RY12 hl' (by omega) (by omega)).mono ?_
  rintro e w13 ⟨rfl, _, hg13⟩
  have RW13 := RW12.kept hg13 (fun h => by have := hgw h; simp; omega)
  have RG13 := RG12.kept hg13 (fun _ => by simp; omega)
  have hb013 : Below w.heap.size w w13 := hb012.grown hg13 hb012.size (fun g hg => by cases hg; exact hb04.size)
  clear RY12 RW12 RG12 hg13 hb012
  go_wp2_with fail
  refine (eqInt64S_any _ _ _ _ P P w13 w13.heap.size w13.heap.size RG13.ints RW13.ints (by omega) (by omega)).mono ?_
  rintro e w14 ⟨rfl, nd14, rfl⟩
  rw [decide_eq_true (rfl : P = P)]
  have hb014 := bel_drewN hb013 nd14
  have RW14 := RW13.drewN nd14
  have RG14 := RG13.drewN nd14
  clear RW13 RG13 hb013
  generalize w13.drewN nd14 = w14 at *
  go_wp2_with fail
  refine (markInt64S_any _ _ gg P 1 w14 RG14 hPl (by omega) (by omega)).mono ?_
  rintro e w15 ⟨rfl, RG15, hg15⟩
  have RW15 := RW14.kept hg15 (fun h => by have := hgw h; simp; omega)
  have hb015 : Below w.heap.size w w15 := hb014.grown hg15 hb014.size (fun g hg => by cases hg; exact Nat.le_trans hb05.size hgg)
  have hPm := marks_length 1 P.length
  have HPM := Lib.hid hPm
  clear RW14 RG14 hg15 hb014 hPm
  go_wp2_with fail
  refine (heldInt64S_any _ _ P.length w15.heap.size 1 w15 RG15.ints hPl (by omega) (by omega)).mono ?_
  rintro e w16 ⟨rfl, rfl⟩
  go_wp2_with fail
  refine (toInt64S_any _ _ zs w15 ((hI.below hb015).more hb015.size) (by omega)).mono ?_
  rintro e w17 ⟨rfl, hB17, hb17, hs17⟩
  have R17 := Row.of_blk hB17
  have RW17 := RW15.on hb17
  have RG17 := RG15.on hb17
  have hb017 : Below w.heap.size w w17 := hb015.trans (hb17.mono hb015.size)
  clear hs17 hB17 RW15 RG15 hb17 hb015
  go_wp2_with fail
  refine (toInt64S_any _ _ ps w17 ((hI'.below hb017).more hb017.size) (by omega)).mono ?_
  rintro e w18 ⟨rfl, hB18, hb18, hs18⟩
  have R18 := Row.of_blk hB18
  have R17' := R17.on hb18
  have RW18 := RW17.on hb18
  have RG18 := RG17.on hb18
  have hb018 : Below w.heap.size w w18 := hb017.trans (hb18.mono hb017.size)
  clear hs18 hB18 RW17 RG17 R17 hb18 hb017
  go_wp2_with fail
  refine (implPicked_any _ _ _ _ zs ps w18 R17'.ints R18.ints hl hl').mono ?_
  rintro e w19 ⟨v19, rfl, hown19, hb19⟩
  rw [HP.out] at hown19
  obtain ⟨AH, caph, gh, rfl, hgh, RH⟩ := Row.of_own hown19
  have RW19 := RW18.on hb19
  have RG19 := RG18.on hb19
  have hb019 : Below w.heap.size w w19 := hb018.trans (hb19.mono hb018.size)
  clear hown19 R17' R18 RW18 RG18 hb19 hb018
  go_wp2_with fail
  refine (eqInt64S_any _ _ _ _ P P w19 w19.heap.size w19.heap.size RH.ints RW19.ints (by omega) (by omega)).mono ?_
  rintro e w20 ⟨rfl, nd20, rfl⟩
  rw [decide_eq_true (rfl : P = P)]
  have hb020 := bel_drewN hb019 nd20
  have RG20 := RG19.drewN nd20
  clear RW19 RG19 hb019 RH
  generalize w19.drewN nd20 = w20 at *
  go_wp2_with fail
  refine (heldInt64S_any _ _ P.length w20.heap.size 1 w20 RG20.ints hPl (by omega) (by omega)).mono ?_
  rintro e w21 ⟨rfl, rfl⟩
  go_wp2
  go_ret
  exact ⟨rfl, hb020⟩

/-! ### THE ROW's STEP: WRITTEN OUT: LEAVE IT -/
set_option maxRecDepth 100000 in
theorem lifted (os : Os) (started : os.Started) (H : Type) (enc : TypeId × Value → H) :
    ReturnsInHanded {} Try.checked os 9 .any (Rows.fnExactPickedSpec.pre6 enc Try.prog Try.f9 Rows.fnExactPickedRow.domain false) (Rows.fnExactPickedSpec.post enc Try.prog Try.f9 false true false false) := by
  refine returnsInHanded_of_change (C := Try.checked) own started (by kernel_rfl) Try.func9
    (ChangeSpec.witness6 (enc := enc) (C := Try.checked) false ⟨#[], #[.slice none 0 0, .slice none 0 0], []⟩ 8 (by kernel_rfl) (by kernel_rfl) (by kernel_rfl) (by kernel_rfl)) ?_
  intro W base args ds gs before hval0 hW hcnd _
  have hval : ∀ (j : Nat) t v, Try.f9.params[j]? = some t → args[j]? = some v → Value.okWide Try.prog W .any base t v := hval0
  have hW' := hW
  obtain ⟨p, q, hA0, hV, rfl, hfz, hnd⟩ := hW
  have hA : DataW.TrodAll enc Try.prog W 0 (fun _ => true) true Try.f9.params.toList args.toList ds p := hA0
  rw [Try.params9] at hA hval
  obtain ⟨v0, vs0, d0, ds0, p0, q0, hargs, rfl, rfl, h0, r0⟩ := trodAll_cons hA
  obtain ⟨v1, vs1, d1, ds1, p1, q1, rfl, rfl, rfl, h1, r1⟩ := trodAll_cons r0
  obtain ⟨rfl, rfl, rfl⟩ := trodAll_nil r1
  obtain rfl : args = #[v0, v1] := by cases args; simp_all
  obtain ⟨rfl, rfl⟩ := trodVars_none hV
  obtain ⟨a0, len0, cap0, rfl⟩ := okWide_slice Try.underlying25 (hval 0 25 v0 rfl rfl)
  have k0 := h0
  have lt0 : ∀ x ∈ p0, x.block < W.heap.size := by obtain ⟨m, hm⟩ := k0; exact DataW.trod_lt m _ _ _ hm
  obtain ⟨z0, w0⟩ : ∃ zs, IsRow .i64 W a0 len0 cap0 zs := by
    obtain ⟨fuel, hf⟩ := h0
    rcases open_ints Try.underlying25 Try.underlying2 (by kernel_rfl) hf with ⟨hcs, _⟩ | ⟨x, l, c, zs, hcs, _, hl, hm, hz, _, hcell, hwz⟩
    · simp [Value.cells] at hcs
      obtain ⟨rfl, rfl, rfl⟩ := hcs
      exact ⟨[], .inl ⟨rfl, rfl, rfl, rfl⟩⟩
    · simp [Value.cells] at hcs
      obtain ⟨rfl, rfl, rfl⟩ := hcs
      exact ⟨zs, .inr ⟨_, rfl, hl, hm, by simpa using hz, hcell, hwz⟩⟩
  obtain ⟨a1, len1, cap1, rfl⟩ := okWide_slice Try.underlying25 (hval 1 25 v1 rfl rfl)
  have k1 := h1
  have lt1 : ∀ x ∈ p1, x.block < W.heap.size := by obtain ⟨m, hm⟩ := k1; exact DataW.trod_lt m _ _ _ hm
  obtain ⟨z1, w1⟩ : ∃ zs, IsRow .i64 W a1 len1 cap1 zs := by
    obtain ⟨fuel, hf⟩ := h1
    rcases open_ints Try.underlying25 Try.underlying2 (by kernel_rfl) hf with ⟨hcs, _⟩ | ⟨x, l, c, zs, hcs, _, hl, hm, hz, _, hcell, hwz⟩
    · simp [Value.cells] at hcs
      obtain ⟨rfl, rfl, rfl⟩ := hcs
      exact ⟨[], .inl ⟨rfl, rfl, rfl, rfl⟩⟩
    · simp [Value.cells] at hcs
      obtain ⟨rfl, rfl, rfl⟩ := hcs
      exact ⟨zs, .inr ⟨_, rfl, hl, hm, by simpa using hz, hcell, hwz⟩⟩
  clear hA0 hval0
  refine (walk a0 len0 cap0 z0 a1 len1 cap1 z1 W w0 w1).mono fun e W' ⟨he, bel⟩ => ?_
  subst he
  exact ⟨_, rfl, _, _, _, [], _, [], hW', trodAll_mk1 (shut_bool Try.underlying4 _), (trodAll_cons_mk (Below.trod laidOut (by kernel_rfl) (of_decide_eq_true (by kernel_rfl)) k0 bel lt0) (trodAll_cons_mk (Below.trod laidOut (by kernel_rfl) (of_decide_eq_true (by kernel_rfl)) k1 bel lt1) trodAll_mk0)), rfl, bel.frame _, fun h => by cases h⟩

theorem over : Rows.fnExactPickedRow.holds Try.pinned (OpenSpec.ofChange Rows.fnExactPickedSpec) :=
  OpenClaim.holds_of_wide 9 Try.f9 rfl rfl rfl rfl rfl rfl rfl ⟨rfl, rfl, rfl, rfl, rfl⟩ rfl rfl rfl rfl rfl (by kernel_rfl) Try.func9 (by kernel_rfl)
    (of_decide_eq_true (by kernel_rfl)) (by unfold Func.isWrapper; first | (rw [if_pos (by decide +kernel)]; kernel_rfl) | (rw [if_neg (by decide +kernel)]; exact ⟨rfl, rfl⟩))
    (fun os started H enc _ => lifted os started H enc)

/-- ████ THE STATEMENT ████ -/
theorem proved : Rows.FnExactPickedSaid := over
end Go.Proofs.Ythlniadodiomfaa.fnExactPicked
namespace Go.Proofs.Ythlniadodiomfaa
theorem fnExactPicked_holds : Rows.FnExactPickedSaid := fnExactPicked.proved
#print axioms fnExactPicked_holds
end Go.Proofs.Ythlniadodiomfaa
