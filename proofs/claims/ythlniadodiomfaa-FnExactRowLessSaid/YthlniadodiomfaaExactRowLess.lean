/- For every input laws.FnExactRowLess returns true and each argument reads behind the call as it read before. No condition. -/
import Derived.Test.YthlniadodiomfaaRows
import Derived.WalkKit
import Derived.Test.YthlniadodiomfaaLess1
import Derived.ProofKit
import Derived.OpenShut
import Derived.ShutString
import Derived.ChangeOld
import Derived.Below
namespace Go.Proofs.Ythlniadodiomfaa.fnExactRowLess
open Go.ChangeShapes Go.WideShapes Go.ChangeAt Go.RowKit
open Go.ChangeMaps (open_string shut_string)
set_option linter.unusedVariables false

theorem own : ownKnob Try.prog.godebug = none := by kernel_rfl
theorem laidOut : laidOutB Try.prog = true := by kernel_rfl

/-! ### STEP 1: THE WALK: the Go text returns true, AND WRITES NOTHING THAT WAS THERE: 'Below w.heap.size w w'' (Derived/Below.lean: '.refl', '.alloc', '.drew', '.setCell' at a new block, '.trans'). Open each 'IsRow' by 'rcases' AHEAD of 'go_enter'; part every test ahead of the walk. -/
set_option maxRecDepth 100000 in
set_option maxHeartbeats 4000000 in
theorem walk (a0 : Option Addr) (len0 cap0 : Nat) (z0 : List Int) (a1 : Option Addr) (len1 cap1 : Nat) (z1 : List Int) (w : World) (w0 : IsRow .i64 w a0 len0 cap0 z0) (w1 : IsRow .i64 w a1 len1 cap1 z1) :
    Calls Try.prog 8 #[.slice a0 len0 cap0, .slice a1 len1 cap1] w fun e w' => e = .returned (.bool true) ∧ Below w.heap.size w w' := by
  obtain ⟨zs, rfl, hI, hm, _⟩ := isRow_ints w0
  obtain ⟨ys, rfl, hI', hm', _⟩ := isRow_ints w1
  unfold maxLen at hm hm'
  by_cases hbig : 1048576 < zs.length
  · have hb : (1048576 : Int) < (zs.length : Int) := by omega
    go_enter Try.func8, Try.ntmps8
    go_wp2
    go_ret
    exact ⟨rfl, Below.refl _ _⟩
  by_cases hbig' : 1048576 < ys.length
  · have hb : decide ((1048576 : Int) < (zs.length : Int)) = false := by simp; omega
    have hb' : (1048576 : Int) < (ys.length : Int) := by omega
    go_enter Try.func8, Try.ntmps8
    go_wp2
    go_ret
    exact ⟨rfl, Below.refl _ _⟩
  have hb : decide ((1048576 : Int) < (zs.length : Int)) = false := by simp; omega
  have hb' : decide ((1048576 : Int) < (ys.length : Int)) = false := by simp; omega
  have hl : zs.length ≤ 1099511627776 := by omega
  have hl' : ys.length ≤ 1099511627776 := by omega
  clear hbig hbig' hm hm'
  go_enter Try.func8, Try.ntmps8
  go_wp2_with fail
  refine (toInt64S_any _ _ zs w hI hl).mono ?_
  rintro e w1 ⟨rfl, hB1, hb1, hs1⟩
  clear hs1
  go_wp2_with fail
  refine (toInt64S_any _ _ ys w1 ((hI'.below hb1).more hb1.size) hl').mono ?_
  rintro e w2 ⟨rfl, hB2, hb2, hs2⟩
  clear hs2
  have hB1' := hB1.below hb2 hB1.lt
  go_wp2_with fail
  refine (specRowLess_any _ _ _ _ zs ys w2 w2.heap.size w2.heap.size hB1'.ints hB2.ints hl hl').mono ?_
  rintro e w3 ⟨rfl, nd, rfl⟩
  have hb03 : Below w.heap.size w (w2.drewN nd) := bel_drewN (hb1.trans (hb2.mono hb1.size)) nd
  generalize w2.drewN nd = w3 at *
  go_wp2_with fail
  refine (toInt64S_any _ _ zs w3 ((hI.below hb03).more hb03.size) hl).mono ?_
  rintro e w4 ⟨rfl, hB4, hb4, hs4⟩
  clear hs4
  have hb04 : Below w.heap.size w w4 := hb03.trans (hb4.mono hb03.size)
  go_wp2_with fail
  refine (toInt64S_any _ _ ys w4 ((hI'.below hb04).more hb04.size) hl').mono ?_
  rintro e w5 ⟨rfl, hB5, hb5, hs5⟩
  clear hs5
  have hb05 : Below w.heap.size w w5 := hb04.trans (hb5.mono hb04.size)
  have hB4' := hB4.below hb5 hB4.lt
  go_wp2_with fail
  refine (implRowLess_any _ _ _ _ zs ys hl hl' w5 hB4'.ints hB5.ints).mono ?_
  rintro e w6 ⟨rfl, hb6⟩
  have hb06 : Below w.heap.size w w6 := hb05.trans (hb6.mono hb05.size)
  have hX := hB4'.below hb6 hB4'.lt
  have hY := hB5.below hb6 hB5.lt
  go_wp2_with fail
  refine (toInt64S_any _ _ zs w6 ((hI.below hb06).more hb06.size) hl).mono ?_
  rintro e w7 ⟨rfl, hB7, hb7, hs7⟩
  clear hs7
  have hb07 : Below w.heap.size w w7 := hb06.trans (hb7.mono hb06.size)
  have hX' := hX.below hb7 hX.lt
  have hY' := hY.below hb7 hY.lt
  go_wp2_with fail
  refine (eqInt64S_any _ _ _ _ zs zs w7 w7.heap.size w7.heap.size hX'.ints hB7.ints hl hl).mono ?_
  rintro e w8 ⟨rfl, nd8, rfl⟩
  rw [decide_eq_true (rfl : zs = zs)]
  have hb08 := bel_drewN hb07 nd8
  have hY8 := hY'.drewN nd8
  generalize w7.drewN nd8 = w8 at *
  go_wp2_with fail
  refine (toInt64S_any _ _ ys w8 ((hI'.below hb08).more hb08.size) hl').mono ?_
  rintro e w9 ⟨rfl, hB9, hb9, hs9⟩
  clear hs9
  have hb09 : Below w.heap.size w w9 := hb08.trans (hb9.mono hb08.size)
  have hY9 := hY8.below hb9 hY8.lt
  go_wp2_with fail
  refine (eqInt64S_any _ _ _ _ ys ys w9 w9.heap.size w9.heap.size hY9.ints hB9.ints hl' hl').mono ?_
  rintro e w10 ⟨rfl, nd10, rfl⟩
  rw [decide_eq_true (rfl : ys = ys)]
  go_wp2
  go_ret
  exact ⟨rfl, bel_drewN hb09 _⟩

/-! ### THE ROW's STEP: WRITTEN OUT: LEAVE IT -/
set_option maxRecDepth 100000 in
theorem lifted (os : Os) (started : os.Started) (H : Type) (enc : TypeId × Value → H) :
    ReturnsInHanded {} Try.checked os 8 .any (Rows.fnExactRowLessSpec.pre6 enc Try.prog Try.f8 Rows.fnExactRowLessRow.domain false) (Rows.fnExactRowLessSpec.post enc Try.prog Try.f8 false true false false) := by
  refine returnsInHanded_of_change (C := Try.checked) own started (by kernel_rfl) Try.func8
    (ChangeSpec.witness6 (enc := enc) (C := Try.checked) false ⟨#[], #[.slice none 0 0, .slice none 0 0], []⟩ 8 (by kernel_rfl) (by kernel_rfl) (by kernel_rfl) (by kernel_rfl)) ?_
  intro W base args ds gs before hval0 hW hcnd _
  have hval : ∀ (j : Nat) t v, Try.f8.params[j]? = some t → args[j]? = some v → Value.okWide Try.prog W .any base t v := hval0
  have hW' := hW
  obtain ⟨p, q, hA0, hV, rfl, hfz, hnd⟩ := hW
  have hA : DataW.TrodAll enc Try.prog W 0 (fun _ => true) true Try.f8.params.toList args.toList ds p := hA0
  rw [Try.params8] at hA hval
  obtain ⟨v0, vs0, d0, ds0, p0, q0, hargs, rfl, rfl, h0, r0⟩ := trodAll_cons hA
  obtain ⟨v1, vs1, d1, ds1, p1, q1, rfl, rfl, rfl, h1, r1⟩ := trodAll_cons r0
  obtain ⟨rfl, rfl, rfl⟩ := trodAll_nil r1
  obtain rfl : args = #[v0, v1] := by cases args; simp_all
  obtain ⟨rfl, rfl⟩ := trodVars_none hV
  obtain ⟨a0, len0, cap0, rfl⟩ := okWide_slice Try.underlying25 (hval 0 25 v0 rfl rfl)
  have k0 := h0
  have lt0 : ∀ x ∈ p0, x.block < W.heap.size := by obtain ⟨m, hm⟩ := k0; exact DataW.trod_lt m _ _ _ hm
  obtain ⟨z0, w0⟩ : ∃ zs, IsRow .i64 W a0 len0 cap0 zs := by
    obtain ⟨fuel, hf⟩ := h0
    rcases open_ints Try.underlying25 Try.underlying2 (by kernel_rfl) hf with ⟨hcs, _⟩ | ⟨x, l, c, zs, hcs, _, hl, hm, hz, _, hcell, hwz⟩
    · simp [Value.cells] at hcs
      obtain ⟨rfl, rfl, rfl⟩ := hcs
      exact ⟨[], .inl ⟨rfl, rfl, rfl, rfl⟩⟩
    · simp [Value.cells] at hcs
      obtain ⟨rfl, rfl, rfl⟩ := hcs
      exact ⟨zs, .inr ⟨_, rfl, hl, hm, by simpa using hz, hcell, hwz⟩⟩
  obtain ⟨a1, len1, cap1, rfl⟩ := okWide_slice Try.underlying25 (hval 1 25 v1 rfl rfl)
  have k1 := h1
  have lt1 : ∀ x ∈ p1, x.block < W.heap.size := by obtain ⟨m, hm⟩ := k1; exact DataW.trod_lt m _ _ _ hm
  obtain ⟨z1, w1⟩ : ∃ zs, IsRow .i64 W a1 len1 cap1 zs := by
    obtain ⟨fuel, hf⟩ := h1
    rcases open_ints Try.underlying25 Try.underlying2 (by kernel_rfl) hf with ⟨hcs, _⟩ | ⟨x, l, c, zs, hcs, _, hl, hm, hz, _, hcell, hwz⟩
    · simp [Value.cells] at hcs
      obtain ⟨rfl, rfl, rfl⟩ := hcs
      exact ⟨[], .inl ⟨rfl, rfl, rfl, rfl⟩⟩
    · simp [Value.cells] at hcs
      obtain ⟨rfl, rfl, rfl⟩ := hcs
      exact ⟨zs, .inr ⟨_, rfl, hl, hm, by simpa using hz, hcell, hwz⟩⟩
  clear hA0 hval0
  refine (walk a0 len0 cap0 z0 a1 len1 cap1 z1 W w0 w1).mono fun e W' ⟨he, bel⟩ => ?_
  subst he
  exact ⟨_, rfl, _, _, _, [], _, [], hW', trodAll_mk1 (shut_bool Try.underlying4 _), (trodAll_cons_mk (Below.trod laidOut (by kernel_rfl) (of_decide_eq_true (by kernel_rfl)) k0 bel lt0) (trodAll_cons_mk (Below.trod laidOut (by kernel_rfl) (of_decide_eq_true (by kernel_rfl)) k1 bel lt1) trodAll_mk0)), rfl, bel.frame _, fun h => by cases h⟩

theorem over : Rows.fnExactRowLessRow.holds Try.pinned (OpenSpec.ofChange Rows.fnExactRowLessSpec) :=
  OpenClaim.holds_of_wide 8 Try.f8 rfl rfl rfl rfl rfl rfl rfl ⟨rfl, rfl, rfl, rfl, rfl⟩ rfl rfl rfl rfl rfl (by kernel_rfl) Try.func8 (by kernel_rfl)
    (of_decide_eq_true (by kernel_rfl)) (by unfold Func.isWrapper; first | (rw [if_pos (by decide +kernel)]; kernel_rfl) | (rw [if_neg (by decide +kernel)]; exact ⟨rfl, rfl⟩))
    (fun os started H enc _ => lifted os started H enc)

/-- ████ THE STATEMENT ████ -/
theorem proved : Rows.FnExactRowLessSaid := over
end Go.Proofs.Ythlniadodiomfaa.fnExactRowLess
namespace Go.Proofs.Ythlniadodiomfaa
theorem fnExactRowLess_holds : Rows.FnExactRowLessSaid := fnExactRowLess.proved
#print axioms fnExactRowLess_holds
end Go.Proofs.Ythlniadodiomfaa
