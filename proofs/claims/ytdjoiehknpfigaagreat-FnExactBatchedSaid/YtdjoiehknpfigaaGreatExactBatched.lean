/- laws.FnExactBatched holds: Batched answers as its model at every base and every list of deeds, leaves them as they were, and its answer owns its memory. No condition. -/
import Derived.Test.YtdjoiehknpfigaaGreatRows
import Derived.WalkKit
import Derived.ProofKit
import Derived.OpenShut
import Derived.ShutString
import Derived.ChangeOld
import Derived.ChangeMaps5
import Derived.Below
import Derived.Test.YtdjoiehknpfigaaGreatHead
import Derived.Test.YtdjoiehknpfigaaGreatBas0
import Derived.Test.YtdjoiehknpfigaaGreatDesM
import Derived.Test.YtdjoiehknpfigaaGreatWalkBatched
namespace Go.Proofs.YtdjoiehknpfigaaGreat.fnExactBatched
open Go.ChangeShapes Go.WideShapes Go.ChangeAt Go.RowKit
set_option linter.unusedVariables false

theorem own : ownKnob Tryz.prog.godebug = none := by kernel_rfl
theorem laidOut : laidOutB Tryz.prog = true := by kernel_rfl

set_option maxRecDepth 100000 in
theorem lifted (os : Os) (started : os.Started) (H : Type) (enc : TypeId × Value → H) :
    ReturnsInHanded {} Tryz.checked os 4 .any (Rows.fnExactBatchedSpec.pre6 enc Tryz.prog Tryz.f4 Rows.fnExactBatchedRow.domain false) (Rows.fnExactBatchedSpec.post enc Tryz.prog Tryz.f4 false true false false) := by
  refine returnsInHanded_of_change (C := Tryz.checked) own started (by kernel_rfl) Tryz.func4
    (ChangeSpec.witness6 (enc := enc) (C := Tryz.checked) false ⟨#[], #[.slice none 0 0, .slice none 0 0], []⟩ 8 (by kernel_rfl) (by kernel_rfl) (by kernel_rfl) (by kernel_rfl)) ?_
  intro W base args ds gs before hval0 hW hcnd _
  have hval : ∀ (j : Nat) t v, Tryz.f4.params[j]? = some t → args[j]? = some v → Value.okWide Tryz.prog W .any base t v := hval0
  have hW' := hW
  obtain ⟨p, q, hA0, hV, rfl, hfz, hnd⟩ := hW
  have hA : DataW.TrodAll enc Tryz.prog W 0 (fun _ => true) true Tryz.f4.params.toList args.toList ds p := hA0
  rw [Tryz.params4] at hA hval
  obtain ⟨v0, vs0, d0, ds0, p0, q0, hargs, rfl, rfl, h0, r0⟩ := trodAll_cons hA
  obtain ⟨v1, vs1, d1, ds1, p1, q1, rfl, rfl, rfl, h1, r1⟩ := trodAll_cons r0
  obtain ⟨rfl, rfl, rfl⟩ := trodAll_nil r1
  obtain rfl : args = #[v0, v1] := by cases args; simp_all
  obtain ⟨rfl, rfl⟩ := trodVars_none hV
  obtain ⟨a0, len0, cap0, rfl⟩ := okWide_slice Tryz.underlying22 (hval 0 22 v0 rfl rfl)
  have k0 := h0
  have lt0 : ∀ x ∈ p0, x.block < W.heap.size := by obtain ⟨m, hm⟩ := k0; exact DataW.trod_lt m _ _ _ hm
  obtain ⟨z0, rfl, w0, m0⟩ : ∃ z : List TB, z.length = len0 ∧ RawTabs W W.heap.size a0 z ∧ len0 ≤ maxLen := by
    obtain ⟨fuel, hf⟩ := h0
    exact rawTabs_of hf
  obtain ⟨a1, len1, cap1, rfl⟩ := okWide_slice Tryz.underlying39 (hval 1 39 v1 rfl rfl)
  have k1 := h1
  have lt1 : ∀ x ∈ p1, x.block < W.heap.size := by obtain ⟨m, hm⟩ := k1; exact DataW.trod_lt m _ _ _ hm
  obtain ⟨z1, rfl, w1, m1⟩ : ∃ z : List DL, z.length = len1 ∧ RawDLs W W.heap.size a1 z ∧ len1 ≤ maxLen := by
    obtain ⟨fuel, hf⟩ := h1
    exact rawDLs_of hf
  clear hA0 hval0
  refine (walkFnExactBatched a0 cap0 z0 a1 cap1 z1 W w0 m0 w1 m1).mono fun e W' ⟨he, bel⟩ => ?_
  subst he
  exact ⟨_, rfl, _, _, _, [], _, [], hW', trodAll_mk1 (shut_bool Tryz.underlying4 _), (trodAll_cons_mk (Below.trod laidOut (by kernel_rfl) (of_decide_eq_true (by kernel_rfl)) k0 bel lt0) (trodAll_cons_mk (Below.trod laidOut (by kernel_rfl) (of_decide_eq_true (by kernel_rfl)) k1 bel lt1) trodAll_mk0)), rfl, bel.frame _, fun h => by cases h⟩

theorem closed : joinedFacts Tryz.prog 4 Tryz.f4 Rows.fnExactBatchedSpec Rows.fnExactBatchedRow = true := by
  unfold joinedFacts
  iterate 4 (refine and_mk ?_ (by as_aux_lemma => kernel_rfl))
  refine and_mk ?_ (made_of make_cut rfl)
  refine and_mk ?_ (lifted_of lifts_final rfl)
  refine and_mk ?_ may_enter
  iterate 24 (refine and_mk ?_ (by as_aux_lemma => kernel_rfl))
  as_aux_lemma => kernel_rfl
theorem named_ : Tryz.pinned.checked.prog.funcNamed Rows.fnExactBatchedRow.func = some 4 := by kernel_rfl
theorem over : Rows.fnExactBatchedRow.holds Tryz.pinned (OpenSpec.ofChange Rows.fnExactBatchedSpec) :=
  OpenClaim.holds_of_wide 4 Tryz.f4 rfl rfl rfl rfl rfl rfl rfl ⟨rfl, rfl, rfl, rfl, rfl⟩ rfl rfl rfl rfl rfl named_ Tryz.func4 closed
    (of_decide_eq_true (by as_aux_lemma => kernel_rfl)) (by unfold Func.isWrapper; first | (rw [if_pos (by decide +kernel)]; kernel_rfl) | (rw [if_neg (by decide +kernel)]; exact ⟨rfl, rfl⟩))
    (fun os started H enc _ => lifted os started H enc)
end Go.Proofs.YtdjoiehknpfigaaGreat.fnExactBatched
namespace Go.Proofs.YtdjoiehknpfigaaGreat
theorem fnExactBatched_holds : Rows.FnExactBatchedSaid := fnExactBatched.over
#print axioms fnExactBatched_holds
end Go.Proofs.YtdjoiehknpfigaaGreat
