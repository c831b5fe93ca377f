/- laws.FnExactDoes holds: Does answers as its model at every base and every deed, leaves them as they were, and its answer owns its memory. No condition. -/
import Derived.Test.YtdjoiehknpfigaaGreatRows
import Derived.WalkKit
import Derived.ProofKit
import Derived.OpenShut
import Derived.ShutString
import Derived.ChangeOld
import Derived.ChangeMaps5
import Derived.Below
import Derived.Test.YtdjoiehknpfigaaGreatHead
import Derived.Test.YtdjoiehknpfigaaGreatBas0
import Derived.Test.YtdjoiehknpfigaaGreatDeedOpen
import Derived.Test.YtdjoiehknpfigaaGreatWalkDoes
namespace Go.Proofs.YtdjoiehknpfigaaGreat.fnExactDoes
open Go.ChangeShapes Go.WideShapes Go.ChangeAt Go.RowKit
set_option linter.unusedVariables false

theorem own : ownKnob Tryz.prog.godebug = none := by kernel_rfl
theorem laidOut : laidOutB Tryz.prog = true := by kernel_rfl

set_option maxRecDepth 100000 in
theorem lifted (os : Os) (started : os.Started) (H : Type) (enc : TypeId × Value → H) :
    ReturnsInHanded {} Tryz.checked os 3 .any (Rows.fnExactDoesSpec.pre6 enc Tryz.prog Tryz.f3 Rows.fnExactDoesRow.domain false) (Rows.fnExactDoesSpec.post enc Tryz.prog Tryz.f3 false true false false) := by
  refine returnsInHanded_of_change (C := Tryz.checked) own started (by kernel_rfl) Tryz.func3
    (ChangeSpec.witness6 (enc := enc) (C := Tryz.checked) false ⟨#[], #[.slice none 0 0, .agg #[.int .i64 0, .string ⟨#[]⟩, .slice none 0 0]], []⟩ 8 (by kernel_rfl) (by kernel_rfl) (by kernel_rfl) (by kernel_rfl)) ?_
  intro W base args ds gs before hval0 hW hcnd _
  have hval : ∀ (j : Nat) t v, Tryz.f3.params[j]? = some t → args[j]? = some v → Value.okWide Tryz.prog W .any base t v := hval0
  have hW' := hW
  obtain ⟨p, q, hA0, hV, rfl, hfz, hnd⟩ := hW
  have hA : DataW.TrodAll enc Tryz.prog W 0 (fun _ => true) true Tryz.f3.params.toList args.toList ds p := hA0
  rw [Tryz.params3] at hA hval
  obtain ⟨v0, vs0, d0, ds0, p0, q0, hargs, rfl, rfl, h0, r0⟩ := trodAll_cons hA
  obtain ⟨v1, vs1, d1, ds1, p1, q1, rfl, rfl, rfl, h1, r1⟩ := trodAll_cons r0
  obtain ⟨rfl, rfl, rfl⟩ := trodAll_nil r1
  obtain rfl : args = #[v0, v1] := by cases args; simp_all
  obtain ⟨rfl, rfl⟩ := trodVars_none hV
  obtain ⟨a0, len0, cap0, rfl⟩ := okWide_slice Tryz.underlying22 (hval 0 22 v0 rfl rfl)
  have k0 := h0
  have lt0 : ∀ x ∈ p0, x.block < W.heap.size := by obtain ⟨m, hm⟩ := k0; exact DataW.trod_lt m _ _ _ hm
  obtain ⟨z0, rfl, w0, m0⟩ : ∃ z : List TB, z.length = len0 ∧ RawTabs W W.heap.size a0 z ∧ len0 ≤ maxLen := by
    obtain ⟨fuel, hf⟩ := h0
    exact rawTabs_of hf
  have k1 := h1
  have lt1 : ∀ x ∈ p1, x.block < W.heap.size := by obtain ⟨m, hm⟩ := k1; exact DataW.trod_lt m _ _ _ hm
  obtain ⟨kd1, s1, a1, cap1, z1, rfl, w1, m1, n1⟩ := deed_of (hval 1 25 v1 rfl rfl) h1
  clear hA0 hval0
  refine (walkFnExactDoes a0 cap0 z0 kd1 s1 a1 cap1 z1 W w0 m0 w1 m1 n1).mono fun e W' ⟨he, bel⟩ => ?_
  subst he
  exact ⟨_, rfl, _, _, _, [], _, [], hW', trodAll_mk1 (shut_bool Tryz.underlying4 _), (trodAll_cons_mk (Below.trod laidOut (by kernel_rfl) (of_decide_eq_true (by kernel_rfl)) k0 bel lt0) (trodAll_cons_mk (Below.trod laidOut (by kernel_rfl) (of_decide_eq_true (by kernel_rfl)) k1 bel lt1) trodAll_mk0)), rfl, bel.frame _, fun h => by cases h⟩

theorem closed : joinedFacts Tryz.prog 3 Tryz.f3 Rows.fnExactDoesSpec Rows.fnExactDoesRow = true := by
  unfold joinedFacts
  iterate 4 (refine and_mk ?_ (by as_aux_lemma => kernel_rfl))
  refine and_mk ?_ (made_of make_cut rfl)
  refine and_mk ?_ (lifted_of lifts_final rfl)
  refine and_mk ?_ may_enter
  iterate 24 (refine and_mk ?_ (by as_aux_lemma => kernel_rfl))
  as_aux_lemma => kernel_rfl
theorem named_ : Tryz.pinned.checked.prog.funcNamed Rows.fnExactDoesRow.func = some 3 := by kernel_rfl
theorem over : Rows.fnExactDoesRow.holds Tryz.pinned (OpenSpec.ofChange Rows.fnExactDoesSpec) :=
  OpenClaim.holds_of_wide 3 Tryz.f3 rfl rfl rfl rfl rfl rfl rfl ⟨rfl, rfl, rfl, rfl, rfl⟩ rfl rfl rfl rfl rfl named_ Tryz.func3 closed
    (of_decide_eq_true (by as_aux_lemma => kernel_rfl)) (by unfold Func.isWrapper; first | (rw [if_pos (by decide +kernel)]; kernel_rfl) | (rw [if_neg (by decide +kernel)]; exact ⟨rfl, rfl⟩))
    (fun os started H enc _ => lifted os started H enc)
end Go.Proofs.YtdjoiehknpfigaaGreat.fnExactDoes
namespace Go.Proofs.YtdjoiehknpfigaaGreat
theorem fnExactDoes_holds : Rows.FnExactDoesSaid := fnExactDoes.over
#print axioms fnExactDoes_holds
end Go.Proofs.YtdjoiehknpfigaaGreat
