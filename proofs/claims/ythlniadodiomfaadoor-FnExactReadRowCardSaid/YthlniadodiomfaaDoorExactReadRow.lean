/- For every input laws.FnExactReadRow returns true and each argument reads behind the call as it read before; the listed variables of the library lie as the program text lays them (the card ties them to it). No other condition. -/
import Derived.Test.YthlniadodiomfaaDoorRows
import Derived.WalkKit
import Derived.LaidMore
import Derived.Stop.Joined
import Derived.Stop.LaidErr
import Derived.WalkSmall
import Derived.Lay
import Derived.Test.YthlniadodiomfaaDoorLaid1
import Derived.Test.YthlniadodiomfaaDoorTie
import Derived.Test.YthlniadodiomfaaDoorCards
import Derived.SevenTiedAt
import Derived.ProofKit
import Derived.OpenShut
import Derived.ShutString
import Derived.ChangeOld
import Derived.Below
namespace Go.Proofs.YthlniadodiomfaaDoor.fnExactReadRow
open Go.ChangeShapes Go.WideShapes Go.ChangeAt Go.RowKit
open Go.ChangeMaps (open_string shut_string)
set_option linter.unusedVariables false      -- a walk need not use every 'w<i>' (that an integer argument fits its kind)

theorem own : ownKnob Tryd.prog.godebug = none := by kernel_rfl

/-! ### STEP 1: THE WALK: the Go text returns true. 'Below w.heap.size w w'': the world has at most new blocks (Derived/RowKit3.lean). Part the cases AHEAD of 'go_enter' where a test parts the walk; take each callee by a contract of your own. -/
/-- What the walk takes of the library's variables. -/
def LaidHere (w : World) : Prop := LaidAll w
theorem laidHere {W : World} (h : laidMetH Tryd.prog Rows.fnExactReadRowRow.laid W) (hsh : W.ShapedOpen Tryd.prog) : LaidHere W := by
  rw [MakeChecks.laidMetH_plain _ _ _ (by kernel_rfl)] at h
  have h3 := laidMet.tail (laidMet.tail h)
  have h5 := laidMet.tail (laidMet.tail h3)
  exact laidAll_of (maxLen_of hsh) (tab_of h3) (errS_of (laidMet.tail h5)) (errR_of h5)

set_option maxRecDepth 100000 in
set_option maxHeartbeats 4000000 in
theorem walk (a0 : ByteArray) (w0 : a0.size ≤ maxLen) (w : World) (hT : LaidHere w) :
    Calls Tryd.prog 6 #[.string a0] w fun e w' => e = .returned (.bool true) ∧ Below w.heap.size w w' := by
  unfold maxLen at w0
  by_cases hbig : 1048576 < a0.size
  · have hb : decide ((1048576 : Int) < (a0.size : Int)) = true := by simp; omega
    go_enter Tryd.func6, Tryd.ntmps6
    go_wp2
    go_ret
    exact ⟨rfl, Below.refl _ _⟩
  have hb : decide ((1048576 : Int) < (a0.size : Int)) = false := by simp; omega
  have hs : a0.size ≤ 1073741824 := by omega
  have hrl := specRead_len (bl a0)
  have hsp := fun wx => specReadRow_any a0 wx hs
  have him := fun wx hx => implReadRow_any a0 wx hs hx
  have HSP := Lib.hid hsp
  have HIM := Lib.hid him
  clear hbig w0 hsp him
  generalize specRead (bl a0) = p at *
  obtain ⟨r, q⟩ := p
  simp only at hrl
  have hq0 : decide (1 + (r.length : Int) < 0) = false := by simp; omega
  go_enter Tryd.func6, Tryd.ntmps6
  go_wp2_with fail
  refine (HSP.out _).mono ?_
  rintro e w1 ⟨v1, rfl, hown1, hb1⟩
  obtain ⟨A1, cap1, g1, rfl, hg1, RW⟩ := Row.of_own hown1
  clear hown1
  go_wp2_with fail
  refine (HIM.out _ (LaidAll.on hT hb1)).mono ?_
  rintro e w2 ⟨v2, rfl, hown2, hb2⟩
  obtain ⟨A2, cap2, g2, rfl, hg2, RG⟩ := Row.of_own hown2
  have RW2 := RW.on hb2
  have hb02 : Below w.heap.size w w2 := hb1.trans (hb2.mono hb1.size)
  have hgw : 0 < r.length → g1 < w1.heap.size := RW.lt
  have h1s := hb1.size
  clear hown2 RW hb2 hb1
  go_wp2_with fail
  refine (eqInt64S_any _ _ _ _ r r w2 w2.heap.size w2.heap.size RG.ints RW2.ints (by omega) (by omega)).mono ?_
  rintro e w3 ⟨rfl, nd3, rfl⟩
  rw [decide_eq_true (rfl : r = r)]
  have hb03 := bel_drewN hb02 nd3
  have RW3 := RW2.drewN nd3
  have RG3 := RG.drewN nd3
  clear RW2 RG hb02
  generalize w2.drewN nd3 = w3 at *
  go_wp2_with fail
  refine (markInt64S_any _ _ g2 r 1 w3 RG3 (by omega) (by omega) (by omega)).mono ?_
  rintro e w4 ⟨rfl, RG4, hg4⟩
  have RW4 := RW3.kept hg4 (fun h => by have := hgw h; simp; omega)
  have hb04 : Below w.heap.size w w4 := hb03.grown hg4 hb03.size (fun g hg => by cases hg; omega)
  clear RW3 RG3 hg4 hb03
  go_wp2_with fail
  refine (heldInt64S_any _ _ r.length w4.heap.size 1 w4 RG4.ints (by omega) (by omega) (by omega)).mono ?_
  rintro e w5 ⟨rfl, rfl⟩
  go_wp2_with fail
  refine (HIM.out _ (LaidAll.on hT hb04)).mono ?_
  rintro e w6 ⟨v6, rfl, hown6, hb6⟩
  obtain ⟨A6, cap6, g6, rfl, hg6, RH⟩ := Row.of_own hown6
  have RW6 := RW4.on hb6
  have RG6 := RG4.on hb6
  have hb06 : Below w.heap.size w w6 := hb04.trans (hb6.mono hb04.size)
  clear hown6 RW4 RG4 hb6 hb04
  go_wp2_with fail
  refine (eqInt64S_any _ _ _ _ r r w6 w6.heap.size w6.heap.size RH.ints RW6.ints (by omega) (by omega)).mono ?_
  rintro e w7 ⟨rfl, nd7, rfl⟩
  rw [decide_eq_true (rfl : r = r)]
  have hb07 := bel_drewN hb06 nd7
  have RG7 := RG6.drewN nd7
  clear RW6 RG6 hb06 RH
  generalize w6.drewN nd7 = w7 at *
  go_wp2_with fail
  refine (heldInt64S_any _ _ r.length w7.heap.size 1 w7 RG7.ints (by omega) (by omega) (by omega)).mono ?_
  rintro e w8 ⟨rfl, rfl⟩
  go_wp2
  go_ret
  exact ⟨rfl, hb07⟩

/-! ### THE ROW's STEP: WRITTEN OUT: LEAVE IT -/
set_option maxRecDepth 100000 in
theorem lifted (os : Os) (started : os.Started) (H : Type) (enc : TypeId × Value → H) :
    ReturnsInHanded {} Tryd.checked os 6 .any (fun w args => (Rows.fnExactReadRowSpec.pre enc Tryd.prog Tryd.f6 [] false w args ∧ laidMetH Tryd.prog Rows.fnExactReadRowRow.laid w) ∧ sizedMet enc Tryd.prog Tryd.f6 (OpenSpec.ofChange Rows.fnExactReadRowSpec) false w args) (Rows.fnExactReadRowSpec.post enc Tryd.prog Tryd.f6 false true false false) := by
  refine and_shaped (C := Tryd.checked) (X := fun w _ => laidMetH Tryd.prog Rows.fnExactReadRowRow.laid w) (fun _ _ _ hh h => h.of_heap hh) own started (by kernel_rfl) Tryd.func6
    (ChangeSpec.witness_shaped (enc := enc) (C := Tryd.checked) (os := os) (X := fun w _ => laidMetH Tryd.prog Rows.fnExactReadRowRow.laid w) false (World.laidAll Tryd.prog os Rows.fnExactReadRowRow.laid) #[.string ByteArray.empty] 8 (World.laidAll_os _ _ _)
      (World.shaped_of_ZipB (by kernel_rfl) (by kernel_rfl)) (by kernel_rfl) (by kernel_rfl) (by kernel_rfl)
      (by rw [MakeChecks.laidMetH_plain _ _ _ (by kernel_rfl)]; exact laidMet_laidAll _ (by kernel_rfl) (by kernel_rfl))) ?_
  intro W base args ds gs before hval0 hW hcnd hsz0 hL hsh _
  have hval : ∀ (j : Nat) t v, Tryd.f6.params[j]? = some t → args[j]? = some v → Value.okWide Tryd.prog W .any base t v := hval0
  have hW' := hW
  obtain ⟨p, q, hA0, hV, rfl, hfz, hnd⟩ := hW
  have hA : DataW.TrodAll enc Tryd.prog W 0 (fun _ => true) true Tryd.f6.params.toList args.toList ds p := hA0
  rw [Tryd.params6] at hA hval
  obtain ⟨v0, vs0, d0, ds0, p0, q0, hargs, rfl, rfl, h0, r0⟩ := trodAll_cons hA
  obtain ⟨rfl, rfl, rfl⟩ := trodAll_nil r0
  obtain rfl : args = #[v0] := by cases args; simp_all
  obtain ⟨rfl, rfl⟩ := trodVars_none hV
  obtain ⟨a0, rfl, rfl, rfl, w0⟩ := open_string Tryd.underlying9 (hval 0 9 v0 rfl rfl) h0
  clear hA0 hval0
  simp only [List.append_nil] at hW'
  refine (walk a0 w0 W (laidHere hL hsh)).mono fun e W' ⟨he, hg⟩ => ?_
  subst he
  exact ⟨_, rfl, _, _, _, [], _, [], hW', trodAll_mk1 (shut_bool Tryd.underlying4 _), (trodAll_cons_mk (shut_string Tryd.underlying9 w0) trodAll_mk0), rfl, hg.frame _, fun h => by cases h⟩

theorem over : Rows.fnExactReadRowRow.holds Tryd.pinned (OpenSpec.ofChange Rows.fnExactReadRowSpec) :=
  OpenClaim.holds_of_wide 6 Tryd.f6 rfl rfl rfl rfl rfl rfl rfl ⟨rfl, rfl, rfl, rfl, rfl⟩ rfl rfl rfl rfl rfl (by kernel_rfl) Tryd.func6 (by kernel_rfl)
    (of_decide_eq_true (by kernel_rfl)) (by unfold Func.isWrapper; first | (rw [if_pos (by decide +kernel)]; kernel_rfl) | (rw [if_neg (by decide +kernel)]; exact ⟨rfl, rfl⟩))
    (fun os started H enc _ => lifted os started H enc)

end Go.Proofs.YthlniadodiomfaaDoor.fnExactReadRow
namespace Go.Proofs.YthlniadodiomfaaDoor
/-- ████ THE STATEMENT ████ -/
theorem fnExactReadRow_holds : Rows.FnExactReadRowCardSaid :=
  Claim7.holds_tied_plain_at .later [] [.data, .data, .data, .data, .sentinel, .sentinel, .pinned] true (true, "894cd8a4a8c5ed9e329a55c2123ac69ee605c8fcd0bbf829721e984a1acb3f91") true
    fnExactReadRow.over (fun _ h => by cases h) (by kernel_rfl) (fun _ h => by cases h) fnExactReadRow_row_tie rfl ⟨rfl, rfl⟩ (by kernel_rfl) rfl
    (fun f fn hf hfn => by
      obtain rfl : f = 6 := Option.some.inj ((show Tryd.prog.funcNamed Rows.fnExactReadRowRow.func = some 6 by kernel_rfl).symm.trans hf) |>.symm
      obtain rfl : fn = Tryd.f6 := (Option.some.inj (Tryd.func6.symm.trans hfn)).symm
      exact ⟨by kernel_rfl, fun j t ht => by
        rw [Tryd.params6] at ht
        have hm : t ∈ [9] := by simpa using Array.mem_of_getElem? ht
        have hall : ([9].all fun u => !Tryd.prog.wantsStandIn u) = true := by kernel_rfl
        exact (show Tryd.prog.wantsStandIn t = false by simpa using List.all_eq_true.1 hall t hm)⟩)
    (by kernel_rfl)
#print axioms fnExactReadRow_holds
end Go.Proofs.YthlniadodiomfaaDoor
