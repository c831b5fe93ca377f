/- The walk of laws.FnExactCondsOk: it returns true, and nothing that lay has turned. -/
import Derived.Test.YtfhjgkiclfbgkaaCndJ
import Derived.Test.YtfhjgkiclfbgkaaCndS
import Derived.Test.YtfhjgkiclfbgkaaCndOpen
namespace Go.Proofs.Ytfhjgkiclfbgkaa
open Go.RowKit

set_option maxRecDepth 100000 in
set_option maxHeartbeats 2000000 in
theorem walkFnExactCondsOk (a0 : Option Addr) (cap0 : Nat) (l : List Cnd) (wd : Int) (w : World) (w0 : Cnds w w.heap.size a0 l) (hm : l.length ≤ maxLen) (_ : (Lit.int .i64 wd).wf = true) :
    Calls Try.prog 3 #[.slice a0 l.length cap0, .int .i64 wd] w fun e w' => e = .returned (.bool true) ∧ Below w.heap.size w w' := by
  go_enter Try.func3, Try.ntmps3
  go_wp2_with fail
  refine (szCondS_any a0 l.length cap0 1048576 w hm (by omega) (by omega)).mono ?_
  rintro e w1 ⟨rfl, rfl⟩
  by_cases h0 : (1048576 : Int) < l.length
  · rw [if_pos h0]
    clear h0
    go_wp2
    go_ret
    exact ⟨rfl, Below.refl _ _⟩
  · rw [if_neg h0]
    have hl : l.length ≤ 1099511627776 := by omega
    have hd : decide (1048576 - (l.length : Int) < 0) = false := by simp; omega
    clear hm h0
    go_wp2_with fail
    refine (toCondS_any a0 cap0 l w w0 hl).mono ?_
    rintro e w2 ⟨rfl, hA2, hb2⟩
    have hW := hb2
    clear hd
    go_wp2_with fail
    refine (specCondsOk_any _ _ l wd w2 hA2.cnds hl).mono ?_
    rintro e w3 ⟨rfl, hb3⟩
    replace hW := bel_step hW hb3
    replace w0 := w0.on hW
    clear hb2 hb3 hA2
    go_wp2_with fail
    refine (toCondS_any a0 cap0 l w3 w0 hl).mono ?_
    rintro e w4 ⟨rfl, hA, hb⟩
    replace hW := bel_step hW hb
    replace w0 := w0.on hb
    clear hb
    go_wp2_with fail
    refine (implCondsOk_any _ _ l wd w4 hA.cnds hl).mono ?_
    rintro e w5 ⟨rfl, hb⟩
    replace hW := bel_step hW hb
    replace w0 := w0.on hb
    replace hA := hA.on hb
    clear hb
    generalize condsB l wd = bo at *
    go_wp2_with fail
    refine (toCondS_any a0 cap0 l w5 w0 hl).mono ?_
    rintro e w6 ⟨rfl, hA6, hb⟩
    replace hW := bel_step hW hb
    replace hA := hA.on hb
    clear hb
    go_wp2_with fail
    refine (eqCondS_any _ _ _ _ l l w6 hA.cnds hA6.cnds hl hl).mono ?_
    rintro e w7 ⟨rfl, hb⟩
    replace hW := bel_step hW hb
    rw [decide_eq_true (rfl : l = l)]
    clear hb hA hA6
    go_wp2
    go_ret
    exact ⟨rfl, hW⟩
end Go.Proofs.Ytfhjgkiclfbgkaa
