/- The walk of laws.FnExactBagOk: it returns true, and nothing that lay has turned. -/
import Derived.Test.YthlniadodiomfaaBagI1
import Derived.Test.YthlniadodiomfaaBagOpen
namespace Go.Proofs.Ythlniadodiomfaa
open Go.RowKit

set_option maxRecDepth 100000 in
set_option maxHeartbeats 1000000 in
theorem walkFnExactBagOk (a0 : Option Addr) (cap0 : Nat) (bag : List (List Int × Int)) (w : World) (w0 : RawBag w w.heap.size a0 bag) (hm : bag.length ≤ maxLen) :
    Calls Try.prog 10 #[.slice a0 bag.length cap0] w fun e w' => e = .returned (.bool true) ∧ Below w.heap.size w w' := by
  go_enter Try.func10, Try.ntmps10
  go_wp2_with fail
  refine (szCountS_any a0 cap0 bag w w0 hm).mono ?_
  rintro e w1 ⟨x, rfl, hx, hb1⟩
  have HX := Lib.hid hx
  clear hx
  by_cases h0 : x < 0
  · go_wp2
    go_ret
    exact ⟨rfl, hb1⟩
  · obtain ⟨hl1, hl2⟩ := HX.out (by omega)
    have hB := (w0.on hb1).bag (fun j hj => by have := hl2 j hj; omega)
    have hl : bag.length ≤ 1099511627776 := by omega
    have HL2 := Lib.hid hl2
    clear hl1 hl2 w0 hm HX
    go_wp2_with fail
    refine (toCountS_any a0 cap0 bag w1 hB hl).mono ?_
    rintro e w2 ⟨gs2, rfl, hA2, _, hb2⟩
    have hR2 := hA2.bag (fun j hj => by have := HL2.out j hj; omega)
    clear hA2
    go_wp2_with fail
    refine (specBagOk_any _ _ bag w2 _ hR2 hl).mono ?_
    rintro e w3 ⟨rfl, n3, rfl⟩
    have hb03 := bel_drewN (bel_step hb1 hb2) n3
    have hB3 : Bag (w2.drewN n3) (w2.drewN n3).heap.size a0 bag := (hB.on hb2).drewN n3
    clear hR2 hb2
    generalize w2.drewN n3 = wb at *
    go_wp2_with fail
    refine (toCountS_any a0 cap0 bag wb hB3 hl).mono ?_
    rintro e w4 ⟨gs4, rfl, hA4, _, hb4⟩
    have hR4 := hA4.bag (fun j hj => by have := HL2.out j hj; omega)
    go_wp2_with fail
    refine (implBagOk_any _ _ bag w4 hR4 hl).mono ?_
    rintro e w5 ⟨rfl, hb5⟩
    have hb35 := bel_step hb4 hb5
    have hb05 := bel_step hb03 hb35
    have hR5 := hR4.on hb5
    have hB5 := hB3.on hb35
    clear hA4 hR4 hb4 hb5
    generalize hbo : bagOkB bag = bo
    go_wp2_with fail
    refine (toCountS_any a0 cap0 bag w5 hB5 hl).mono ?_
    rintro e w6 ⟨gs6, rfl, hA6, _, hb6⟩
    have hR6 := hA6.bag (fun j hj => by have := HL2.out j hj; omega)
    go_wp2_with fail
    refine (eqCountS_any _ _ _ _ bag bag w6 (hR5.on hb6) hR6 hl hl).mono ?_
    rintro e w7 ⟨rfl, hb7⟩
    rw [decide_eq_true (rfl : bag = bag)]
    go_wp2
    go_ret
    exact ⟨rfl, bel_step hb05 (bel_step hb6 hb7)⟩

end Go.Proofs.Ythlniadodiomfaa
