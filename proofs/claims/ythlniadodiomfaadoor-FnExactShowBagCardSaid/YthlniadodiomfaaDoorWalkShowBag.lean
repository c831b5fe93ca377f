/- The walk of laws.FnExactShowBag: it returns true, and nothing that lay has turned; where the library's table of powers lies as the program text lays it. -/
import Derived.Test.YthlniadodiomfaaDoorShow4
import Derived.Test.YthlniadodiomfaaDoorBagOpen
namespace Go.Proofs.YthlniadodiomfaaDoor
open Go.RowKit

set_option maxRecDepth 100000 in
set_option maxHeartbeats 1000000 in
theorem walkFnExactShowBag (a0 : Option Addr) (cap0 : Nat) (bag : List (List Int × Int)) (w : World) (hT : Lib.TabBelow Tryd.prog w.heap.size w "internal/strconv.uint64pow10" .u64 Lib.pow10Tab) (w0 : RawBag w w.heap.size a0 bag) (hm : bag.length ≤ maxLen) :
    Calls Tryd.prog 7 #[.slice a0 bag.length cap0] w fun e w' => e = .returned (.bool true) ∧ Below w.heap.size w w' := by
  obtain ⟨S, hS⟩ : ∃ S : ByteArray, S = ⟨(showBagL bag).toArray⟩ := ⟨_, rfl⟩
  have HS := Lib.hid hS
  clear hS
  go_enter Tryd.func7, Tryd.ntmps7
  go_wp2_with fail
  refine (szCountS_any a0 cap0 bag w w0 hm).mono ?_
  rintro e w1 ⟨x, rfl, hx, hb1⟩
  have HX := Lib.hid hx
  clear hx
  by_cases h0 : x < 0
  · go_wp2
    go_ret
    exact ⟨rfl, hb1⟩
  · obtain ⟨hl1, hl2⟩ := HX.out (by omega)
    have hB := (w0.on hb1).bag (fun j hj => by have := hl2 j hj; omega)
    have hl : bag.length ≤ 1099511627776 := by omega
    have HL2 := Lib.hid hl2
    clear hl1 hl2 w0 hm HX
    go_wp2_with fail
    refine (toCountS_any a0 cap0 bag w1 hB hl).mono ?_
    rintro e w2 ⟨gs2, rfl, hA2, _, hb2⟩
    have hR2 := hA2.bag (fun j hj => by have := HL2.out j hj; omega)
    clear hA2
    go_wp2_with fail
    refine (specShowBag_any _ _ bag w2 hR2 hl).mono ?_
    rintro e w3 ⟨rfl, hb3⟩
    rw [← HS.out]
    have hb03 := bel_step hb1 (bel_step hb2 hb3)
    have hB3 := hB.on (bel_step hb2 hb3)
    clear hR2 hb2 hb3 hB
    go_wp2_with fail
    refine (toCountS_any a0 cap0 bag w3 hB3 hl).mono ?_
    rintro e w4 ⟨gs4, rfl, hA4, _, hb4⟩
    have hR4 := hA4.bag (fun j hj => by have := HL2.out j hj; omega)
    have hb04 := bel_step hb03 hb4
    clear hA4
    go_wp2_with fail
    refine (implShowBag_any _ _ bag w4 hR4 hl (fun w' h' => hT w' (hb04.trans (h'.mono hb04.size)))).mono ?_
    rintro e w5 ⟨rfl, hb5⟩
    rw [← HS.out]
    have hb05 := bel_step hb04 hb5
    have hR5 := hR4.on hb5
    have hB5 := hB3.on (bel_step hb4 hb5)
    clear hR4 hb4 hb5 hb04 hB3 hb03
    go_wp2_with fail
    refine (toCountS_any a0 cap0 bag w5 hB5 hl).mono ?_
    rintro e w6 ⟨gs6, rfl, hA6, _, hb6⟩
    have hR6 := hA6.bag (fun j hj => by have := HL2.out j hj; omega)
    clear hA6
    go_wp2_with fail
    refine (eqCountS_any _ _ _ _ bag bag w6 (hR5.on hb6) hR6 hl hl).mono ?_
    rintro e w7 ⟨rfl, hb7⟩
    rw [decide_eq_true (rfl : bag = bag)]
    go_wp2
    go_ret
    exact ⟨rfl, bel_step hb05 (bel_step hb6 hb7)⟩
end Go.Proofs.YthlniadodiomfaaDoor
