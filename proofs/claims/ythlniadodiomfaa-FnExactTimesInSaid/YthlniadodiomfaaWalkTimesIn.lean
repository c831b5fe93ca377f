/- The walk of laws.FnExactTimesIn: it returns true, and nothing that lay has turned. -/
import Derived.Test.YthlniadodiomfaaBagI1
import Derived.Test.YthlniadodiomfaaBagOpen
namespace Go.Proofs.Ythlniadodiomfaa
open Go.RowKit

set_option maxRecDepth 100000 in
set_option maxHeartbeats 1000000 in
theorem walkFnExactTimesIn (a0 : Option Addr) (cap0 : Nat) (bag : List (List Int × Int)) (a1 : Option Addr) (len1 cap1 : Nat) (z1 : List Int) (w : World) (w0 : RawBag w w.heap.size a0 bag) (hm : bag.length ≤ maxLen) (w1' : IsRow .i64 w a1 len1 cap1 z1) :
    Calls Try.prog 11 #[.slice a0 bag.length cap0, .slice a1 len1 cap1] w fun e w' => e = .returned (.bool true) ∧ Below w.heap.size w w' := by
  obtain ⟨row, rfl, hI, hm1, _⟩ := isRow_ints w1'
  unfold maxLen at hm1
  by_cases hbig : 1048576 < row.length
  · have hb : (1048576 : Int) < (row.length : Int) := by omega
    go_enter Try.func11, Try.ntmps11
    go_wp2
    go_ret
    exact ⟨rfl, Below.refl _ _⟩
  have hb : decide ((1048576 : Int) < (row.length : Int)) = false := by simp; omega
  have hlr : row.length ≤ 1099511627776 := by omega
  clear hbig hm1 w1'
  go_enter Try.func11, Try.ntmps11
  go_wp2_with fail
  refine (szCountS_any a0 cap0 bag w w0 hm).mono ?_
  rintro e w1 ⟨x, rfl, hx, hb1⟩
  have HX := Lib.hid hx
  clear hx
  by_cases h0 : x < 0
  · go_wp2
    go_ret
    exact ⟨rfl, hb1⟩
  · obtain ⟨hl1, hl2⟩ := HX.out (by omega)
    have hB := (w0.on hb1).bag (fun j hj => by have := hl2 j hj; omega)
    have hI1 := hI.on hb1
    have hl : bag.length ≤ 1099511627776 := by omega
    have HL2 := Lib.hid hl2
    clear hl1 hl2 w0 hm HX hI
    go_wp2_with fail
    refine (toCountS_any a0 cap0 bag w1 hB hl).mono ?_
    rintro e w2 ⟨gs2, rfl, hA2, _, hb2⟩
    have hR2 := hA2.bag (fun j hj => by have := HL2.out j hj; omega)
    have hI2 := hI1.on hb2
    have hB2 := hB.on hb2
    have hb02 := bel_step hb1 hb2
    clear hA2 hb1 hb2 hB hI1
    go_wp2_with fail
    refine (toInt64S_any a1 cap1 row w2 hI2 hlr).mono ?_
    rintro e w3 ⟨rfl, hr3, hb3, _⟩
    have hR3 := hR2.on hb3
    have hI3 := hI2.on hb3
    have hB3 := hB2.on hb3
    have hb03 := bel_step hb02 hb3
    have hr3i := hr3.ints
    clear hb02 hb3 hR2 hI2 hB2 hr3
    go_wp2_with fail
    refine (specTimesIn_any _ _ _ _ bag row w3 _ _ hR3 hr3i hl hlr).mono ?_
    rintro e w4 ⟨rfl, n4, rfl⟩
    have hb04 := bel_drewN hb03 n4
    have hB4 : Bag (w3.drewN n4) (w3.drewN n4).heap.size a0 bag := hB3
    have hI4 : Ints (w3.drewN n4) (w3.drewN n4).heap.size a1 row := hI3
    clear hR3 hr3i hB3 hI3 hb03
    generalize w3.drewN n4 = wb at *
    go_wp2_with fail
    refine (toCountS_any a0 cap0 bag wb hB4 hl).mono ?_
    rintro e w5 ⟨gs5, rfl, hA5, _, hb5⟩
    have hR5 := hA5.bag (fun j hj => by have := HL2.out j hj; omega)
    have hI5 := hI4.on hb5
    have hB5 := hB4.on hb5
    have hb05 := bel_step hb04 hb5
    clear hA5 hb5 hb04 hI4 hB4
    go_wp2_with fail
    refine (toInt64S_any a1 cap1 row w5 hI5 hlr).mono ?_
    rintro e w6 ⟨rfl, hr6, hb6, _⟩
    have hR6 := hR5.on hb6
    have hI6 := hI5.on hb6
    have hB6 := hB5.on hb6
    have hb06 := bel_step hb05 hb6
    have hr6i := hr6.ints
    clear hb05 hb6 hR5 hI5 hB5 hr6
    go_wp2_with fail
    refine (implTimesIn_any _ _ _ _ bag row w6 hR6 hr6i hl hlr).mono ?_
    rintro e w7 ⟨rfl, hb7⟩
    have hR7 := hR6.on hb7
    have hI7 := hI6.on hb7
    have hB7 := hB6.on hb7
    have hb07 := bel_step hb06 hb7
    have hr7i := hr6i.on hb7
    clear hR6 hI6 hB6 hb06 hr6i hb7
    generalize timesL bag row = tl
    go_wp2_with fail
    refine (toCountS_any a0 cap0 bag w7 hB7 hl).mono ?_
    rintro e w8 ⟨gs8, rfl, hA8, _, hb8⟩
    have hR8 := hA8.bag (fun j hj => by have := HL2.out j hj; omega)
    go_wp2_with fail
    refine (eqCountS_any _ _ _ _ bag bag w8 (hR7.on hb8) hR8 hl hl).mono ?_
    rintro e w9 ⟨rfl, hb9⟩
    have hb79 := bel_step hb8 hb9
    have hr9i := hr7i.on hb79
    have hI9 := hI7.on hb79
    have hb09 := bel_step hb07 hb79
    clear hA8 hR8 hb8 hb9 hR7 hr7i hI7 hB7 hb07 hb79
    rw [decide_eq_true (rfl : bag = bag)]
    go_wp2_with fail
    refine (toInt64S_any a1 cap1 row w9 hI9 hlr).mono ?_
    rintro e w10 ⟨rfl, hr10, hb10, _⟩
    have hr10i := hr10.ints
    have hb010 := bel_step hb09 hb10
    have hr9i' := hr9i.on hb10
    clear hr9i hb10 hb09 hr10
    go_wp2_with fail
    refine (eqInt64S_any _ _ _ _ row row w10 _ _ hr9i' hr10i hlr hlr).mono ?_
    rintro e w11 ⟨rfl, n11, rfl⟩
    rw [decide_eq_true (rfl : row = row)]
    go_wp2
    go_ret
    exact ⟨rfl, bel_drewN hb010 n11⟩

end Go.Proofs.Ythlniadodiomfaa
