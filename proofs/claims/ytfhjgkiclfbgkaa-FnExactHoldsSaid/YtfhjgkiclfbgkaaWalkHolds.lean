/- The walk of laws.FnExactHolds: it returns true, and nothing that lay has turned. -/
import Derived.Test.YtfhjgkiclfbgkaaCndK
import Derived.Test.YtfhjgkiclfbgkaaCndOpen
namespace Go.Proofs.Ytfhjgkiclfbgkaa
open Go.RowKit

set_option maxRecDepth 100000 in
set_option maxHeartbeats 2000000 in
theorem walkFnExactHolds (a0 : Option Addr) (cap0 : Nat) (l : List Cnd) (a1 : Option Addr) (len1 cap1 : Nat) (z : List Int) (w : World) (w0 : Cnds w w.heap.size a0 l) (hm : l.length ≤ maxLen) (w1 : IsRow .i64 w a1 len1 cap1 z) :
    Calls Try.prog 4 #[.slice a0 l.length cap0, .slice a1 len1 cap1] w fun e w' => e = .returned (.bool true) ∧ Below w.heap.size w w' := by
  obtain ⟨row, rfl, hI, hlm, _⟩ := isRow_ints w1
  clear w1
  unfold maxLen at hlm
  by_cases hbig : (1048576 : Int) < row.length
  · go_enter Try.func4, Try.ntmps4
    go_wp2
    go_ret
    exact ⟨rfl, Below.refl _ _⟩
  have hbd : decide ((1048576 : Int) < row.length) = false := by simpa using hbig
  have hl' : row.length ≤ 1099511627776 := by omega
  clear hbig hlm
  go_enter Try.func4, Try.ntmps4
  go_wp2_with fail
  refine (szCondS_any a0 l.length cap0 1048576 w hm (by omega) (by omega)).mono ?_
  rintro e w1 ⟨rfl, rfl⟩
  clear hbd
  by_cases h0 : (1048576 : Int) < l.length
  · rw [if_pos h0]
    clear h0
    go_wp2
    go_ret
    exact ⟨rfl, Below.refl _ _⟩
  · rw [if_neg h0]
    have hl : l.length ≤ 1099511627776 := by omega
    have hd : decide (1048576 - (l.length : Int) < 0) = false := by simp; omega
    clear hm h0
    go_wp2_with fail
    refine (toCondS_any a0 cap0 l w w0 hl).mono ?_
    rintro e u1 ⟨rfl, hA, hb⟩
    have hW := hb
    replace w0 := w0.on hb
    replace hI := hI.on hb
    clear hd hb
    go_wp2_with fail
    refine (toInt64S_any a1 cap1 row u1 hI hl').mono ?_
    rintro e u2 ⟨rfl, hR, hb, _⟩
    replace hW := bel_step hW hb
    replace w0 := w0.on hb
    replace hI := hI.on hb
    replace hA := hA.on hb
    clear hb
    go_wp2_with fail
    refine (specHolds_any _ _ _ _ l row u2 hA.cnds hR.ints hl hl').mono ?_
    rintro e u3 ⟨rfl, hb⟩
    replace hW := bel_step hW hb
    replace w0 := w0.on hb
    replace hI := hI.on hb
    clear hA hR hb
    go_wp2_with fail
    refine (toCondS_any a0 cap0 l u3 w0 hl).mono ?_
    rintro e u4 ⟨rfl, hA, hb⟩
    replace hW := bel_step hW hb
    replace w0 := w0.on hb
    replace hI := hI.on hb
    clear hb
    go_wp2_with fail
    refine (toInt64S_any a1 cap1 row u4 hI hl').mono ?_
    rintro e u5 ⟨rfl, hR, hb, _⟩
    replace hW := bel_step hW hb
    replace w0 := w0.on hb
    replace hI := hI.on hb
    replace hA := hA.on hb
    clear hb
    go_wp2_with fail
    refine (implHolds_any _ _ _ _ l row u5 hA.cnds hR.ints hl hl').mono ?_
    rintro e u6 ⟨rfl, hb⟩
    replace hW := bel_step hW hb
    replace w0 := w0.on hb
    replace hI := hI.on hb
    replace hA := hA.on hb
    replace hR := hR.on hb
    clear hb
    generalize holdsB l row = bo at *
    go_wp2_with fail
    refine (toCondS_any a0 cap0 l u6 w0 hl).mono ?_
    rintro e u7 ⟨rfl, hA7, hb⟩
    replace hW := bel_step hW hb
    replace hI := hI.on hb
    replace hA := hA.on hb
    replace hR := hR.on hb
    clear hb w0
    go_wp2_with fail
    refine (eqCondS_any _ _ _ _ l l u7 hA.cnds hA7.cnds hl hl).mono ?_
    rintro e u8 ⟨rfl, hb⟩
    replace hW := bel_step hW hb
    replace hI := hI.on hb
    replace hR := hR.on hb
    rw [decide_eq_true (rfl : l = l)]
    clear hb hA hA7
    go_wp2_with fail
    refine (toInt64S_any a1 cap1 row u8 hI hl').mono ?_
    rintro e u9 ⟨rfl, hR9, hb, _⟩
    replace hW := bel_step hW hb
    replace hR := hR.on hb
    clear hb hI
    go_wp2_with fail
    refine (eqInt64S_any _ _ _ _ row row u9 _ _ hR.ints hR9.ints hl' hl').mono ?_
    rintro e u10 ⟨rfl, n10, rfl⟩
    rw [decide_eq_true (rfl : row = row)]
    replace hW := bel_drewN hW n10
    clear hR hR9
    go_wp2
    go_ret
    exact ⟨rfl, hW⟩
end Go.Proofs.Ytfhjgkiclfbgkaa
