/- The laws' marking of a deed, and whether the marks are held. -/
import Derived.Test.YtkjpaafmolikoabDoorRdB
import Derived.Test.YtkjpaafmolikoabDoorMarks1
namespace Go.Proofs.YtkjpaafmolikoabDoor
open Go.RowKit

theorem grown_bel {w w' : World} (h : Below w.heap.size w w') (r : Option Nat) : w.grownBy w' r := ⟨h.os, h.tape, h.output, h.size, fun k hk _ => h.block k hk⟩
set_option maxRecDepth 100000 in
set_option maxHeartbeats 2000000 in
theorem markDeed_any (k : Int) (s : ByteArray) (A : Option Addr) (c g : Nat) (zs : List Int) (m : Int) (w : World) (hR : Row w 2 A zs g) (hl : zs.length ≤ 1073741824) (hk0 : 0 ≤ m) (hk1 : m ≤ 1125899906842624) :
    Calls Tryd.prog 30 #[.agg #[.int .i64 k, .string s, .slice A zs.length c], .int .i64 m] w fun e w' => e = .returned (.int .i64 (m + (zs.length : Int))) ∧ Row w' 2 A (marks m zs.length) g ∧ w.grownBy w' (some g) := by
  have bc := (Below.refl w.heap.size w).alloc (Nat.le_refl _) (.cells #[.int .i64 k, .string s, .slice A zs.length c] 39)
  have BD := Blk.new w 39 #[.int .i64 k, .string s, .slice A zs.length c]
  obtain ⟨D0, D1, D2⟩ := BD.c3
  have hR1 := hR.on bc
  go_enter Tryd.func30, Tryd.ntmps30
  go_wp2_with fail
  generalize w.alloc (.cells #[.int .i64 k, .string s, .slice A zs.length c] 39) = wb at *
  refine (markInt64S_any A c g zs m wb hR1 hl hk0 hk1).mono ?_
  rintro e w1 ⟨rfl, hR2, hg⟩
  clear D0 D1 D2 BD
  go_wp2
  go_ret
  exact ⟨rfl, hR2, grown_trans (grown_bel bc _) hg⟩
set_option maxRecDepth 100000 in
set_option maxHeartbeats 2000000 in
theorem heldDeed_any (k : Int) (s : ByteArray) (A : Option Addr) (c n : Nat) (m : Int) (w : World) (hI : Ints w w.heap.size A (marks m n)) (hl : n ≤ 1073741824) (hk0 : 0 ≤ m) (hk1 : m ≤ 1125899906842624) :
    Calls Tryd.prog 31 #[.agg #[.int .i64 k, .string s, .slice A n c], .int .i64 m] w fun e w' => e = .returned (.int .i64 (m + (n : Int))) ∧ Below w.heap.size w w' := by
  have bc := (Below.refl w.heap.size w).alloc (Nat.le_refl _) (.cells #[.int .i64 k, .string s, .slice A n c] 39)
  have BD := Blk.new w 39 #[.int .i64 k, .string s, .slice A n c]
  obtain ⟨D0, D1, D2⟩ := BD.c3
  have hI1 := hI.on bc
  have hd : decide (m + (n : Int) < 0) = false := by simp; omega
  go_enter Tryd.func31, Tryd.ntmps31
  go_wp2_with fail
  generalize w.alloc (.cells #[.int .i64 k, .string s, .slice A n c] 39) = wb at *
  refine (heldInt64S_any A c n _ m wb hI1 hl hk0 hk1).mono ?_
  rintro e w1 ⟨rfl, hw1⟩
  cases hw1
  clear D0 D1 D2 BD
  go_wp2
  go_ret
  exact ⟨rfl, bc⟩
end Go.Proofs.YtkjpaafmolikoabDoor
