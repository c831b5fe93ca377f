/- Contracts of the marks by which a law tells whose memory is whose: markInt64S writes k, k + 1, .. into a slice of its own; heldInt64S reads them back. For slices of at most 2^30 numbers. -/
import Derived.Test.YtkjpaafmolikoabDoorPick1
namespace Go.Proofs.YtkjpaafmolikoabDoor
open Go.RowKit

set_option maxRecDepth 100000 in
set_option maxHeartbeats 1000000 in
theorem markInt64S_any (A : Option Addr) (c g : Nat) (zs : List Int) (k : Int) (w : World) (hR : Row w 2 A zs g) (hl : zs.length ≤ 1073741824) (hk0 : 0 ≤ k) (hk1 : k ≤ 1125899906842624) :
    Calls Tryd.prog 69 #[.slice A zs.length c, .int .i64 k] w fun e w' => e = .returned (.int .i64 (k + (zs.length : Int))) ∧ Row w' 2 A (marks k zs.length) g ∧ w.grownBy w' (some g) := by
  go_enter Tryd.func69, Tryd.ntmps69
  go_wp2
  go_loopw [1, 5] (fun q i wr => ∃ j : Nat, j ≤ zs.length ∧ i = .int .i64 j ∧ q = .int .i64 (k + (j : Int)) ∧ Row wr 2 A (marking zs k j) g ∧ w.grownBy wr (some g)) (fun _ i _ => zs.length - (intOf i).toNat)
  case atStart => exact ⟨0, Nat.zero_le _, rfl, by simp, by rw [marking_zero]; exact hR, World.grownBy.refl _ _⟩
  case round =>
    obtain ⟨j, hj, rfl, rfl, hRr, hgr⟩ := hrel
    by_cases hlt : j < zs.length
    · have hlm := marking_length zs k j hj
      obtain ⟨rfl, cur, hc, hcur⟩ := hRr (by omega)
      have hcell : wr.cell? ⟨g, j, none⟩ = some (.int .i64 (ix (marking zs k j) j)) := by rw [Blk.cell (t := 2) (cs := cur) hc j, hcur j (by omega)]
      have hfz : wr.frozen? ⟨g, j, none⟩ = false := Blk.frozen (t := 2) (cs := cur) hc j
      have HM := Lib.hid (hRr.mark hlt)
      clear hc hcur hRr hlm hR
      go_wp2
      go_roundw
      case rel => exact ⟨j + 1, by omega, by go_num, by go_num, HM.out, grown_trans hgr (grown_setCell wr g j _)⟩
      case measure => simp [intOf]; omega
    · obtain rfl : j = zs.length := by omega
      rw [marking_all] at hRr
      go_wp2
      go_ret
      exact ⟨rfl, hRr, hgr⟩

set_option maxHeartbeats 1000000 in
theorem heldInt64S_any (A : Option Addr) (c n B : Nat) (k : Int) (w : World) (hI : Ints w B A (marks k n)) (hl : n ≤ 1073741824) (hk0 : 0 ≤ k) (hk1 : k ≤ 1125899906842624) :
    Calls Tryd.prog 70 #[.slice A n c, .int .i64 k] w fun e w' => e = .returned (.int .i64 (k + (n : Int))) ∧ w = w' := by
  have hlm := marks_length k n
  go_enter Tryd.func70, Tryd.ntmps70
  go_wp2
  go_loop [1, 5] (fun q i => ∃ j : Nat, j ≤ n ∧ i = .int .i64 j ∧ q = .int .i64 (k + (j : Int))) (fun _ i => n - (intOf i).toNat)
  case atStart => exact ⟨0, Nat.zero_le _, rfl, by simp⟩
  case round =>
    obtain ⟨j, hj, rfl, rfl⟩ := hrel
    by_cases hlt : j < n
    · obtain ⟨b, off, rfl, hb, hc⟩ := hI (by omega)
      have hck : w.cell? ⟨b, off + j, none⟩ = some (.int .i64 (k + (j : Int))) := by rw [hc j (by omega), marks_ix k n j hlt]
      clear hc hlm
      go_wp2
      go_round
      case rel => exact ⟨j + 1, by omega, by go_num, by go_num⟩
      case measure => simp [intOf]; omega
    · obtain rfl : j = n := by omega
      clear hlm
      go_wp2
      go_ret
      exact ⟨rfl, rfl⟩
end Go.Proofs.YtkjpaafmolikoabDoor
