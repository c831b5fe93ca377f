/- The laws' marks on lists of conds; nothing that lay has turned but the marked block. -/
import Derived.Test.YtpadhcoboapodaaGreatDoorJV2
import Derived.Test.YtpadhcoboapodaaGreatDoorJA
namespace Go.Proofs.YtpadhcoboapodaaGreatDoor
open Go.RowKit

set_option maxRecDepth 100000 in
set_option maxHeartbeats 2000000 in
theorem markCondS_any (A : Option Addr) (c g m : Nat) (l : List Cnd) (w : World) (hC : CRow w A g l) (hl : l.length ≤ 1099511627776) (hm : m ≤ 1125899906842624) :
    Calls Tryz.prog 17 #[.slice A l.length c, .int .i64 m] w fun e w' => e = .returned (.int .i64 ((m + 4 * l.length : Nat) : Int)) ∧ CRow w' A g (mks m l.length) ∧ w.grownBy w' (some g) := by
  go_enter Tryz.func17, Tryz.ntmps17
  go_wp2
  go_loopw [1, 5] (fun q i wr => ∃ j : Nat, j ≤ l.length ∧ i = .int .i64 j ∧ q = .int .i64 ((m + 4 * j : Nat) : Int) ∧ CRow wr A g (mking l m j) ∧ w.grownBy wr (some g)) (fun _ i _ => l.length - (intOf i).toNat)
  case atStart => exact ⟨0, Nat.zero_le _, rfl, by simp, by rw [mking_zero]; exact hC, World.grownBy.refl _ _⟩
  case round =>
    obtain ⟨j, hj, rfl, rfl, hR, hW⟩ := hrel
    clear hC
    by_cases hlt : j < l.length
    · have hlj := mking_length l m (j := j) (by omega)
      have hp : 0 < (mking l m j).length := by omega
      obtain ⟨rfl, _⟩ := hR hp
      obtain ⟨d0, d1, d2, d3⟩ := hR.cells (j := j) (by omega)
      have f0 := hR.frozen hp (j * 4)
      have f1 := hR.frozen hp (j * 4 + 1)
      have f2 := hR.frozen hp (j * 4 + 2)
      have f3 := hR.frozen hp (j * 4 + 3)
      have hR2 := hR.set_ (k := j) (by omega) (mkC ((m + 4 * j : Nat) : Int))
      rw [mking_step l m hlt] at hR2
      have hW2 := grown_trans hW (grown_set4 wr g (j * 4) (j * 4 + 1) (j * 4 + 2) (j * 4 + 3) (.int .i64 (mkC ((m + 4 * j : Nat) : Int)).p) (.int .i64 (mkC ((m + 4 * j : Nat) : Int)).o) (.int .i64 (mkC ((m + 4 * j : Nat) : Int)).t) (.bool (mkC ((m + 4 * j : Nat) : Int)).i))
      have HNX := Lib.hid (show ((m + 4 * j : Nat) : Int) + 1 + 1 + 1 + 1 = ((m + 4 * (j + 1) : Nat) : Int) by omega)
      have hab : ((m + 4 * j : Nat) : Int) ≤ 1130297953353728 := by omega
      have hab0 : 0 ≤ ((m + 4 * j : Nat) : Int) := Int.natCast_nonneg _
      have HH := Lib.hid (And.intro hR2 hW2)
      clear hR2 hW2 hR hW hlj hp
      generalize ((m + 4 * j : Nat) : Int) = AA at *
      go_wp2
      go_roundw
      case rel => exact ⟨j + 1, by omega, by go_num, by rw [HNX.out], HH.out.1, HH.out.2⟩
      case measure => simp [intOf]; omega
    · have hd : decide (j < l.length) = false := by simpa using hlt
      obtain rfl : j = l.length := by omega
      rw [mking_all] at hR
      go_wp2
      go_ret
      exact ⟨rfl, hR, hW⟩
set_option maxRecDepth 100000 in
set_option maxHeartbeats 2000000 in
theorem heldCondS_any (A : Option Addr) (c m n : Nat) (w : World) (hC : Cnds w w.heap.size A (mks m n)) (hl : n ≤ 1099511627776) (hm : m ≤ 1125899906842624) :
    Calls Tryz.prog 19 #[.slice A n c, .int .i64 m] w fun e w' => e = .returned (.int .i64 ((m + 4 * n : Nat) : Int)) ∧ Below w.heap.size w w' := by
  go_enter Tryz.func19, Tryz.ntmps19
  go_wp2
  go_loopw [1, 5] (fun q i wr => ∃ j : Nat, j ≤ n ∧ i = .int .i64 j ∧ q = .int .i64 ((m + 4 * j : Nat) : Int) ∧ Below w.heap.size w wr) (fun _ i _ => n - (intOf i).toNat)
  case atStart => exact ⟨0, Nat.zero_le _, rfl, by simp, Below.refl _ _⟩
  case round =>
    obtain ⟨j, hj, rfl, rfl, hW⟩ := hrel
    by_cases hlt : j < n
    · have hCr := hC.on hW
      obtain ⟨b, off, rfl, _, h0, h1, h2, h3⟩ := hCr.here (j := j) (by rw [mks_length]; exact hlt)
      rw [mks_at hlt] at h0 h1 h2 h3
      have HNX := Lib.hid (show ((m + 4 * j : Nat) : Int) + 1 + 1 + 1 + 1 = ((m + 4 * (j + 1) : Nat) : Int) by omega)
      have hab : ((m + 4 * j : Nat) : Int) ≤ 1130297953353728 := by omega
      have hab0 : 0 ≤ ((m + 4 * j : Nat) : Int) := Int.natCast_nonneg _
      clear hC hCr
      generalize ((m + 4 * j : Nat) : Int) = AA at *
      simp only [mkC] at h0 h1 h2 h3
      have n0 : (AA != AA) = false := by simp
      have n1 : (AA + 1 != AA + 1) = false := by simp
      have n2 : (AA + 1 + 1 != AA + 1 + 1) = false := by simp
      obtain ⟨bb, hbb⟩ : ∃ bb, ((AA + 1 + 1 + 1) % 3 == 0) = bb := ⟨_, rfl⟩
      rw [hbb] at h3
      cases bb
      all_goals
        go_wp2
        go_roundw
        case rel => exact ⟨j + 1, by omega, by go_num, by rw [HNX.out], hW⟩
        case measure => simp [intOf]; omega
    · have hd : decide (j < n) = false := by simpa using hlt
      obtain rfl : j = n := by omega
      go_wp2
      go_ret
      exact ⟨rfl, hW⟩
end Go.Proofs.YtpadhcoboapodaaGreatDoor
