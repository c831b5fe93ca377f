/- The contract of the laws' szCountS from whatever is left: a number that is no more; where it is not below 0 the bag and its rows are small; nothing that lay has turned. -/
import Derived.Test.YtcfnbpofbcendaaJB
namespace Go.Proofs.Ytcfnbpofbcendaa
open Go.RowKit

set_option maxRecDepth 100000 in
set_option maxHeartbeats 2000000 in
theorem szCountS_left (A : Option Addr) (c : Nat) (bag : List (List Int × Int)) (left : Int) (w : World) (hB : RawBag w w.heap.size A bag) (hl : bag.length ≤ maxLen) (hz0 : 0 ≤ left) (hz1 : left ≤ 1048576) :
    Calls Try.prog 9 #[.slice A bag.length c, .int .i64 left] w fun e w' => ∃ x, e = .returned (.int .i64 x) ∧ x ≤ 1048576 ∧ (0 ≤ x → bag.length ≤ 1048576 ∧ ∀ j, j < bag.length → (rx bag j).length ≤ 1048576) ∧ Below w.heap.size w w' := by
  unfold maxLen at hl
  by_cases hbig : left < (bag.length : Int)
  · have hbn : left - (bag.length : Int) < 0 := by omega
    go_enter Try.func9, Try.ntmps9
    go_wp2
    go_ret
    exact ⟨-1, rfl, by omega, fun h => absurd h (by omega), Below.refl _ _⟩
  have hl2 : bag.length ≤ 1048576 := by omega
  have hx2 : 0 ≤ left - (bag.length : Int) ∧ left - (bag.length : Int) ≤ 1048576 := by omega
  have hbn : decide (left - (bag.length : Int) < 0) = false := by simp; omega
  clear hl
  go_enter Try.func9, Try.ntmps9
  go_wp2
  go_loopw [1, 5] (fun l i wr => ∃ (k : Nat) (x : Int), k ≤ bag.length ∧ i = .int .i64 k ∧ l = .int .i64 x ∧ 0 ≤ x ∧ x ≤ 1048576 ∧ (∀ j, j < k → (rx bag j).length ≤ 1048576) ∧ Below w.heap.size w wr) (fun _ i _ => bag.length - (intOf i).toNat)
  case atStart => exact ⟨0, _, Nat.zero_le _, rfl, rfl, by omega, by omega, fun j hj => absurd hj (by omega), Below.refl _ _⟩
  case round =>
    obtain ⟨k, x, hk, rfl, rfl, hx0, hx1, hrows, hW⟩ := hrel
    have HR := Lib.hid hrows
    clear hrows hbn hx2 hbig
    by_cases hlt : k < bag.length
    · obtain ⟨b, off, rfl, _, hc⟩ := hB.on hW (by omega)
      obtain ⟨Ar, cap, h1, h2, h3, h4⟩ := hc k hlt
      clear hc
      go_wp2_with fail
      refine (szCount_any Ar (rx bag k).length cap (nx bag k) x wr h4 hx0 hx1).mono ?_
      rintro e w1 ⟨rfl, hb1⟩
      have hW1 : Below w.heap.size w w1 := hW.trans (hb1.mono hW.size)
      clear h1 h2 h3 hW hb1
      by_cases hs : szI (rx bag k).length x < 0
      · rw [szI_no hs]
        clear hs
        go_wp2
        go_ret
        exact ⟨-1, rfl, by omega, fun h => absurd h (by omega), hW1⟩
      · have hle := szI_le (n := (rx bag k).length) (left := x) (by omega)
        have hs0 : 0 ≤ szI (rx bag k).length x := by omega
        generalize szI (rx bag k).length x = y at *
        go_wp2
        go_roundw
        case rel =>
          refine ⟨k + 1, y, by omega, by go_num, rfl, hs0, by omega, fun j hj => ?_, hW1⟩
          by_cases e : j = k
          · subst e; omega
          · exact HR.out j (by omega)
        case measure => simp [intOf]; omega
    · have hd : decide (k < bag.length) = false := by simpa using hlt
      go_wp2
      go_ret
      exact ⟨x, rfl, hx1, fun _ => ⟨hl2, fun j hj => HR.out j (by omega)⟩, hW⟩
end Go.Proofs.Ytcfnbpofbcendaa
