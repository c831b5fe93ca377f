/- Contract of laws.places: has each row that place? For bags of at most 2^40. -/
import Derived.Test.YtcfnbpofbcendabJon0
namespace Go.Proofs.Ytcfnbpofbcendab
open Go.RowKit

set_option maxRecDepth 100000 in
set_option maxHeartbeats 1000000 in
theorem placesG_any (A : Option Addr) (c : Nat) (bag : List (List Int × Int)) (p : Int) (w : World) (B : Nat) (hB : Bag w B A bag) (hl : bag.length ≤ 1099511627776) :
    Calls Try.prog 10 #[.slice A bag.length c, .int .i64 p] w fun e w' => e = .returned (.bool (hasB bag [p])) ∧ w = w' := by
  go_enter Try.func10, Try.ntmps10
  go_wp2
  go_loop [5] (fun i => ∃ k : Nat, k ≤ bag.length ∧ i = .int .i64 k ∧ ∀ j, j < k → placesB [p] (rx bag j).length = true) (fun i => bag.length - (intOf i).toNat)
  case atStart => exact ⟨0, Nat.zero_le _, rfl, fun j hj => absurd hj (by omega)⟩
  case round =>
    obtain ⟨k, hk, rfl, hj⟩ := hrel
    have HJ := Lib.hid hj
    clear hj
    by_cases hlt : k < bag.length
    · obtain ⟨b, off, rfl, _, hc⟩ := hB (by omega)
      obtain ⟨Ar, cap, h1, h2, h3, h4⟩ := hc k hlt
      clear hc h3 h2
      have hk0 : (0 : Int) ≤ (k : Int) := Int.natCast_nonneg _
      have hk1 : (k : Int) < (bag.length : Int) := by omega
      by_cases hp0 : p < 0
      · have HF := Lib.hid (has_no hlt (ps := [p]) (by simp [placesB, inB]; omega))
        go_wp2
        go_ret
        exact ⟨by rw [HF.out]; rfl, rfl⟩
      · by_cases hp1 : p < ((rx bag k).length : Int)
        · have HP := Lib.hid (show placesB [p] (rx bag k).length = true by simp [placesB, inB]; omega)
          have hn1 : ¬ ((rx bag k).length : Int) ≤ p := by omega
          go_wp2
          go_round
          case rel => exact ⟨k + 1, by omega, by go_num, fun j hj => by
            by_cases e : j = k
            · rw [e]; exact HP.out
            · exact HJ.out j (by omega)⟩
          case measure => simp [intOf]; omega
        · have HF := Lib.hid (has_no hlt (ps := [p]) (by simp [placesB, inB]; omega))
          have hn1 : ((rx bag k).length : Int) ≤ p := by omega
          go_wp2
          go_ret
          exact ⟨by rw [HF.out]; rfl, rfl⟩
    · have hd : decide (k < bag.length) = false := by simpa using hlt
      have HF := Lib.hid (has_yes (bag := bag) (ps := [p]) fun j hj => HJ.out j (by omega))
      go_wp2
      go_ret
      exact ⟨by rw [HF.out]; rfl, rfl⟩
end Go.Proofs.Ytcfnbpofbcendab
