/- Contracts of the drawing of bags, third part: l2DrawIn, DrawTimesIn, DrawWith: new memory; nothing that lay has turned; and of the laws' likeBag. -/
import Derived.Test.YtcfnbpofbcendabDrawBag2
import Derived.Test.YtcfnbpofbcendabLike1
namespace Go.Proofs.Ytcfnbpofbcendab
open Go.RowKit

/-- A bag and a row, drawn from a code. -/
def DrawnBR (w : World) (e : Ending) (w' : World) : Prop :=
  ∃ g cap es v zs, e = .returned (.tuple #[.slice (some ⟨g, 0, none⟩) es.length cap, v]) ∧ RB w' w.heap.size g cap es ∧ es.length ≤ 400 ∧ (∀ e ∈ es, e.r.length ≤ 1000) ∧ zs.length ≤ 1000 ∧ w'.ownsRow w.heap.size 2 1 v zs.length (i64l zs) ∧ Below w.heap.size w w'
set_option maxRecDepth 100000 in
set_option maxHeartbeats 2000000 in
theorem likeBag_any (A A' : Option Addr) (c c' : Nat) (b1 b2 : List (List Int × Int)) (w : World) (hB : Bag w w.heap.size A b1) (hB' : Bag w w.heap.size A' b2) (hl : b1.length ≤ 1099511627776) (hl' : b2.length ≤ 1099511627776) :
    Calls Try.prog 7 #[.slice A b1.length c, .slice A' b2.length c'] w fun e w' => e = .returned (.bool (decide (b1 = b2))) ∧ ∃ n, w' = w.drewN n := by
  by_cases hne : b1.length = b2.length
  · have hb : ((b1.length : Int) != (b2.length : Int)) = false := by simp [hne]
    have HN := Lib.hid hne
    clear hne
    go_enter Try.func7, Try.ntmps7
    go_wp2
    go_loopw [5] (fun i wr => ∃ k : Nat, k ≤ b1.length ∧ i = .int .i64 k ∧ b1.take k = b2.take k ∧ ∃ n, wr = w.drewN n) (fun i _ => b1.length - (intOf i).toNat)
    case atStart => exact ⟨0, Nat.zero_le _, rfl, by simp, 0, rfl⟩
    case round =>
      obtain ⟨k, hk, rfl, ht, hW⟩ := hrel
      have hBr : Bag wr wr.heap.size A b1 := by obtain ⟨n, rfl⟩ := hW; exact hB
      have hBr' : Bag wr wr.heap.size A' b2 := by obtain ⟨n, rfl⟩ := hW; exact hB'
      have HT := Lib.hid ht
      have HW := Lib.hid hW
      clear hB hB' ht hb hW
      by_cases hlt : k < b1.length
      · have hlt' : k < b2.length := by have := HN.out; omega
        obtain ⟨b, off, rfl, _, hc⟩ := hBr (by omega)
        obtain ⟨b', off', rfl, _, hc'⟩ := hBr' (by omega)
        obtain ⟨Ar, cap, h1, h2, h3, h4⟩ := hc k hlt
        obtain ⟨Ar', cap', h1', h2', h3', h4'⟩ := hc' k hlt'
        clear hc hc'
        by_cases he : rx b1 k = rx b2 k
        · by_cases hn : nx b1 k = nx b2 k
          · have hz : (nx b1 k != nx b2 k) = false := by simp [hn]
            have HE := Lib.hid (show (rx b1 k, nx b1 k) = (rx b2 k, nx b2 k) by rw [he, hn])
            have HR := Lib.hid he
            clear he hn
            go_wp2_with fail
            go_quiet (first | (go_at_call 11; exact Calls.quiet_of (likeRow_yes Ar Ar' cap cap' (rx b1 k) (rx b2 k) _ _ _ (by exact h3) (by exact h3') h4 h4' HR.out)))
            go_wp2
            go_roundw
            case rel => exact ⟨k + 1, by omega, by go_num, bag_take_ext hlt hlt' HT.out HE.out, drew_more HW.out _⟩
            case measure => simp [intOf]; omega
          · have hz : (nx b1 k != nx b2 k) = true := by simp [hn]
            have HE := Lib.hid hn
            have HR := Lib.hid he
            clear he hn
            go_wp2_with fail
            go_quiet (first | (go_at_call 11; exact Calls.quiet_of (likeRow_yes Ar Ar' cap cap' (rx b1 k) (rx b2 k) _ _ _ (by exact h3) (by exact h3') h4 h4' HR.out)))
            go_wp2
            go_ret
            exact ⟨ret_bool (by rw [decide_eq_false]; intro h; subst h; exact HE.out rfl), drew_more HW.out _⟩
        · have HE := Lib.hid he
          clear he
          go_wp2_with fail
          go_quiet (first | (go_at_call 11; exact Calls.quiet_of (likeRow_no Ar Ar' cap cap' (rx b1 k) (rx b2 k) _ _ _ (by exact h3) (by exact h3') h4 h4' HE.out)))
          go_wp2
          go_ret
          exact ⟨ret_bool (by rw [decide_eq_false]; intro h; subst h; exact HE.out rfl), drew_more HW.out _⟩
      · have hd : decide (k < b1.length) = false := by simpa using hlt
        go_wp2
        go_ret
        refine ⟨ret_bool ?_, HW.out⟩
        have h1 := HT.out
        rw [List.take_of_length_le (by omega), List.take_of_length_le (by have := HN.out; omega)] at h1
        rw [decide_eq_true h1]
  · have hb : ((b1.length : Int) != (b2.length : Int)) = true := by simp; omega
    have HN := Lib.hid hne
    clear hne
    go_enter Try.func7, Try.ntmps7
    go_wp2
    go_ret
    exact ⟨ret_bool (by rw [decide_eq_false]; intro h; subst h; exact HN.out rfl), 0, rfl⟩
end Go.Proofs.Ytcfnbpofbcendab
