/- Contracts of the program's IsSet and Least, and of the list's 'all' with isOnce: what the call returns; nothing that lay has turned. -/
import Derived.Test.YtcfnbpofbcendaaSgn1
import Derived.Test.YtcfnbpofbcendaaSum3
namespace Go.Proofs.Ytcfnbpofbcendaa
open Go.RowKit

theorem isOnce_yes (A : Option Addr) (l c : Nat) (n : Int) (w : World) (h : n = 1) :
    Calls Try.prog 62 #[.agg #[.slice A l c, .int .i64 n]] w fun e w' => e = .returned (.bool true) ∧ Below w.heap.size w w' := by
  have := isOnce_any A l c n w
  rwa [beq_iff_eq.2 h] at this
theorem isOnce_no (A : Option Addr) (l c : Nat) (n : Int) (w : World) (h : ¬ n = 1) :
    Calls Try.prog 62 #[.agg #[.slice A l c, .int .i64 n]] w fun e w' => e = .returned (.bool false) ∧ Below w.heap.size w w' := by
  have := isOnce_any A l c n w
  rwa [beq_eq_false_iff_ne.2 h] at this
set_option maxRecDepth 100000 in
set_option maxHeartbeats 1000000 in
theorem allOnce_any (A : Option Addr) (c : Nat) (bag : List (List Int × Int)) (w : World) (hB : Bag w w.heap.size A bag) (hl : bag.length ≤ 1099511627776) :
    Calls Try.prog 61 #[.slice A bag.length c, .func (.func 62) #[] #[]] w fun e w' => e = .returned (.bool (bag.all fun p => p.2 == 1)) ∧ Below w.heap.size w w' := by
  go_enter Try.func61, Try.ntmps61
  go_wp2
  go_loopw [9] (fun i wr => ∃ k : Nat, k ≤ bag.length ∧ i = .int .i64 k ∧ (∀ j, j < k → nx bag j = 1) ∧ Below w.heap.size w wr) (fun i _ => bag.length - (intOf i).toNat)
  case atStart => exact ⟨0, Nat.zero_le _, rfl, fun j hj => absurd hj (by omega), Below.refl _ _⟩
  case round =>
    obtain ⟨k, hk, rfl, hj, hW⟩ := hrel
    have HJ := Lib.hid hj
    clear hj
    by_cases hlt : k < bag.length
    · obtain ⟨b, off, rfl, _, hc⟩ := hB.on hW (by omega)
      obtain ⟨Ar, cap, h1, h2, h3, h4⟩ := hc k hlt
      clear hc h3
      have bc := (Below.refl wr.heap.size wr).alloc (Nat.le_refl _) (.cells #[.slice Ar (rx bag k).length cap, .int .i64 (nx bag k)] 50)
      have hW1 := bel_step hW bc
      by_cases hn : nx bag k = 1
      · have HN := Lib.hid hn
        clear hn
        go_wp2_with fail
        go_at_call 62
        refine (isOnce_yes Ar (rx bag k).length cap (nx bag k) _ HN.out).mono ?_
        rintro e w1 ⟨rfl, hb1⟩
        have hW2 := bel_step hW1 hb1
        go_wp2
        go_roundw
        case rel => exact ⟨k + 1, by omega, by go_num, fun j hj => by
          by_cases e : j = k
          · rw [e]; exact HN.out
          · exact HJ.out j (by omega), hW2⟩
        case measure => simp [intOf]; omega
      · have HN := Lib.hid hn
        go_wp2_with fail
        go_at_call 62
        refine (isOnce_no Ar (rx bag k).length cap (nx bag k) _ HN.out).mono ?_
        rintro e w1 ⟨rfl, hb1⟩
        have HF := Lib.hid (show (bag.all fun p => p.2 == 1) = false from List.all_eq_false.2 ⟨bag[k], List.getElem_mem hlt, by simpa [nx, hlt] using hn⟩)
        clear hn
        have hW2 := bel_step hW1 hb1
        go_wp2
        go_ret
        exact ⟨by rw [HF.out]; rfl, hW2⟩
    · have hd : decide (k < bag.length) = false := by simpa using hlt
      have HS := Lib.hid (show (bag.all fun p => p.2 == 1) = true from List.all_eq_true.2 (fun p hp => by
          obtain ⟨j, hj, rfl⟩ := List.getElem_of_mem hp
          have := HJ.out j (by omega)
          simpa [nx, hj] using this))
      go_wp2
      go_ret
      exact ⟨by rw [HS.out]; rfl, hW⟩
set_option maxRecDepth 100000 in
set_option maxHeartbeats 1000000 in
theorem implIsSet_any (A : Option Addr) (c : Nat) (bag : List (List Int × Int)) (w : World) (hB : Bag w w.heap.size A bag) (hl : bag.length ≤ 1099511627776) :
    Calls Try.prog 34 #[.slice A bag.length c] w fun e w' => e = .returned (.bool (isSetB bag)) ∧ Below w.heap.size w w' := by
  go_enter Try.func34, Try.ntmps34
  go_wp2_with fail
  refine (implBagOk_any A c bag w hB hl).mono ?_
  rintro e w1 ⟨rfl, hb1⟩
  cases hob : bagOkB bag with
  | false =>
    have HF := Lib.hid (show isSetB bag = false by unfold isSetB; rw [hob, Bool.and_false])
    clear hob
    go_wp2
    go_ret
    exact ⟨by rw [HF.out]; rfl, hb1⟩
  | true =>
    have HF := Lib.hid (show isSetB bag = (bag.all fun p => p.2 == 1) by unfold isSetB; rw [hob, Bool.and_true])
    clear hob
    go_wp2_with fail
    refine (allOnce_any A c bag w1 (hB.on hb1) hl).mono ?_
    rintro e w2 ⟨rfl, hb2⟩
    rw [← HF.out]
    go_wp2
    go_ret
    exact ⟨rfl, bel_step hb1 hb2⟩
end Go.Proofs.Ytcfnbpofbcendaa
