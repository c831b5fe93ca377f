/- Contracts of the program's IsSet and Least, and of the list's 'all' with isOnce: what the call returns; nothing that lay has turned. -/
import Derived.Test.YthlniadodiomfaaSgn1
import Derived.Test.YthlniadodiomfaaSum3
namespace Go.Proofs.Ythlniadodiomfaa
open Go.RowKit

theorem isOnce_yes (A : Option Addr) (l c : Nat) (n : Int) (w : World) (h : n = 1) :
    Calls Try.prog 90 #[.agg #[.slice A l c, .int .i64 n]] w fun e w' => e = .returned (.bool true) ∧ Below w.heap.size w w' := by
  have := isOnce_any A l c n w
  rwa [beq_iff_eq.2 h] at this
theorem isOnce_no (A : Option Addr) (l c : Nat) (n : Int) (w : World) (h : ¬ n = 1) :
    Calls Try.prog 90 #[.agg #[.slice A l c, .int .i64 n]] w fun e w' => e = .returned (.bool false) ∧ Below w.heap.size w w' := by
  have := isOnce_any A l c n w
  rwa [beq_eq_false_iff_ne.2 h] at this
set_option maxRecDepth 100000 in
set_option maxHeartbeats 1000000 in
theorem allOnce_any (A : Option Addr) (c : Nat) (bag : List (List Int × Int)) (w : World) (hB : Bag w w.heap.size A bag) (hl : bag.length ≤ 1099511627776) :
    Calls Try.prog 89 #[.slice A bag.length c, .func (.func 90) #[] #[]] w fun e w' => e = .returned (.bool (bag.all fun p => p.2 == 1)) ∧ Below w.heap.size w w' := by
  go_enter Try.func89, Try.ntmps89
  go_wp2
  go_loopw [9] (fun i wr => ∃ k : Nat, k ≤ bag.length ∧ i = .int .i64 k ∧ (∀ j, j < k → nx bag j = 1) ∧ Below w.heap.size w wr) (fun i _ => bag.length - (intOf i).toNat)
  case atStart => exact ⟨0, Nat.zero_le _, rfl, fun j hj => absurd hj (by omega), Below.refl _ _⟩
  case round =>
    obtain ⟨k, hk, rfl, hj, hW⟩ := hrel
    have HJ := Lib.hid hj
    clear hj
    by_cases hlt : k < bag.length
    · obtain ⟨b, off, rfl, _, hc⟩ := hB.on hW (by omega)
      obtain ⟨Ar, cap, h1, h2, h3, h4⟩ := hc k hlt
      clear hc h3
      have bc := (Below.refl wr.heap.size wr).alloc (Nat.le_refl _) (.cells #[.slice Ar (rx bag k).length cap, .int .i64 (nx bag k)] 34)
      have hW1 := bel_step hW bc
      by_cases hn : nx bag k = 1
      · have HN := Lib.hid hn
        clear hn
        go_wp2_with fail
        go_at_call 90
        refine (isOnce_yes Ar (rx bag k).length cap (nx bag k) _ HN.out).mono ?_
        rintro e w1 ⟨rfl, hb1⟩
        have hW2 := bel_step hW1 hb1
        go_wp2
        go_roundw
        case rel => exact ⟨k + 1, by omega, by go_num, fun j hj => by
          by_cases e : j = k
          · rw [e]; exact HN.out
          · exact HJ.out j (by omega), hW2⟩
        case measure => simp [intOf]; omega
      · have HN := Lib.hid hn
        go_wp2_with fail
        go_at_call 90
        refine (isOnce_no Ar (rx bag k).length cap (nx bag k) _ HN.out).mono ?_
        rintro e w1 ⟨rfl, hb1⟩
        have HF := Lib.hid (show (bag.all fun p => p.2 == 1) = false from List.all_eq_false.2 ⟨bag[k], List.getElem_mem hlt, by simpa [nx, hlt] using hn⟩)
        clear hn
        have hW2 := bel_step hW1 hb1
        go_wp2
        go_ret
        exact ⟨by rw [HF.out]; rfl, hW2⟩
    · have hd : decide (k < bag.length) = false := by simpa using hlt
      have HS := Lib.hid (show (bag.all fun p => p.2 == 1) = true from List.all_eq_true.2 (fun p hp => by
          obtain ⟨j, hj, rfl⟩ := List.getElem_of_mem hp
          have := HJ.out j (by omega)
          simpa [nx, hj] using this))
      go_wp2
      go_ret
      exact ⟨by rw [HS.out]; rfl, hW⟩
set_option maxRecDepth 100000 in
set_option maxHeartbeats 1000000 in
theorem implIsSet_any (A : Option Addr) (c : Nat) (bag : List (List Int × Int)) (w : World) (hB : Bag w w.heap.size A bag) (hl : bag.length ≤ 1099511627776) :
    Calls Try.prog 37 #[.slice A bag.length c] w fun e w' => e = .returned (.bool (isSetB bag)) ∧ Below w.heap.size w w' := by
  go_enter Try.func37, Try.ntmps37
  go_wp2_with fail
  refine (implBagOk_any A c bag w hB hl).mono ?_
  rintro e w1 ⟨rfl, hb1⟩
  cases hob : bagOkB bag with
  | false =>
    have HF := Lib.hid (show isSetB bag = false by unfold isSetB; rw [hob, Bool.and_false])
    clear hob
    go_wp2
    go_ret
    exact ⟨by rw [HF.out]; rfl, hb1⟩
  | true =>
    have HF := Lib.hid (show isSetB bag = (bag.all fun p => p.2 == 1) by unfold isSetB; rw [hob, Bool.and_true])
    clear hob
    go_wp2_with fail
    refine (allOnce_any A c bag w1 (hB.on hb1) hl).mono ?_
    rintro e w2 ⟨rfl, hb2⟩
    rw [← HF.out]
    go_wp2
    go_ret
    exact ⟨rfl, bel_step hb1 hb2⟩
set_option maxRecDepth 100000 in
set_option maxHeartbeats 1000000 in
theorem implLeast_any (A : Option Addr) (c : Nat) (b : List (List Int × Int)) (w : World) (hB : Bag w w.heap.size A b) (hl : b.length ≤ 1099511627776) :
    Calls Try.prog 39 #[.slice A b.length c] w fun e w' => e = .returned (.int .i64 (leastB b)) ∧ Below w.heap.size w w' := by
  by_cases h0 : b.length = 0
  · have HL := Lib.hid (show leastB b = 0 by unfold leastB; rw [if_neg (fun h => by have := h.2; omega)])
    have he : ((b.length : Int) == 0) = true := beq_iff_eq.2 (by omega)
    clear h0
    go_enter Try.func39, Try.ntmps39
    go_wp2
    go_ret
    exact ⟨by rw [HL.out]; rfl, Below.refl _ _⟩
  have hp : 0 < b.length := by omega
  have he : ((b.length : Int) == 0) = false := beq_eq_false_iff_ne.2 (by omega)
  clear h0
  go_enter Try.func39, Try.ntmps39
  go_wp2_with fail
  refine (implBagOk_any A c b w hB hl).mono ?_
  rintro e w1 ⟨rfl, hb1⟩
  cases hob : bagOkB b with
  | false =>
    have HL := Lib.hid (show leastB b = 0 by unfold leastB; rw [if_neg (by simp [hob])])
    clear hob
    go_wp2
    go_ret
    exact ⟨by rw [HL.out]; rfl, hb1⟩
  | true =>
    have HL := Lib.hid (show leastB b = lstTo b b.length by unfold leastB; rw [if_pos ⟨hob, hp⟩])
    have hB1 := hB.on hb1
    obtain ⟨bb, off, rfl, _, hc⟩ := hB1 hp
    obtain ⟨_, _, _, hc0, _⟩ := hc 0 hp
    have h00 : w1.cell? ⟨bb, off + 1, none⟩ = some (.int .i64 (nx b 0)) := by simpa using hc0
    clear hob hc hc0
    obtain ⟨y0, hy0⟩ : ∃ y, nx b 0 = y := ⟨_, rfl⟩
    rw [hy0] at h00
    have HY0 := Lib.hid (show y0 = lstTo b 0 by rw [lst_zero, hy0])
    clear hy0
    go_wp2
    go_loopw [3, 20] (fun m s wr => ∃ k : Nat, k ≤ b.length ∧ s = .int .i64 k ∧ m = .int .i64 (lstTo b k) ∧ Below w.heap.size w wr) (fun _ s _ => b.length - (intOf s).toNat)
    case atStart => exact ⟨0, Nat.zero_le _, rfl, by rw [← HY0.out], hb1⟩
    case round =>
      obtain ⟨k, hk, rfl, rfl, hW⟩ := hrel
      clear he h00 hb1 hB1 hp
      by_cases hlt : k < b.length
      · obtain ⟨b', off', hbb, _, hc⟩ := hB.on hW (by omega)
        obtain ⟨rfl, rfl⟩ : bb = b' ∧ off = off' := by simpa using hbb
        obtain ⟨Ar, cap, h1, h2, _⟩ := hc k hlt
        have HS := Lib.hid (lst_succ hlt)
        have bc := (Below.refl wr.heap.size wr).alloc (Nat.le_refl _) (.cells #[.slice Ar (rx b k).length cap, .int .i64 (nx b k)] 34)
        have hW1 := bel_step hW bc
        clear hc hbb
        generalize nx b k = x at *
        generalize lstTo b k = m at *
        go_wp2
        go_roundw
        case rel => exact ⟨k + 1, by omega, by go_num, by rw [HS.out]; congr 1; split <;> omega, hW1⟩
        case measure => simp [intOf]; omega
      · have hd : decide (k < b.length) = false := by simpa using hlt
        have hkb : k = b.length := by omega
        have HK := Lib.hid hkb
        clear hkb
        go_wp2
        go_ret
        exact ⟨by rw [HL.out, HK.out]; rfl, hW⟩
end Go.Proofs.Ythlniadodiomfaa
