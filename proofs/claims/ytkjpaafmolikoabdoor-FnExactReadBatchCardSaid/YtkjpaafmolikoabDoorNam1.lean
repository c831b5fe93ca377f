/- Contracts of the model's l4Name and the program's nameOk: what the call returns; nothing that lay has turned. -/
import Derived.Test.YtkjpaafmolikoabDoorIter1
namespace Go.Proofs.YtkjpaafmolikoabDoor
open Go.RowKit Go.Shelf
attribute [local go_sem] Oper.semAt_some

def azB (c : UInt8) : Bool := decide (97 ≤ c.toNat) && decide (c.toNat ≤ 122)
/-- A name: 1 to 6 bytes of a to z. -/
def nameB (s : ByteArray) : Bool := s.data.toList.all azB && inB (s.size : Int) 1 6
theorem name_step {s : ByteArray} {k : Nat} (h : k < s.size) : (s.data.toList.take (k + 1)).all azB = ((s.data.toList.take k).all azB && azB s[k]) := by
  have hk : k < s.data.toList.length := by rw [Array.length_toList]; exact h
  rw [List.take_succ_eq_append_getElem hk, List.all_append]
  simp
  rfl
theorem name_no {s : ByteArray} {k : Nat} (h : k < s.size) (ha : azB s[k] = false) : nameB s = false := by
  have hk : k < s.data.toList.length := by rw [Array.length_toList]; exact h
  unfold nameB
  rw [List.all_eq_false.2 ⟨s.data.toList[k], List.getElem_mem hk, by
    have e : s.data.toList[k] = s[k] := by simp; rfl
    rw [e, ha]; simp⟩]
  rfl
set_option maxRecDepth 100000 in
set_option maxHeartbeats 1000000 in
theorem l4Name_any (s : ByteArray) (w : World) (hl : s.size ≤ 1099511627776) :
    Calls Tryd.prog 83 #[.string s] w fun e w' => e = .returned (.bool (nameB s)) ∧ w = w' := by
  go_enter Tryd.func83, Tryd.ntmps83
  go_wp2
  go_loop [3] (fun i => ∃ k : Nat, k ≤ s.size ∧ i = .int .i64 k ∧ (s.data.toList.take k).all azB = true) (fun i => s.size - (intOf i).toNat)
  case atStart => exact ⟨0, Nat.zero_le _, rfl, rfl⟩
  case round =>
    obtain ⟨k, hk, rfl, ht⟩ := hrel
    have HT := Lib.hid ht
    clear ht
    by_cases hlt : k < s.size
    · by_cases h1 : ((s[k].toNat : Nat) : Int) < 97
      · have HF := Lib.hid (name_no hlt (by unfold azB; rw [decide_eq_false (by omega)]; rfl))
        go_wp2
        go_ret
        exact ⟨by rw [HF.out]; rfl, rfl⟩
      · have d1 : decide (((s[k].toNat : Nat) : Int) < 97) = false := decide_eq_false h1
        by_cases h2 : 122 < ((s[k].toNat : Nat) : Int)
        · have HF := Lib.hid (name_no hlt (by unfold azB; rw [decide_eq_false (p := s[k].toNat ≤ 122) (by omega), Bool.and_false]))
          go_wp2
          go_ret
          exact ⟨by rw [HF.out]; rfl, rfl⟩
        · have d2 : decide (122 < ((s[k].toNat : Nat) : Int)) = false := decide_eq_false h2
          have HS := Lib.hid (show (s.data.toList.take (k + 1)).all azB = true by
            rw [name_step hlt, HT.out]
            unfold azB
            rw [decide_eq_true (by omega), decide_eq_true (by omega)]; rfl)
          go_wp2
          go_round
          case rel => exact ⟨k + 1, by omega, by go_num, HS.out⟩
          case measure => simp [intOf]; omega
    · have hd : decide (k < s.size) = false := by simpa using hlt
      have HS := Lib.hid (show nameB s = inB (s.size : Int) 1 6 by
        unfold nameB
        have := HT.out
        rw [List.take_of_length_le (by rw [Array.length_toList]; show s.data.size ≤ k; have : s.size = s.data.size := rfl; omega)] at this
        rw [this, Bool.true_and])
      go_wp2_with fail
      refine (l1In_any (s.size : Int) 1 6 w).mono ?_
      rintro e w1 ⟨rfl, rfl⟩
      rw [← HS.out]
      go_wp2
      go_ret
      exact ⟨rfl, rfl⟩
theorem name_short {s : ByteArray} (h : inB (s.size : Int) 1 6 = false) : nameB s = false := by unfold nameB; rw [h, Bool.and_false]
set_option maxRecDepth 100000 in
set_option maxHeartbeats 1000000 in
theorem nameOk_any (s : ByteArray) (w : World) (hl : s.size ≤ 1099511627776) :
    Calls Tryd.prog 84 #[.string s] w fun e w' => e = .returned (.bool (nameB s)) ∧ w = w' := by
  by_cases h0 : s.size < 1
  · have HF := Lib.hid (name_short (s := s) (by unfold inB; rw [decide_eq_false (p := (1 : Int) ≤ (s.size : Int)) (by omega)]; rfl))
    have h0' : (s.size : Int) < 1 := by omega
    go_enter Tryd.func84, Tryd.ntmps84
    go_wp2
    go_ret
    exact ⟨by rw [HF.out]; rfl, rfl⟩
  by_cases h6 : 6 < s.size
  · have HF := Lib.hid (name_short (s := s) (by unfold inB; rw [decide_eq_false (p := (s.size : Int) ≤ 6) (by omega), Bool.and_false]))
    have h6' : (6 : Int) < (s.size : Int) := by omega
    have d0 : decide ((s.size : Int) < 1) = false := by simp; omega
    go_enter Tryd.func84, Tryd.ntmps84
    go_wp2
    go_ret
    exact ⟨by rw [HF.out]; rfl, rfl⟩
  have d0 : decide ((s.size : Int) < 1) = false := by simp; omega
  have d6 : decide ((6 : Int) < (s.size : Int)) = false := by simp; omega
  have HIN := Lib.hid (show inB (s.size : Int) 1 6 = true by unfold inB; rw [decide_eq_true (by omega), decide_eq_true (by omega)]; rfl)
  go_enter Tryd.func84, Tryd.ntmps84
  go_wp2
  go_loop [14] (fun i => ∃ k : Nat, k ≤ s.size ∧ i = .int .i64 k ∧ (s.data.toList.take k).all azB = true) (fun i => s.size - (intOf i).toNat)
  case atStart => exact ⟨0, Nat.zero_le _, rfl, rfl⟩
  case round =>
    obtain ⟨k, hk, rfl, ht⟩ := hrel
    have HT := Lib.hid ht
    clear ht
    by_cases hlt : k < s.size
    · by_cases h1 : ((s[k].toNat : Nat) : Int) < 97
      · have HF := Lib.hid (name_no hlt (by unfold azB; rw [decide_eq_false (by omega)]; rfl))
        go_wp2
        go_ret
        exact ⟨by rw [HF.out]; rfl, rfl⟩
      · have d1 : decide (((s[k].toNat : Nat) : Int) < 97) = false := decide_eq_false h1
        by_cases h2 : 122 < ((s[k].toNat : Nat) : Int)
        · have HF := Lib.hid (name_no hlt (by unfold azB; rw [decide_eq_false (p := s[k].toNat ≤ 122) (by omega), Bool.and_false]))
          go_wp2
          go_ret
          exact ⟨by rw [HF.out]; rfl, rfl⟩
        · have d2 : decide (122 < ((s[k].toNat : Nat) : Int)) = false := decide_eq_false h2
          have HS := Lib.hid (show (s.data.toList.take (k + 1)).all azB = true by
            rw [name_step hlt, HT.out]
            unfold azB
            rw [decide_eq_true (by omega), decide_eq_true (by omega)]; rfl)
          go_wp2
          go_round
          case rel => exact ⟨k + 1, by omega, by go_num, HS.out⟩
          case measure => simp [intOf]; omega
    · have hd : decide (k < s.size) = false := by simpa using hlt
      have HS := Lib.hid (show nameB s = true by
        unfold nameB
        have := HT.out
        rw [List.take_of_length_le (by rw [Array.length_toList]; show s.data.size ≤ k; have : s.size = s.data.size := rfl; omega)] at this
        rw [this, HIN.out]; rfl)
      go_wp2
      go_ret
      exact ⟨by rw [HS.out]; rfl, rfl⟩

end Go.Proofs.YtkjpaafmolikoabDoor
