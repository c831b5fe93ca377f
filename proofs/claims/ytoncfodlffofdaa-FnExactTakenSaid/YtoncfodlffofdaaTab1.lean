/- Contracts of the model's reading of tables: l4Name, l4Row, TableOk, l4Find: what the call returns; nothing that lay has turned. -/
import Derived.Test.YtoncfodlffofdaaTab0
import Derived.Test.YtoncfodlffofdaaBag1
import Derived.Test.YtoncfodlffofdaaTabThy
namespace Go.Proofs.Ytoncfodlffofdaa
open Go.RowKit

def azB (c : UInt8) : Bool := decide (97 ≤ c.toNat) && decide (c.toNat ≤ 122)
/-- A name: 1 to 6 bytes of a to z. -/
def nameB (s : ByteArray) : Bool := s.data.toList.all azB && inB (s.size : Int) 1 6
theorem name_step {s : ByteArray} {k : Nat} (h : k < s.size) : (s.data.toList.take (k + 1)).all azB = ((s.data.toList.take k).all azB && azB s[k]) := by
  have hk : k < s.data.toList.length := by rw [Array.length_toList]; exact h
  rw [List.take_succ_eq_append_getElem hk, List.all_append]
  simp
  rfl
theorem name_no {s : ByteArray} {k : Nat} (h : k < s.size) (ha : azB s[k] = false) : nameB s = false := by
  have hk : k < s.data.toList.length := by rw [Array.length_toList]; exact h
  unfold nameB
  rw [List.all_eq_false.2 ⟨s.data.toList[k], List.getElem_mem hk, by
    have e : s.data.toList[k] = s[k] := by simp; rfl
    rw [e, ha]; simp⟩]
  rfl
set_option maxRecDepth 100000 in
set_option maxHeartbeats 1000000 in
theorem l4Name_any (s : ByteArray) (w : World) (hl : s.size ≤ 1099511627776) :
    Calls Try.prog 131 #[.string s] w fun e w' => e = .returned (.bool (nameB s)) ∧ w = w' := by
  go_enter Try.func131, Try.ntmps131
  go_wp2
  go_loop [3] (fun i => ∃ k : Nat, k ≤ s.size ∧ i = .int .i64 k ∧ (s.data.toList.take k).all azB = true) (fun i => s.size - (intOf i).toNat)
  case atStart => exact ⟨0, Nat.zero_le _, rfl, rfl⟩
  case round =>
    obtain ⟨k, hk, rfl, ht⟩ := hrel
    have HT := Lib.hid ht
    clear ht
    by_cases hlt : k < s.size
    · by_cases h1 : ((s[k].toNat : Nat) : Int) < 97
      · have HF := Lib.hid (name_no hlt (by unfold azB; rw [decide_eq_false (by omega)]; rfl))
        go_wp2
        go_ret
        exact ⟨by rw [HF.out]; rfl, rfl⟩
      · have d1 : decide (((s[k].toNat : Nat) : Int) < 97) = false := decide_eq_false h1
        by_cases h2 : 122 < ((s[k].toNat : Nat) : Int)
        · have HF := Lib.hid (name_no hlt (by unfold azB; rw [decide_eq_false (p := s[k].toNat ≤ 122) (by omega), Bool.and_false]))
          go_wp2
          go_ret
          exact ⟨by rw [HF.out]; rfl, rfl⟩
        · have d2 : decide (122 < ((s[k].toNat : Nat) : Int)) = false := decide_eq_false h2
          have HS := Lib.hid (show (s.data.toList.take (k + 1)).all azB = true by
            rw [name_step hlt, HT.out]
            unfold azB
            rw [decide_eq_true (by omega), decide_eq_true (by omega)]; rfl)
          go_wp2
          go_round
          case rel => exact ⟨k + 1, by omega, by go_num, HS.out⟩
          case measure => simp [intOf]; omega
    · have hd : decide (k < s.size) = false := by simpa using hlt
      have HS := Lib.hid (show nameB s = inB (s.size : Int) 1 6 by
        unfold nameB
        have := HT.out
        rw [List.take_of_length_le (by rw [Array.length_toList]; show s.data.size ≤ k; have : s.size = s.data.size := rfl; omega)] at this
        rw [this, Bool.true_and])
      go_wp2_with fail
      refine (l1In_any (s.size : Int) 1 6 w).mono ?_
      rintro e w1 ⟨rfl, rfl⟩
      rw [← HS.out]
      go_wp2
      go_ret
      exact ⟨rfl, rfl⟩
theorem fit_no {wd : Int} {zs : List Int} {k : Nat} (h : k < zs.length) (hf : inB (ix zs k) (-1000) 1000 = false) : rowFit wd zs = false := by
  unfold rowFit
  rw [List.all_eq_false.2 ⟨zs[k], List.getElem_mem h, by rw [← ix_eq zs k h, hf]; simp⟩]; rfl
set_option maxRecDepth 100000 in
set_option maxHeartbeats 1000000 in
theorem l4Row_any (A : Option Addr) (c : Nat) (zs : List Int) (wd : Int) (w : World) (B : Nat) (hI : Ints w B A zs) (hl : zs.length ≤ 1099511627776) :
    Calls Try.prog 127 #[.slice A zs.length c, .int .i64 wd] w fun e w' => e = .returned (.bool (rowFit wd zs)) ∧ w = w' := by
  go_enter Try.func127, Try.ntmps127
  go_wp2
  go_loop [5] (fun i => ∃ k : Nat, k ≤ zs.length ∧ i = .int .i64 k ∧ (zs.take k).all (fun z => inB z (-1000) 1000) = true) (fun i => zs.length - (intOf i).toNat)
  case atStart => exact ⟨0, Nat.zero_le _, rfl, rfl⟩
  case round =>
    obtain ⟨k, hk, rfl, ht⟩ := hrel
    have HT := Lib.hid ht
    clear ht
    by_cases hlt : k < zs.length
    · obtain ⟨b, off, rfl, _, hc⟩ := hI (by omega)
      have hck := hc k hlt
      clear hc
      cases hf : inB (ix zs k) (-1000) 1000 with
      | false =>
        have HF := Lib.hid (fit_no (wd := wd) hlt hf)
        have HI := Lib.hid hf
        clear hf
        go_wp2_with fail
        refine (l1In_no (ix zs k) (-1000) 1000 _ HI.out).mono ?_
        rintro e w1 ⟨rfl, rfl⟩
        go_wp2
        go_ret
        exact ⟨by rw [HF.out]; rfl, rfl⟩
      | true =>
        have HS := Lib.hid (show (zs.take (k + 1)).all (fun z => inB z (-1000) 1000) = true by rw [all_take_succ _ _ _ hlt, HT.out, hf]; rfl)
        have HI := Lib.hid hf
        clear hf
        go_wp2_with fail
        refine (l1In_yes (ix zs k) (-1000) 1000 _ HI.out).mono ?_
        rintro e w1 ⟨rfl, rfl⟩
        go_wp2
        go_round
        case rel => exact ⟨k + 1, by omega, by go_num, HS.out⟩
        case measure => simp [intOf]; omega
    · have hd : decide (k < zs.length) = false := by simpa using hlt
      have HS := Lib.hid (show rowFit wd zs = ((zs.length : Int) == wd) by
        unfold rowFit
        have := HT.out
        rw [List.take_of_length_le (by omega)] at this
        rw [this, Bool.true_and]; rfl)
      go_wp2
      go_ret
      exact ⟨by rw [HS.out]; rfl, rfl⟩
theorem l4Row_yes (A : Option Addr) (c : Nat) (zs : List Int) (wd : Int) (w : World) (B : Nat) (hI : Ints w B A zs) (hl : zs.length ≤ 1099511627776) (h : rowFit wd zs = true) :
    Calls Try.prog 127 #[.slice A zs.length c, .int .i64 wd] w fun e w' => e = .returned (.bool true) ∧ w = w' := by rw [← h]; exact l4Row_any A c zs wd w B hI hl
theorem l4Row_no (A : Option Addr) (c : Nat) (zs : List Int) (wd : Int) (w : World) (B : Nat) (hI : Ints w B A zs) (hl : zs.length ≤ 1099511627776) (h : rowFit wd zs = false) :
    Calls Try.prog 127 #[.slice A zs.length c, .int .i64 wd] w fun e w' => e = .returned (.bool false) ∧ w = w' := by rw [← h]; exact l4Row_any A c zs wd w B hI hl
end Go.Proofs.Ytoncfodlffofdaa
