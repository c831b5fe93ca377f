/- Contracts of the functions over slices of int64 that the laws of chapter 1 reach: each says what the call returns and what became of memory. Each holds for every slice of at most 2^40 numbers. -/
import Derived.Test.YtkjpaafmolikoabDoorBase
import Derived.Test.YtkjpaafmolikoabDoorChecked
import Derived.WalkKit
import Derived.BigQuiet
import Derived.Deep.QuietTactic
namespace Go.Proofs.YtkjpaafmolikoabDoor
open Go.RowKit

theorem info_i64 : (Tryd.prog.info? 2).map (fun i => (i.zero, i.size, i.bytes)) = some (some (.int .i64 0), 1, 8) := by kernel_rfl

/-- lo <= x && x <= hi, as the program reckons it. -/
def inB (x lo hi : Int) : Bool := decide (lo ≤ x) && decide (x ≤ hi)
theorem l1In_any (x lo hi : Int) (w : World) :
    Calls Tryd.prog 81 #[.int .i64 x, .int .i64 lo, .int .i64 hi] w fun e w' => e = .returned (.bool (inB x lo hi)) ∧ w = w' := by
  unfold inB
  by_cases h1 : lo ≤ x
  all_goals
    go_enter Tryd.func81, Tryd.ntmps81
    go_wp2
    go_ret
    exact ⟨ret_bool (by first | (rw [decide_eq_true (by omega : lo ≤ x)]; simp) | (rw [decide_eq_false (by omega : ¬ lo ≤ x)]; simp)), rfl⟩

def cellB (n : Int) : Bool := inB n (-1000000000) 1000000000
theorem l1Cell_any (x : Int) (w : World) :
    Calls Tryd.prog 52 #[.int .i64 x] w fun e w' => e = .returned (.bool (cellB x)) ∧ w = w' := by
  go_enter Tryd.func52, Tryd.ntmps52
  go_wp2_with (go_at_call 81; refine (l1In_any _ _ _ _).mono ?_; rintro e w' ⟨rfl, rfl⟩)
  go_ret
  exact ⟨rfl, rfl⟩

theorem l1Cell_yes (x : Int) (w : World) (h : cellB x = true) : Calls Tryd.prog 52 #[.int .i64 x] w fun e w' => e = .returned (.bool true) ∧ w = w' := by rw [← h]; exact l1Cell_any x w
theorem l1Cell_no (x : Int) (w : World) (h : cellB x = false) : Calls Tryd.prog 52 #[.int .i64 x] w fun e w' => e = .returned (.bool false) ∧ w = w' := by rw [← h]; exact l1Cell_any x w

def rowOkB (zs : List Int) : Bool := zs.all cellB && decide (zs.length ≤ 6)
theorem all_take_succ (f : Int → Bool) (zs : List Int) (k : Nat) (h : k < zs.length) : (zs.take (k + 1)).all f = ((zs.take k).all f && f (ix zs k)) := by
  rw [List.take_succ_eq_append_getElem h, List.all_append, ix_eq zs k h]; simp
theorem rowOk_stop (zs : List Int) (k : Nat) (h : k < zs.length) (hf : cellB (ix zs k) = false) : rowOkB zs = false := by
  unfold rowOkB
  rw [Bool.and_eq_false_iff]; left
  rw [List.all_eq_false]
  refine ⟨zs[k], List.getElem_mem h, ?_⟩
  rw [← ix_eq zs k h, hf]; simp

set_option maxHeartbeats 400000 in
theorem specRowOk_any (A : Option Addr) (c : Nat) (zs : List Int) (w : World) (B : Nat) (hI : Ints w B A zs) (hl : zs.length ≤ 1099511627776) :
    Calls Tryd.prog 19 #[.slice A zs.length c] w fun e w' => e = .returned (.bool (rowOkB zs)) ∧ w = w' := by
  go_enter Tryd.func19, Tryd.ntmps19
  go_wp2
  go_loop [3] (fun i => ∃ k : Nat, k ≤ zs.length ∧ i = .int .i64 k ∧ (zs.take k).all cellB = true) (fun i => zs.length - (intOf i).toNat)
  case atStart => exact ⟨0, Nat.zero_le _, rfl, by simp⟩
  case round =>
    obtain ⟨k, hk, rfl, ha⟩ := hrel
    have HA := Lib.hid ha
    clear ha
    by_cases hlt : k < zs.length
    · obtain ⟨b, off, rfl, hb, hc⟩ := hI (by omega)
      have hck := hc k hlt
      clear hc
      by_cases hf : cellB (ix zs k) = true
      · have HF := Lib.hid hf
        clear hf
        go_wp2_with (go_at_call 52; refine (l1Cell_yes _ _ HF.out).mono ?_; rintro e w' ⟨rfl, rfl⟩)
        go_round
        case rel => exact ⟨k + 1, by omega, by go_num, by rw [all_take_succ _ _ _ hlt, HA.out, HF.out]; rfl⟩
        case measure => simp [intOf]; omega
      · have hf' : cellB (ix zs k) = false := by simpa using hf
        have HF := Lib.hid hf'
        clear hf hf'
        go_wp2_with (go_at_call 52; refine (l1Cell_no _ _ HF.out).mono ?_; rintro e w' ⟨rfl, rfl⟩)
        go_ret
        exact ⟨ret_bool (rowOk_stop zs k hlt HF.out).symm, rfl⟩
    · have hk' : k = zs.length := by omega
      have HR : Hid (rowOkB zs = decide (zs.length ≤ 6)) := by
        have := HA.out
        rw [hk', List.take_length] at this
        show rowOkB zs = _
        unfold rowOkB; rw [this]; simp
      subst hk'
      go_wp2
      go_ret
      exact ⟨ret_bool (by rw [HR.out]; simp; omega), rfl⟩

set_option maxHeartbeats 800000 in
theorem toInt64S_any (A : Option Addr) (c : Nat) (zs : List Int) (w : World) (hI : Ints w w.heap.size A zs) (hl : zs.length ≤ 1099511627776) :
    Calls Tryd.prog 58 #[.slice A zs.length c] w fun e w' => e = .returned (.slice (some ⟨w.heap.size, 0, none⟩) zs.length zs.length) ∧ Blk w' w.heap.size 2 (i64s zs) ∧ Below w.heap.size w w' ∧ w'.heap.size = w.heap.size + 1 := by
  have hmk := fun wx => run_make_row' (P := Tryd.prog) 24 2 (.int .i64 0) 8 Tryd.underlying24 info_i64 rfl .i64 .i64 zs.length (by omega) (by omega) wx
  go_enter Tryd.func58, Tryd.ntmps58
  go_wp2
  go_loopw [4] (fun i wr => ∃ k : Nat, k ≤ zs.length ∧ i = .int .i64 k ∧ Blk wr w.heap.size 2 (i64s (copied zs k)) ∧ Below w.heap.size w wr ∧ wr.heap.size = w.heap.size + 1)
    (fun i _ => zs.length - (intOf i).toNat)
  case atStart => exact ⟨0, Nat.zero_le _, rfl, by rw [made_copied]; exact Blk.new _ _ _, (Below.refl _ _).alloc (Nat.le_refl _) _, by simp⟩
  case round =>
    obtain ⟨k, hk, rfl, hB, hbel, hsz⟩ := hrel
    have HS := Lib.hid hsz
    clear hsz hmk
    by_cases hlt : k < zs.length
    · obtain ⟨b, off, rfl, hb, hc⟩ := hI (by omega)
      have hck : wr.cell? ⟨b, off + k, none⟩ = some (.int .i64 (ix zs k)) := (hbel.cell (p := ⟨b, off + k, none⟩) hb).trans (hc k hlt)
      have hd : wr.cell? ⟨w.heap.size, k, none⟩ = some (.int .i64 (ix (copied zs k) k)) := by rw [hB.cell k, i64s_get _ _ (by rw [copied_length _ _ hk]; exact hlt)]
      have hfz := hB.frozen k
      have hB2 := hB.set_ k (.int .i64 (ix zs k))
      rw [copied_step zs k hlt] at hB2
      have HB2 := Lib.hid hB2
      clear hc hB hB2
      go_wp2
      go_roundw
      case rel => exact ⟨k + 1, by omega, by go_num, HB2.out, hbel.setCell (p := ⟨w.heap.size, k, none⟩) (Nat.le_refl _) _, by simpa [World.setCell] using HS.out⟩
      case measure => simp [intOf]; omega
    · obtain rfl : zs.length = k := by omega
      rw [copied_all] at hB
      go_wp2
      go_ret
      exact ⟨rfl, hB, hbel, HS.out⟩

theorem take_ext (zs ys : List Int) (k : Nat) (h : k < zs.length) (h' : k < ys.length) (ht : zs.take k = ys.take k) (e : ix zs k = ix ys k) : zs.take (k + 1) = ys.take (k + 1) := by
  rw [List.take_succ_eq_append_getElem h, List.take_succ_eq_append_getElem h', ht, ← ix_eq zs k h, ← ix_eq ys k h', e]

set_option maxHeartbeats 800000 in
theorem eqInt64S_any (A A' : Option Addr) (c c' : Nat) (zs ys : List Int) (w : World) (B B' : Nat) (hI : Ints w B A zs) (hI' : Ints w B' A' ys) (hl : zs.length ≤ 1099511627776) (hl' : ys.length ≤ 1099511627776) :
    Calls Tryd.prog 62 #[.slice A zs.length c, .slice A' ys.length c'] w fun e w' => e = .returned (.bool (decide (zs = ys))) ∧ ∃ n, w' = w.drewN n := by
  by_cases hne : zs.length = ys.length
  · have hb : ((zs.length : Int) != (ys.length : Int)) = false := by simp [hne]
    have HN := Lib.hid hne
    clear hne
    go_enter Tryd.func62, Tryd.ntmps62
    go_wp2
    go_loopw [5] (fun i wr => ∃ k : Nat, k ≤ zs.length ∧ i = .int .i64 k ∧ zs.take k = ys.take k ∧ ∃ n, wr = w.drewN n) (fun i _ => zs.length - (intOf i).toNat)
    case atStart => exact ⟨0, Nat.zero_le _, rfl, by simp, 0, rfl⟩
    case round =>
      obtain ⟨k, hk, rfl, ht, n, rfl⟩ := hrel
      have HT := Lib.hid ht
      clear ht hb
      by_cases hlt : k < zs.length
      · have hlt' : k < ys.length := by have := HN.out; omega
        obtain ⟨b, off, rfl, _, hc⟩ := hI (by omega)
        obtain ⟨b', off', rfl, _, hc'⟩ := hI' (by omega)
        have hck := hc k hlt
        have hck' := hc' k hlt'
        clear hc hc'
        by_cases he : ix zs k = ix ys k
        · have hbe : (ix zs k != ix ys k) = false := by simp [he]
          have HE := Lib.hid he
          clear he
          go_wp2
          go_quiet (fail)
          go_wp2
          go_roundw
          case rel => exact ⟨k + 1, by omega, by go_num, take_ext zs ys k hlt hlt' HT.out HE.out, _, rfl⟩
          case measure => simp [intOf]; omega
        · have hbe : (ix zs k != ix ys k) = true := by simp [he]
          have HE := Lib.hid he
          clear he
          go_wp2
          go_quiet (fail)
          go_wp2
          go_ret
          exact ⟨ret_bool (by rw [decide_eq_false]; intro h; subst h; exact HE.out rfl), n + nq, by rw [World.drewN_drewN]⟩
      · go_wp2
        go_ret
        refine ⟨ret_bool ?_, _, rfl⟩
        have h1 := HT.out
        rw [List.take_of_length_le (by omega), List.take_of_length_le (by have := HN.out; omega)] at h1
        rw [decide_eq_true h1]
  · have hb : ((zs.length : Int) != (ys.length : Int)) = true := by simp; omega
    have HN := Lib.hid hne
    clear hne
    go_enter Tryd.func62, Tryd.ntmps62
    go_wp2
    go_ret
    exact ⟨ret_bool (by rw [decide_eq_false]; intro h; subst h; exact HN.out rfl), 0, rfl⟩
theorem l1In_yes (x lo hi : Int) (w : World) (h : inB x lo hi = true) : Calls Tryd.prog 81 #[.int .i64 x, .int .i64 lo, .int .i64 hi] w fun e w' => e = .returned (.bool true) ∧ w = w' := by rw [← h]; exact l1In_any x lo hi w
theorem l1In_no (x lo hi : Int) (w : World) (h : inB x lo hi = false) : Calls Tryd.prog 81 #[.int .i64 x, .int .i64 lo, .int .i64 hi] w fun e w' => e = .returned (.bool false) ∧ w = w' := by rw [← h]; exact l1In_any x lo hi w
theorem all_stop (f : Int → Bool) (zs : List Int) (k : Nat) (h : k < zs.length) (hf : f (ix zs k) = false) : zs.all f = false := by
  rw [List.all_eq_false]
  exact ⟨zs[k], List.getElem_mem h, by rw [← ix_eq zs k h, hf]; simp⟩
theorem all_ix {f : Int → Bool} {zs : List Int} (h : zs.all f = true) (k : Nat) (hk : k < zs.length) : f (ix zs k) = true := by
  rw [ix_eq zs k hk]
  exact List.all_eq_true.1 h _ (List.getElem_mem hk)

end Go.Proofs.YtkjpaafmolikoabDoor
