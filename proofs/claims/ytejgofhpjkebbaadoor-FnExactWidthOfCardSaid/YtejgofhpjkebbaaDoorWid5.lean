/- The program's widthOk and placesIn: what they return; nothing that lay has turned. The program's own variable lies as the text lays it. -/
import Derived.Test.YtejgofhpjkebbaaDoorWid0
import Derived.Test.YtejgofhpjkebbaaDoorNod3
import Derived.Test.YtejgofhpjkebbaaDoorCndJ
namespace Go.Proofs.YtejgofhpjkebbaaDoor
open Go.RowKit

theorem widthOk_any (x : Int) (w : World) :
    Calls Tryd.prog 40 #[.int .i64 x] w fun e w' => e = .returned (.bool (widthB x)) ∧ w = w' := by
  by_cases h1 : 1 ≤ x
  · obtain ⟨b, hb⟩ : ∃ b, decide (x ≤ 6) = b := ⟨_, rfl⟩
    have HR := Lib.hid (show widthB x = b by unfold widthB inB; rw [decide_eq_true h1, hb]; rfl)
    go_enter Tryd.func40, Tryd.ntmps40
    go_wp2
    go_ret
    exact ⟨ret_bool HR.out.symm, rfl⟩
  · have HR := Lib.hid (show widthB x = false by unfold widthB inB; rw [decide_eq_false h1]; rfl)
    have h1b : decide (1 ≤ x) = false := decide_eq_false h1
    clear h1
    go_enter Tryd.func40, Tryd.ntmps40
    go_wp2
    go_ret
    exact ⟨ret_bool HR.out.symm, rfl⟩
theorem placesIn_eq {z : List Int} (h : placesB z 6 = true) (m : Nat) : placesB z m = z.all fun x => decide (x < (m : Int)) := by
  unfold placesB at *
  rw [Bool.eq_iff_iff, List.all_eq_true, List.all_eq_true]
  constructor
  · intro h2 x hx
    have := h2 x hx
    unfold inB at this
    simp at this ⊢
    omega
  · intro h2 x hx
    have h3 := h2 x hx
    have h4 := List.all_eq_true.1 h x hx
    unfold inB at h4 ⊢
    simp at h3 h4 ⊢
    omega
set_option maxRecDepth 100000 in
set_option maxHeartbeats 1000000 in
theorem placesIn_any (A : Option Addr) (c m : Nat) (z : List Int) (w : World) (B : Nat) (hZ : Ints w B A z) (hl : z.length ≤ 1048576) (h6 : placesB z 6 = true) :
    Calls Tryd.prog 42 #[.slice A z.length c, .int .i64 (m : Int)] w fun e w' => e = .returned (.bool (placesB z m)) ∧ w = w' := by
  have HQ := Lib.hid (placesIn_eq h6 m)
  clear h6
  generalize placesB z m = R at *
  go_enter Tryd.func42, Tryd.ntmps42
  go_wp2
  go_loop [9] (fun i => ∃ k : Nat, k ≤ z.length ∧ i = .int .i64 k ∧ (z.take k).all (fun x => decide (x < (m : Int))) = true) (fun i => z.length - (intOf i).toNat)
  case atStart => exact ⟨0, Nat.zero_le _, rfl, by simp⟩
  case round =>
    obtain ⟨k, hk, rfl, ht⟩ := hrel
    have HT := Lib.hid ht
    clear ht
    by_cases hlt : k < z.length
    · obtain ⟨b, off, rfl, hb, hc⟩ := hZ (by omega)
      have hck := hc k hlt
      clear hc
      by_cases hi : ix z k < (m : Int)
      · have hib : decide ((m : Int) ≤ ix z k) = false := decide_eq_false (by omega)
        have HS := Lib.hid (show (z.take (k + 1)).all (fun x => decide (x < (m : Int))) = true by rw [all_take_succ _ _ _ hlt, HT.out, decide_eq_true hi]; rfl)
        clear hi
        generalize ix z k = x at *
        go_wp2
        go_round
        case rel => exact ⟨k + 1, by omega, by go_num, HS.out⟩
        case measure => simp [intOf]; omega
      · have hib : (m : Int) ≤ ix z k := by omega
        have HF := Lib.hid (show R = false by rw [HQ.out]; exact all_stop (fun x => decide (x < (m : Int))) z k hlt (decide_eq_false hi))
        clear hi
        generalize ix z k = x at *
        go_wp2
        go_ret
        exact ⟨ret_bool HF.out.symm, rfl⟩
    · have hd : decide (k < z.length) = false := by simpa using hlt
      have HF := Lib.hid (show R = true by
        rw [HQ.out]
        have := HT.out
        rw [List.take_of_length_le (by omega)] at this
        exact this)
      go_wp2
      go_ret
      exact ⟨ret_bool HF.out.symm, rfl⟩
end Go.Proofs.YtejgofhpjkebbaaDoor
