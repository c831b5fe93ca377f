/- Contracts of the laws' sizing of bags: if what is left is not below 0, the bag and each of its rows are at most as long as what was there; nothing that lay has turned. -/
import Derived.Test.YtoncfodlffofdaaBag3
namespace Go.Proofs.Ytoncfodlffofdaa
open Go.RowKit

/-- A slice of counts as it came in: rows of whatever length a machine can hold. -/
def RawBag (w : World) (B : Nat) (A : Option Addr) (bag : List (List Int × Int)) : Prop :=
  0 < bag.length → ∃ b off, A = some ⟨b, off, none⟩ ∧ b < B ∧ ∀ j, j < bag.length → ∃ Ar cap, w.cell? ⟨b, off + j * 2, none⟩ = some (.slice Ar (rx bag j).length cap) ∧ w.cell? ⟨b, off + j * 2 + 1, none⟩ = some (.int .i64 (nx bag j)) ∧ Ints w B Ar (rx bag j) ∧ (rx bag j).length ≤ maxLen
theorem RawBag.bag {w : World} {B : Nat} {A : Option Addr} {bag : List (List Int × Int)} (h : RawBag w B A bag) (hl : ∀ j, j < bag.length → (rx bag j).length ≤ 1099511627776) : Bag w B A bag := fun hn => by
  obtain ⟨b, off, e, hb, hc⟩ := h hn
  refine ⟨b, off, e, hb, fun j hj => ?_⟩
  obtain ⟨Ar, cap, h1, h2, h3, _⟩ := hc j hj
  exact ⟨Ar, cap, h1, h2, h3, hl j hj⟩
theorem RawBag.on {w w' : World} {A : Option Addr} {bag : List (List Int × Int)} (h : RawBag w w.heap.size A bag) (hb : Below w.heap.size w w') : RawBag w' w'.heap.size A bag := fun hn => by
  obtain ⟨b, off, e, hlt, hc⟩ := h hn
  refine ⟨b, off, e, Nat.lt_of_lt_of_le hlt hb.size, fun j hj => ?_⟩
  obtain ⟨Ar, cap, h1, h2, h3, h4⟩ := hc j hj
  exact ⟨Ar, cap, (hb.cell hlt).trans h1, (hb.cell hlt).trans h2, h3.on hb, h4⟩

def szI (n : Nat) (left : Int) : Int := if left - (n : Int) < 0 then -1 else left - (n : Int)
set_option maxHeartbeats 1000000 in
theorem szInt64S_any (A : Option Addr) (n c : Nat) (left : Int) (w : World) (hn : n ≤ maxLen) (h0 : 0 ≤ left) (h1 : left ≤ 1048576) :
    Calls Try.prog 138 #[.slice A n c, .int .i64 left] w fun e w' => e = .returned (.int .i64 (szI n left)) ∧ w = w' := by
  unfold maxLen at hn
  by_cases h : left - (n : Int) < 0
  · have e : szI n left = -1 := by unfold szI; rw [if_pos h]
    rw [e]
    go_enter Try.func138, Try.ntmps138
    go_wp2
    go_ret
    exact ⟨rfl, rfl⟩
  · have e : szI n left = left - (n : Int) := by unfold szI; rw [if_neg h]
    rw [e]
    go_enter Try.func138, Try.ntmps138
    go_wp2
    go_ret
    exact ⟨rfl, rfl⟩
set_option maxHeartbeats 1000000 in
theorem szCount_any (A : Option Addr) (n c : Nat) (m left : Int) (w : World) (hn : n ≤ maxLen) (h0 : 0 ≤ left) (h1 : left ≤ 1048576) :
    Calls Try.prog 135 #[.agg #[.slice A n c, .int .i64 m], .int .i64 left] w fun e w' => e = .returned (.int .i64 (szI n left)) ∧ Below w.heap.size w w' := by
  have b1 := (Below.refl w.heap.size w).alloc (Nat.le_refl _) (.cells #[.slice A n c, .int .i64 m] 121)
  go_enter Try.func135, Try.ntmps135
  go_wp2_with fail
  refine (szInt64S_any A n c left _ hn h0 h1).mono ?_
  rintro e w1 ⟨rfl, rfl⟩
  by_cases h : szI n left < 0
  · have e : szI n left = -1 := by unfold szI at h ⊢; split at h <;> simp_all <;> omega
    have HE := Lib.hid e
    rw [e]
    clear e h
    go_wp2
    go_ret
    exact ⟨ret_int HE.out.symm, b1⟩
  · obtain ⟨x, hx⟩ : ∃ x, x = szI n left := ⟨_, rfl⟩
    have hx0 : 0 ≤ x := by omega
    have HX := Lib.hid hx
    rw [← hx]
    clear hx h
    go_wp2
    go_ret
    exact ⟨ret_int HX.out, b1⟩
theorem szI_le {n : Nat} {left : Int} (h : 0 ≤ szI n left) : (n : Int) ≤ left ∧ szI n left ≤ left := by
  unfold szI at h ⊢
  split at h
  · omega
  · rename_i h2
    rw [if_neg h2]; omega
theorem szI_no {n : Nat} {left : Int} (h : szI n left < 0) : szI n left = -1 := by
  unfold szI at h ⊢
  split at h
  · rename_i h2; rw [if_pos h2]
  · omega

set_option maxRecDepth 100000 in
set_option maxHeartbeats 2000000 in
theorem szCountS_any (A : Option Addr) (c : Nat) (bag : List (List Int × Int)) (w : World) (hB : RawBag w w.heap.size A bag) (hl : bag.length ≤ maxLen) :
    Calls Try.prog 74 #[.slice A bag.length c, .int .i64 1048576] w fun e w' => ∃ x, e = .returned (.int .i64 x) ∧ (0 ≤ x → bag.length ≤ 1048576 ∧ ∀ j, j < bag.length → (rx bag j).length ≤ 1048576) ∧ Below w.heap.size w w' := by
  unfold maxLen at hl
  by_cases hbig : 1048576 < bag.length
  · go_enter Try.func74, Try.ntmps74
    go_wp2
    go_ret
    exact ⟨-1, rfl, fun h => absurd h (by omega), Below.refl _ _⟩
  have hl2 : bag.length ≤ 1048576 := by omega
  clear hbig hl
  go_enter Try.func74, Try.ntmps74
  go_wp2
  go_loopw [1, 5] (fun l i wr => ∃ (k : Nat) (x : Int), k ≤ bag.length ∧ i = .int .i64 k ∧ l = .int .i64 x ∧ 0 ≤ x ∧ x ≤ 1048576 ∧ (∀ j, j < k → (rx bag j).length ≤ 1048576) ∧ Below w.heap.size w wr) (fun _ i _ => bag.length - (intOf i).toNat)
  case atStart => exact ⟨0, _, Nat.zero_le _, rfl, rfl, by omega, by omega, fun j hj => absurd hj (by omega), Below.refl _ _⟩
  case round =>
    obtain ⟨k, x, hk, rfl, rfl, hx0, hx1, hrows, hW⟩ := hrel
    have HR := Lib.hid hrows
    clear hrows
    by_cases hlt : k < bag.length
    · obtain ⟨b, off, rfl, _, hc⟩ := hB.on hW (by omega)
      obtain ⟨Ar, cap, h1, h2, h3, h4⟩ := hc k hlt
      clear hc
      go_wp2_with fail
      refine (szCount_any Ar (rx bag k).length cap (nx bag k) x wr h4 hx0 hx1).mono ?_
      rintro e w1 ⟨rfl, hb1⟩
      have hW1 : Below w.heap.size w w1 := hW.trans (hb1.mono hW.size)
      clear h1 h2 h3 hW hb1
      by_cases hs : szI (rx bag k).length x < 0
      · rw [szI_no hs]
        clear hs
        go_wp2
        go_ret
        exact ⟨-1, rfl, fun h => absurd h (by omega), hW1⟩
      · have hle := szI_le (n := (rx bag k).length) (left := x) (by omega)
        have hs0 : 0 ≤ szI (rx bag k).length x := by omega
        generalize szI (rx bag k).length x = y at *
        go_wp2
        go_roundw
        case rel =>
          refine ⟨k + 1, y, by omega, by go_num, rfl, hs0, by omega, fun j hj => ?_, hW1⟩
          by_cases e : j = k
          · subst e; omega
          · exact HR.out j (by omega)
        case measure => simp [intOf]; omega
    · have hd : decide (k < bag.length) = false := by simpa using hlt
      go_wp2
      go_ret
      exact ⟨x, rfl, fun _ => ⟨hl2, fun j hj => HR.out j (by omega)⟩, hW⟩
end Go.Proofs.Ytoncfodlffofdaa
