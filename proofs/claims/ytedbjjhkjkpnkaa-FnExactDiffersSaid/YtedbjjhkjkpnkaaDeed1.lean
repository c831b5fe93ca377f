/- A deed: what DeedOk says of it, of the model and of the program; the laws' copies and sizes of one; nothing that lay has turned. -/
import Derived.Test.YtedbjjhkjkpnkaaJC
import Derived.Test.YtedbjjhkjkpnkaaJA
import Derived.Test.YtedbjjhkjkpnkaaJB
namespace Go.Proofs.Ytedbjjhkjkpnkaa
open Go.RowKit

/-- What a deed's kind asks of how many numbers there are. -/
def kindB (k : Int) (n : Nat) : Bool := if k = 1 ∨ k = 3 then decide (0 < n) else if k = 2 ∨ k = 4 ∨ k = 5 then decide (n = 1) else decide (k = 6) && decide (n = 0)
def deedB (k : Int) (s : ByteArray) (zs : List Int) : Bool := nameB s && (rowOkB zs && kindB k zs.length)
theorem deedB_name {k : Int} {s : ByteArray} {zs : List Int} (h : nameB s = false) : deedB k s zs = false := by unfold deedB; rw [h]; rfl
theorem deedB_row {k : Int} {s : ByteArray} {zs : List Int} (h : rowOkB zs = false) : deedB k s zs = false := by unfold deedB; rw [h, Bool.false_and, Bool.and_false]
theorem deedB_is {k : Int} {s : ByteArray} {zs : List Int} (h : nameB s = true) (h2 : rowOkB zs = true) : deedB k s zs = kindB k zs.length := by unfold deedB; rw [h, h2]; rfl
theorem deedB_all {k : Int} {s : ByteArray} {zs : List Int} (h : deedB k s zs = true) : nameB s = true ∧ rowOkB zs = true ∧ kindB k zs.length = true := by
  unfold deedB at h
  rw [Bool.and_eq_true, Bool.and_eq_true] at h
  exact h
theorem rowOkB_six {zs : List Int} (h : rowOkB zs = true) : zs.length ≤ 6 := by
  unfold rowOkB at h
  rw [Bool.and_eq_true] at h
  exact of_decide_eq_true h.2
theorem kind_cases (k : Int) : k = 1 ∨ k = 2 ∨ k = 3 ∨ k = 4 ∨ k = 5 ∨ k = 6 ∨ (k ≠ 1 ∧ k ≠ 2 ∧ k ≠ 3 ∧ k ≠ 4 ∧ k ≠ 5 ∧ k ≠ 6) := by omega

/-- A deed in memory: its value. -/
def deedV (k : Int) (s : ByteArray) (A : Option Addr) (n c : Nat) : Value := .agg #[.int .i64 k, .string s, .slice A n c]

def SzD (s : ByteArray) (n : Nat) (w : World) (e : Ending) (w' : World) : Prop :=
  ∃ x, e = .returned (.int .i64 x) ∧ (0 ≤ x → s.size ≤ 1048576 ∧ n ≤ 1048576) ∧ Below w.heap.size w w'
/-- A deed that the laws copied. -/
def DeedAt (k : Int) (s : ByteArray) (zs : List Int) (w : World) (e : Ending) (w' : World) : Prop :=
  ∃ g, e = .returned (.agg #[.int .i64 k, .string s, .slice (some ⟨g, 0, none⟩) zs.length zs.length]) ∧ w.heap.size ≤ g ∧ Blk w' g 2 (i64s zs) ∧ Below w.heap.size w w'
end Go.Proofs.Ytedbjjhkjkpnkaa
