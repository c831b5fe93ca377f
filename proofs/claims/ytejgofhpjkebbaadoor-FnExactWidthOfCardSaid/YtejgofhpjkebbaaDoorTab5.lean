/- The contract of the model's Taken: a table of the call's own; nothing that lay has turned. -/
import Derived.Test.YtejgofhpjkebbaaDoorJC
namespace Go.Proofs.YtejgofhpjkebbaaDoor
open Go.RowKit

/-- A table of the call's own, and a flag. -/
def TabAns (s : ByteArray) (wd : Int) (rows : List (List Int)) (b : Bool) (w : World) (e : Ending) (w' : World) : Prop :=
  ∃ v, e = .returned (.tuple #[v, .bool b]) ∧ OwnTab w.heap.size s wd rows v w' ∧ Below w.heap.size w w'
theorem taken_same {rows : List (List Int)} {q : Int} (h : ¬ idxK rows q < rows.length) : takenL rows q = rows := by
  have := idx_le rows q
  unfold takenL
  rw [List.take_of_length_le (by omega), List.drop_of_length_le (by omega), List.append_nil]
def tkS (s : ByteArray) (b : Bool) : ByteArray := if b = true then s else ⟨#[]⟩
def tkW (wd : Int) (b : Bool) : Int := if b = true then wd else 0
def tkR (rows : List (List Int)) (b : Bool) : List (List Int) := if b = true then rows else []
end Go.Proofs.YtejgofhpjkebbaaDoor
