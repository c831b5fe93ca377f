/- The contract of the model's Placed: a table of the call's own; nothing that lay has turned. -/
import Derived.Test.YtejgofhpjkebbaaDoorTab5
namespace Go.Proofs.YtejgofhpjkebbaaDoor
open Go.RowKit

/-- Whether a row is placed. -/
def plB (s : ByteArray) (wd : Int) (rows : List (List Int)) (row : List Int) : Bool := tabB s wd rows && rowFit wd row && decide (¬ idxK rows (ky row) < rows.length) && decide (rows.length ≠ 30)
def plR (rows : List (List Int)) (row : List Int) (b : Bool) : List (List Int) := if b = true then placedL rows row else rows
theorem plc_yes {rows : List (List Int)} {k : Nat} {q : Int} (h : k < rows.length) (e : ky (rr rows k) < q) : plcK (rows.drop k) q = plcK (rows.drop (k + 1)) q + 1 := by rw [rows_drop h, plcK, if_pos e]
theorem plc_no {rows : List (List Int)} {k : Nat} {q : Int} (h : k < rows.length) (e : ¬ ky (rr rows k) < q) : plcK (rows.drop k) q = 0 := by rw [rows_drop h, plcK, if_neg e]
theorem plc_end {rows : List (List Int)} {k : Nat} {q : Int} (h : ¬ k < rows.length) : plcK (rows.drop k) q = 0 := by rw [List.drop_of_length_le (by omega)]; rfl
/-- The end of a call that answers the table at O: what is stored into the result. -/
theorem ans_end {w w7 : World} {G lo : Nat} {s : ByteArray} {wd : Int} {rows : List (List Int)} {u a0 a1 : Value} {es : List Ent} (hG : w.heap.size = G) (hO : ORows w7 lo u es) (hlo : G + 1 < lo) (he : es.map Ent.r = rows) (hW : Below G w w7) :
    OwnTab w.heap.size s wd rows (.agg #[.string s, .int .i64 wd, u]) (((w7.setCell ⟨G + 1, 0, none⟩ a0).setCell ⟨G + 1, 1, none⟩ a1).setCell ⟨G + 1, 2, none⟩ u) ∧ Below w.heap.size w (((w7.setCell ⟨G + 1, 0, none⟩ a0).setCell ⟨G + 1, 1, none⟩ a1).setCell ⟨G + 1, 2, none⟩ u) := by
  rw [hG]
  refine ⟨⟨_, es, rfl, ?_, he⟩, ?_⟩
  · exact ORows.lower (lo := lo) (((hO.keep hO.inside (fun b hb _ => Below.heap_setCell w7 ⟨G + 1, 0, none⟩ _ b (by simp; omega))).keep (hi := w7.heap.size) hO.inside (fun b hb _ => Below.heap_setCell _ ⟨G + 1, 1, none⟩ _ b (by simp; omega))).keep (hi := w7.heap.size) hO.inside (fun b hb _ => Below.heap_setCell _ ⟨G + 1, 2, none⟩ _ b (by simp; omega))) (by omega)
  · exact ((hW.setCell (p := ⟨G + 1, 0, none⟩) (by simp) _).setCell (p := ⟨G + 1, 1, none⟩) (by simp) _).setCell (p := ⟨G + 1, 2, none⟩) (by simp) _
end Go.Proofs.YtejgofhpjkebbaaDoor
