/- Plain facts for FnTables: a row that is there has that key; what was taken is gone; what was placed is there, and taken again all is as before; the bag of two parts. No program is spoken of. -/
import Derived.Test.YtedbjjhkjkpnkaaTabI3
import Derived.Test.YtedbjjhkjkpnkaaDrawTab1
import Derived.Test.YtedbjjhkjkpnkaaSum1
namespace Go.Proofs.Ytedbjjhkjkpnkaa
open Go.RowKit

theorem there_tab {s : ByteArray} {wd : Int} {rows : List (List Int)} {q : Int} (h : thereB s wd rows q = true) : tabB s wd rows = true ∧ idxK rows q < rows.length := by
  unfold thereB at h
  rw [Bool.and_eq_true, decide_eq_true_eq] at h
  exact h
theorem at_key {s : ByteArray} {wd : Int} {rows : List (List Int)} {q : Int} (h : thereB s wd rows q = true) : 0 < (atL s wd rows q).length ∧ ky (atL s wd rows q) = q := by
  obtain ⟨ht, hi⟩ := there_tab h
  have e : atL s wd rows q = rr rows (idxK rows q) := by unfold atL; rw [if_pos h]
  rw [e]
  refine ⟨tab_pos ht _ hi, ?_⟩
  obtain ⟨r, h1, h2, _, _⟩ := idx_split hi
  have hr : rr rows (idxK rows q) = r := by
    have := congrArg List.head? h1
    rw [List.head?_drop] at this
    simp only [List.head?_cons] at this
    unfold rr; rw [this]; rfl
  rw [hr, h2]
/-- Behind a row that was taken. -/
theorem taken_law {s : ByteArray} {wd : Int} {rows : List (List Int)} {q : Int} (h : thereB s wd rows q = true) : tabB s wd (takenL rows q) = true ∧ thereB s wd (takenL rows q) q = false ∧ (takenL rows q).length + 1 = rows.length := by
  obtain ⟨ht, hi⟩ := there_tab h
  obtain ⟨h1, h2⟩ := taken_none (tab_sk ht) hi
  have ht2 : tabB s wd (takenL rows q) = true := by
    unfold tabB at ht ⊢
    rw [Bool.and_eq_true] at ht ⊢
    exact ⟨ht.1, taken_ok ht.2⟩
  refine ⟨ht2, ?_, h2⟩
  unfold thereB
  rw [ht2, Bool.true_and, decide_eq_false (by omega)]
theorem pl_tab {s : ByteArray} {wd : Int} {rows : List (List Int)} {row : List Int} (h : plB s wd rows row = true) : tabB s wd rows = true ∧ rowFit wd row = true := by
  unfold plB at h
  simp only [Bool.and_eq_true] at h
  exact ⟨h.1.1.1, h.1.1.2⟩
/-- Behind a row that was placed. -/
theorem placed_law {s : ByteArray} {wd : Int} {rows : List (List Int)} {row : List Int} (h : plB s wd rows row = true) : tabB s wd (placedL rows row) = true ∧ thereB s wd (placedL rows row) (ky row) = true ∧ takenL (placedL rows row) (ky row) = rows ∧ atL s wd (placedL rows row) (ky row) = row ∧ 0 < row.length := by
  obtain ⟨ht, hf⟩ := pl_tab h
  have h1 : tabB s wd (placedL rows row) = true := by
    have := tabB_pl (row := row) ht
    rwa [h, show plR rows row true = placedL rows row from if_pos rfl] at this
  have hi := idx_placed (rows := rows) (row := row)
  have hp := plc_le rows (ky row)
  have h2 : thereB s wd (placedL rows row) (ky row) = true := by
    unfold thereB
    rw [h1, hi.1, hi.2, decide_eq_true (by omega)]; rfl
  refine ⟨h1, h2, taken_placed rows row, ?_, ?_⟩
  · unfold atL
    rw [if_pos h2, hi.1, placed_at]
  · unfold tabB at ht
    rw [Bool.and_eq_true] at ht
    exact fit_pos hf (rowsOk_iff.1 ht.2).1.1
theorem bagIn_law {s : ByteArray} {wd : Int} {rows : List (List Int)} {f t lo : Int} (h : tabB s wd rows = true) (h1 : lo ≤ f) (h2 : f ≤ t) : plusB (bagInB s wd rows lo f) (bagInB s wd rows f t) = bagInB s wd rows lo t := by
  have hr : rowsOkB wd rows = true := by
    unfold tabB at h
    rw [Bool.and_eq_true] at h
    exact h.2
  unfold bagInB plusB
  rw [if_pos h, if_pos h, if_pos h, bagIn_ok hr, bagIn_ok hr, if_pos (by rfl : (true && true) = true)]
  exact bagIn_plus hr h1 h2
theorem tk_true (s : ByteArray) (wd : Int) (rows : List (List Int)) : tkS s true = s ∧ tkW wd true = wd ∧ tkR rows true = rows := ⟨if_pos rfl, if_pos rfl, if_pos rfl⟩
theorem tkS_le {s : ByteArray} {b : Bool} {m : Nat} (h : s.size ≤ m) : (tkS s b).size ≤ m := by
  unfold tkS
  split
  · exact h
  · exact Nat.zero_le _
end Go.Proofs.Ytedbjjhkjkpnkaa
