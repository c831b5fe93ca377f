/- Sizes of chapter 4's answers: no row is longer, no list much longer. No program is spoken of. -/
import Derived.Test.YtedbjjhkjkpnkaaJD
import Derived.Test.YtedbjjhkjkpnkaaTab7
namespace Go.Proofs.Ytedbjjhkjkpnkaa
open Go.RowKit

theorem rr_mem {rows : List (List Int)} {m : Nat} : (∀ j, j < rows.length → (rr rows j).length ≤ m) ↔ ∀ r ∈ rows, r.length ≤ m := by
  constructor
  · intro h r hr
    obtain ⟨j, hj, rfl⟩ := List.getElem_of_mem hr
    have := h j hj
    rwa [rr_eq hj] at this
  · intro h j hj
    rw [rr_eq hj]
    exact h _ (List.getElem_mem hj)
theorem tkR_fit {rows : List (List Int)} {b : Bool} {m n : Nat} (h1 : rows.length ≤ n) (h2 : ∀ r ∈ rows, r.length ≤ m) : (tkR rows b).length ≤ n ∧ ∀ j, j < (tkR rows b).length → (rr (tkR rows b) j).length ≤ m := by
  unfold tkR
  split
  · exact ⟨h1, rr_mem.2 h2⟩
  · exact ⟨Nat.zero_le _, fun j hj => absurd hj (by simp)⟩
theorem tkTaken_fit {rows : List (List Int)} {q : Int} {b : Bool} {m : Nat} (h : ∀ j, j < rows.length → (rr rows j).length ≤ m) : (tkR (takenL rows q) b).length ≤ rows.length ∧ ∀ j, j < (tkR (takenL rows q) b).length → (rr (tkR (takenL rows q) b) j).length ≤ m :=
  tkR_fit (taken_sub rows q).length_le (fun r hr => rr_mem.1 h r (taken_mem hr))
theorem tkPlaced_fit {rows : List (List Int)} {row : List Int} {b b2 : Bool} {m : Nat} (h : ∀ j, j < rows.length → (rr rows j).length ≤ m) (hr : row.length ≤ m) : (tkR (plR rows row b2) b).length ≤ rows.length + 1 ∧ ∀ j, j < (tkR (plR rows row b2) b).length → (rr (tkR (plR rows row b2) b) j).length ≤ m := by
  refine tkR_fit ?_ fun r hm => ?_
  · unfold plR
    split
    · rw [idx_placed.2]; exact Nat.le_refl _
    · omega
  · unfold plR at hm
    split at hm
    · unfold placedL at hm
      rcases List.mem_append.1 hm with hm | hm
      · exact rr_mem.1 h r (List.mem_of_mem_take hm)
      · rcases List.mem_cons.1 hm with rfl | hm
        · exact hr
        · exact rr_mem.1 h r (List.mem_of_mem_drop hm)
    · exact rr_mem.1 h r hm
theorem at_fit {s : ByteArray} {wd : Int} {rows : List (List Int)} {q : Int} {m : Nat} (h : ∀ j, j < rows.length → (rr rows j).length ≤ m) : (atL s wd rows q).length ≤ m := by
  unfold atL
  split
  · rename_i ht
    unfold thereB at ht
    rw [Bool.and_eq_true, decide_eq_true_eq] at ht
    exact h _ ht.2
  · exact Nat.zero_le _
theorem bagInB_fit {s : ByteArray} {wd : Int} {rows : List (List Int)} {f t : Int} {m : Nat} (h : ∀ j, j < rows.length → (rr rows j).length ≤ m) : (bagInB s wd rows f t).length ≤ rows.length ∧ ∀ j, j < (bagInB s wd rows f t).length → (rx (bagInB s wd rows f t) j).length ≤ m := by
  unfold bagInB
  split
  · unfold bagIn
    refine ⟨by rw [List.length_map]; exact List.length_filter_le _ _, fun j hj => ?_⟩
    have hj' := hj
    rw [List.length_map] at hj'
    have e : rx (List.map (fun r => (r, (1 : Int))) (rows.filter fun r => decide (f < ky r) && decide (ky r ≤ t))) j = (rows.filter fun r => decide (f < ky r) && decide (ky r ≤ t))[j] := by simp [rx, hj']
    rw [e]
    exact rr_mem.1 h _ (List.mem_filter.1 (List.getElem_mem hj')).1
  · exact ⟨Nat.zero_le _, fun j hj => absurd hj (by simp)⟩
end Go.Proofs.Ytedbjjhkjkpnkaa
