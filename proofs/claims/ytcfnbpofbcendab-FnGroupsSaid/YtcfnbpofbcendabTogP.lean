/- Counts appended to a list that the program fills ahead of together: laws. -/
import Derived.Test.YtcfnbpofbcendabTog0
namespace Go.Proofs.Ytcfnbpofbcendab
open Go.RowKit

/-- The list with one more count. -/
theorem HC.push {w w' : World} {lo g cap : Nat} {es : List Ent} {v' : Value} {e : Ent} {o : Obj} (h : HC w lo w.heap.size g cap es) (hg : (w.alloc o).grownBy w' (some g)) (hown : w'.ownsRow lo 33 2 v' (es.length + 1) (entCells es ++ e.cells)) (hat : v'.ownBlock = some g ∨ v'.ownBlock = some (w.alloc o).heap.size)
    (he : RowG w w.heap.size g e.A e.r ∧ e.r.length ≤ 1099511627776) : ∃ g' cap', v' = .slice (some ⟨g', 0, none⟩) (es ++ [e]).length cap' ∧ HC w' lo w'.heap.size g' cap' (es ++ [e]) ∧ (g' = g ∨ w.heap.size < g') := by
  obtain ⟨g', hv⟩ : ∃ g', v'.ownBlock = some g' := by
    rcases hat with h | h
    · exact ⟨_, h⟩
    · exact ⟨_, h⟩
  have hform : ∃ cap', v' = .slice (some ⟨g', 0, none⟩) (es ++ [e]).length cap' := by
    rcases hown.2 with ⟨rfl, _⟩ | ⟨g2, cap2, cur, rfl, _⟩
    · cases hv
    · have e2 : g2 = g' := Option.some.inj hv
      subst e2
      exact ⟨cap2, by simp⟩
  obtain ⟨cap', rfl⟩ := hform
  have hg' : g' = g ∨ g' = w.heap.size + 1 := by
    rcases hat with h | h
    · exact .inl (Option.some.inj h)
    · right; have := Option.some.inj h; simpa [World.size_alloc] using this
  have hsz : w.heap.size < w'.heap.size := by have := hg.size; rw [World.size_alloc] at this; omega
  have key : ∀ (A : Option Addr) (r : List Int), RowG w w.heap.size g A r → RowG w' w'.heap.size g' A r := by
    intro A r hr hn
    obtain ⟨b, off, e1, h1, h2, h3, hc⟩ := hr hn
    refine ⟨b, off, e1, by omega, by rcases hg' with h | h <;> omega, by omega, fun j hj => ?_⟩
    have e2 : w'.heap[b]? = (w.alloc o).heap[b]? := hg.block b (by rw [World.size_alloc]; omega) (fun e => h2 (Option.some.inj e))
    rw [World.cell?_of_block (a := ⟨b, off + j, none⟩) e2, World.cell?_alloc_lt w o _ h3]
    exact hc j hj
  refine ⟨g', cap', rfl, ⟨?_, fun f hf => ?_⟩, by omega⟩
  · rw [entCells_append, show entCells [e] = e.cells by simp [entCells], List.length_append, List.length_singleton]
    simpa using hown
  · rcases List.mem_append.1 hf with hf | hf
    · exact ⟨key _ _ (h.2 f hf).1, (h.2 f hf).2⟩
    · obtain rfl := List.mem_singleton.1 hf
      exact ⟨key _ _ he.1, he.2⟩
theorem HC.onTop {w w' : World} {lo g cap : Nat} {es : List Ent} (h : HC w lo w.heap.size g cap es) (hb : Below w.heap.size w w') : HC w' lo w'.heap.size g cap es := (h.on hb).upto
theorem HC.drewN {w : World} {lo hi g cap : Nat} {es : List Ent} (h : HC w lo hi g cap es) (n : Nat) : HC (w.drewN n) lo hi g cap es := h
theorem HC.nil (w : World) : HC (w.alloc (.cells #[] 33)) w.heap.size (w.alloc (.cells #[] 33)).heap.size w.heap.size 0 [] := ⟨empty_counts w, fun e he => by cases he⟩
theorem make_counts (n : Nat) (hn : n ≤ 1099511627776) (w : World) : (Instr.makeSlice 24 (.int .i64 0) (.int .i64 (n : Int))).run Try.prog w = .ok (.slice (some ⟨w.heap.size, 0, none⟩) 0 n) (w.alloc (.cells (madeCells #[.slice none 0 0, .int .i64 0] (n * 2)) 33)) := by
  obtain ⟨i, hi, hz, hs, hby⟩ := info_parts info_count
  have := run_make (P := Try.prog) w 24 33 i (.agg #[.slice none 0 0, .int .i64 0]) Try.underlying24 hi hz .i64 .i64 0 (n : Int) (by omega) (by omega) (by rw [hby]; omega) (by omega)
  rw [hs] at this
  simpa [Value.cells] using this
theorem HC.made (w : World) (n : Nat) (hn : n ≤ 1099511627776) : HC (w.alloc (.cells (madeCells #[.slice none 0 0, .int .i64 0] (n * 2)) 33)) w.heap.size (w.alloc (.cells (madeCells #[.slice none 0 0, .int .i64 0] (n * 2)) 33)).heap.size w.heap.size n [] :=
  ⟨World.ownsRow_made w _ n (Nat.le_refl _) (by simp only [maxLen]; omega) (size_madeCells _ _), fun e he => by cases he⟩
end Go.Proofs.Ytcfnbpofbcendab
