/- The contract of the program's BagOf: the bag of its rows in memory of its own; nothing that lay has turned. For slices of at most 2^20 rows, each of at most 2^40. -/
import Derived.Test.YtoncfodlffofdaaHeap4
import Derived.Test.YtoncfodlffofdaaBagOf1
namespace Go.Proofs.Ytoncfodlffofdaa
open Go.RowKit

theorem make_heap (n : Nat) (hn : n ≤ 1099511627776) (w : World) : (Instr.makeSlice 123 (.int .i64 0) (.int .i64 (n : Int))).run Try.prog w = .ok (.slice (some ⟨w.heap.size, 0, none⟩) 0 n) (w.alloc (.cells (madeCells #[.slice none 0 0, .int .i64 0] (n * 2)) 34)) := by
  obtain ⟨i, hi, hz, hs, hby⟩ := info_parts info_count
  have := run_make (P := Try.prog) w 123 34 i (.agg #[.slice none 0 0, .int .i64 0]) Try.underlying123 hi hz .i64 .i64 0 (n : Int) (by omega) (by omega) (by rw [hby]; omega) (by omega)
  rw [hs] at this
  simpa [Value.cells] using this
/-- The heap with one more count. -/
theorem HC.push {w w' : World} {lo g cap : Nat} {es : List Ent} {v' : Value} {e : Ent} {o : Obj} (h : HC w lo g cap es) (hg : (w.alloc o).grownBy w' (some g)) (hown : w'.ownsRow lo 34 2 v' (es.length + 1) (entCells es ++ e.cells)) (hat : v'.ownBlock = some g ∨ v'.ownBlock = some (w.alloc o).heap.size)
    (he : Ints w lo e.A e.r ∧ e.r.length ≤ 1099511627776 ∧ e.n = 1) : ∃ g' cap', v' = .slice (some ⟨g', 0, none⟩) (es ++ [e]).length cap' ∧ HC w' lo g' cap' (es ++ [e]) := by
  obtain ⟨g', hv⟩ : ∃ g', v'.ownBlock = some g' := by
    rcases hat with h | h
    · exact ⟨_, h⟩
    · exact ⟨_, h⟩
  have hform : ∃ cap', v' = .slice (some ⟨g', 0, none⟩) (es ++ [e]).length cap' := by
    rcases hown.2 with ⟨rfl, _⟩ | ⟨g2, cap2, cur, rfl, _⟩
    · cases hv
    · have e2 : g2 = g' := Option.some.inj hv
      subst e2
      exact ⟨cap2, by simp⟩
  obtain ⟨cap', rfl⟩ := hform
  have hlt := h.lt
  have hk : ∀ p : Addr, p.block < lo → w'.cell? p = w.cell? p := fun p hp => by
    have e1 : w'.heap[p.block]? = (w.alloc o).heap[p.block]? := hg.block _ (by rw [World.size_alloc]; omega) (fun e => by have := Option.some.inj e; omega)
    rw [World.cell?_of_block e1, World.cell?_alloc_lt w o p (by omega)]
  refine ⟨g', cap', rfl, ?_, fun f hf => ?_⟩
  · rw [entCells_append, show entCells [e] = e.cells by simp [entCells], List.length_append, List.length_singleton]
    simpa using hown
  · rcases List.mem_append.1 hf with hf | hf
    · exact ⟨(h.2 f hf).1.keep hk, (h.2 f hf).2⟩
    · obtain rfl := List.mem_singleton.1 hf
      exact ⟨he.1.keep hk, he.2⟩
/-- The variable set anew. -/
theorem HP.put {w : World} {lo p g cap : Nat} {es : List Ent} {cs : Array Value} (hB : Blk w p 123 cs) (hs : cs.size = 1) (hp : lo ≤ p) (hne : p ≠ g) (hc : HC w lo g cap es) : HP (w.setCell ⟨p, 0, none⟩ (.slice (some ⟨g, 0, none⟩) es.length cap)) lo p g cap es := by
  refine ⟨?_, hp, own_keepB hc.1 fun r e => Below.heap_setCell _ _ _ _ (fun e2 => hne ((Option.some.inj e).trans e2).symm), fun e he => ⟨(hc.2 e he).1.keep fun q hq => World.cell?_setCell_other _ _ _ _ (fun e2 => by subst e2; simp at hq; omega), (hc.2 e he).2⟩⟩
  have := hB.set_ 0 (.slice (some ⟨g, 0, none⟩) es.length cap)
  have e1 : cs.setIfInBounds 0 (.slice (some ⟨g, 0, none⟩) es.length cap) = #[.slice (some ⟨g, 0, none⟩) es.length cap] := by
    apply Array.ext_getElem?
    intro i
    rw [Array.getElem?_setIfInBounds]
    by_cases h0 : 0 = i
    · subst h0; simp [hs]
    · rw [if_neg h0, Array.getElem?_eq_none (by omega), Array.getElem?_eq_none (by simp; omega)]
  rwa [e1] at this

/-- The program's bag while the heap is emptied: the rows that came out, in order. -/
theorem last_same {pre : List (List Int)} {r : List Int} (hl : pre.length ≤ 1048576) (hlast : ∀ p ∈ bagOfL pre, lessB r p.1 = false) {m : Nat} (hm : (bagOfL pre).length = m + 1) (he : rx (bagOfL pre) m = r) :
    withL (bagOfL pre) r 1 = (bagOfL pre).take m ++ (r, addW (nx (bagOfL pre) m) 1) :: (bagOfL pre).drop (m + 1) := by
  obtain ⟨h1, h2, h3⟩ := bagOf_facts pre (by omega)
  have hml : m < (bagOfL pre).length := by omega
  have hp : placeL (bagOfL pre) r = m := by
    have hpl := place_le (bagOfL pre) r
    have key : ∀ (b : List (List Int × Int)) (k : Nat), SB b → k < b.length → rx b k = r → placeL b r = k := by
      intro b
      induction b with
      | nil => intro k _ hk; simp at hk
      | cons x bs ih =>
        obtain ⟨q, n⟩ := x
        intro k hs hk hr
        cases k with
        | zero =>
          have : q = r := by simpa [rx] using hr
          subst this
          simp [placeL, less_irrefl]
        | succ k =>
          have hk' : k < bs.length := by simpa using hk
          have e1 : rx ((q, n) :: bs) (k + 1) = rx bs k := by simp [rx]
          rw [e1] at hr
          have hmem : (rx bs k, nx bs k) ∈ bs := by rw [← bag_ix hk']; exact List.getElem_mem hk'
          have hq := (List.pairwise_cons.1 hs).1 _ hmem
          simp only [hr] at hq
          rw [placeL, if_pos hq, ih k (List.pairwise_cons.1 hs).2 hk' hr]
    exact key _ m h1 hml he
  have hn : ¬ addW (nx (bagOfL pre) m) 1 = 0 := by
    have ht := times_at h1 hml
    rw [he, h3] at ht
    have hb := occ_bd pre r
    have hz : nx (bagOfL pre) m ≠ 0 := by
      have hmem : (rx (bagOfL pre) m, nx (bagOfL pre) m) ∈ bagOfL pre := by rw [← bag_ix hml]; exact List.getElem_mem hml
      exact h2 _ hmem
    rw [addW_small (by omega) (by omega) (by omega) (by omega)]
    omega
  exact withL_same hp hml he hn
theorem last_new {pre : List (List Int)} {r : List Int} (hl : pre.length ≤ 1048576) (hlast : ∀ p ∈ bagOfL pre, lessB r p.1 = false) (hne : ∀ m, (bagOfL pre).length = m + 1 → ¬ rx (bagOfL pre) m = r) :
    withL (bagOfL pre) r 1 = bagOfL pre ++ [(r, 1)] := by
  obtain ⟨h1, h2, h3⟩ := bagOf_facts pre (by omega)
  have key : ∀ (b : List (List Int × Int)), SB b → (∀ p ∈ b, lessB r p.1 = false) → (∀ m, b.length = m + 1 → ¬ rx b m = r) → placeL b r = b.length := by
    intro b
    induction b with
    | nil => intros; rfl
    | cons x bs ih =>
      obtain ⟨q, n⟩ := x
      intro hs hle hne
      have hq : lessB q r = true := by
        rcases less_tri q r with e | e | e
        · exact e
        · exfalso
          rcases Nat.eq_zero_or_pos bs.length with h0 | h0
          · exact hne 0 (by simp [h0]) (by simpa [rx] using e)
          · have hmem : (rx bs 0, nx bs 0) ∈ bs := by rw [← bag_ix h0]; exact List.getElem_mem h0
            have := (List.pairwise_cons.1 hs).1 _ hmem
            have h4 := hle _ (List.mem_cons_of_mem _ hmem)
            simp only at this h4
            rw [e] at this
            rw [this] at h4; cases h4
        · have := hle (q, n) (by simp)
          simp only at this
          rw [e] at this; cases this
      rw [placeL, if_pos hq, ih (List.pairwise_cons.1 hs).2 (fun p hp => hle p (List.mem_cons_of_mem _ hp)) (fun m hm hr => hne (m + 1) (by simp [hm]) (by simpa [rx] using hr))]
      rfl
  have hp := key _ h1 hlast hne
  rw [withL_new hp (fun h => by omega) (by decide), List.take_length, List.drop_length]
end Go.Proofs.Ytoncfodlffofdaa
