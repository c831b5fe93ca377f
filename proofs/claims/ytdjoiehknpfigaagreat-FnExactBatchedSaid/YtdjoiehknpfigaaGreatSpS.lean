/- A table of the model's own base set anew: three cells; nothing else turns. -/
import Derived.Test.YtdjoiehknpfigaaGreatSp1
namespace Go.Proofs.YtdjoiehknpfigaaGreat
open Go.RowKit

theorem pflat_set : ∀ (xs : List PX) (k : Nat) (_ : k < xs.length) (x : PX), pflat (xs.set k x) = (((pflat xs).set (k * 3) (.string x.t.n)).set (k * 3 + 1) (.int .i64 x.t.wd)).set (k * 3 + 2) x.u
  | y :: ys, 0, _, x => by simp [pflat, pcs]
  | y :: ys, k + 1, h, x => by
    have := pflat_set ys k (by simpa using h) x
    rw [show (k + 1) * 3 = k * 3 + 3 by omega, show k * 3 + 3 + 1 = k * 3 + 1 + 3 by omega, show k * 3 + 3 + 2 = k * 3 + 2 + 3 by omega]
    simpa [pflat, pcs] using this
/-- The table at place k of a base of the model's own set anew. -/
theorem SBs.set {w : World} {lo g n c : Nat} {xs : List PX} (h : SBs w lo (.slice (some ⟨g, 0, none⟩) n c) xs) {k : Nat} (hk : k < xs.length) (x : PX) (hx : ORows w lo x.u x.es ∧ x.es.map Ent.r = x.t.rows) :
    SBs (((w.setCell ⟨g, k * 3, none⟩ (.string x.t.n)).setCell ⟨g, k * 3 + 1, none⟩ (.int .i64 x.t.wd)).setCell ⟨g, k * 3 + 2, none⟩ x.u) lo (.slice (some ⟨g, 0, none⟩) n c) (xs.set k x) := by
  rcases h.1.2 with ⟨h1, _⟩ | ⟨g', cap, cur, hv, h2, h3, h4, h5, h6, h7⟩
  · cases h1
  · injection hv with e1 e2 e3
    injection e1 with e1
    injection e1 with e1 _ _
    subst e1 e2 e3
    have hB : Blk w g 55 cur := h3
    refine ⟨⟨by rw [pflat_length], .inr ⟨g, c, _, by rw [List.length_set], h2, ((hB.set_ _ _).set_ _ _).set_ _ _, by rw [List.length_set]; exact h4, h5, by simpa using h6, ?_⟩⟩, fun y hy => ?_⟩
    · rw [pflat_set xs k hk, ← h7, List.length_set]
      simp only [Array.toList_setIfInBounds, List.take_set]
    · rcases List.mem_or_eq_of_mem_set hy with hy | hy
      · exact ⟨(h.2 y hy).1.set3 hB _ _ _ _ _ _, (h.2 y hy).2⟩
      · rw [hy]; exact ⟨hx.1.set3 hB _ _ _ _ _ _, hx.2⟩
/-- A base made anew out of tables that lay already. -/
theorem SBs.made {w w' : World} {lo base : Nat} {v : Value} {ys : List PX} (hS : PXs w lo ys) (hb : Below w.heap.size w w') (hown : w'.ownsRow base 55 3 v ys.length (pflat ys)) (hl : lo ≤ base) : SBs w' lo v ys := ⟨own_low hown hl, hS.on hb⟩
end Go.Proofs.YtdjoiehknpfigaaGreat
