/- Words for the walks of chapter 4's laws: a table in a variable's block; its own rows; all of it behind calls that make memory only. -/
import Derived.Test.YtoncfodlffofdaaTabM
import Derived.Test.YtoncfodlffofdaaTab8
import Derived.Test.YtoncfodlffofdaaTabOpen
namespace Go.Proofs.Ytoncfodlffofdaa
open Go.RowKit

theorem Blk.c3 {w : World} {G : Nat} {t : TypeId} {a b c : Value} (h : Blk w G t #[a, b, c]) : w.cell? ⟨G, 0, none⟩ = some a ∧ w.cell? ⟨G, 1, none⟩ = some b ∧ w.cell? ⟨G, 2, none⟩ = some c := by
  have d0 := h.cell 0
  have d1 := h.cell 1
  have d2 := h.cell 2
  simp only [List.getElem?_toArray, List.getElem?_cons_zero, List.getElem?_cons_succ] at d0 d1 d2
  exact ⟨d0, d1, d2⟩
theorem Blk.on {w w' : World} {G : Nat} {t : TypeId} {cs : Array Value} (h : Blk w G t cs) (hb : Below w.heap.size w w') : Blk w' G t cs := h.below hb h.lt
theorem ORows.wrin {w : World} {lo : Nat} {v : Value} {es : List Ent} (h : ORows w lo v es) : RIn w lo w.heap.size v es := h.weak.rin
theorem Row.within {w w' : World} {t : TypeId} {A : Option Addr} {zs : List Int} {g lo hi : Nat} (h : Row w t A zs g) (hw : Within lo hi w w') (ha : 0 < zs.length → g < lo ∨ hi ≤ g) : Row w' t A zs g := fun hn => by
  obtain ⟨hA, cur, hc, hj⟩ := h hn
  exact ⟨hA, cur, (hw.block g (h.lt hn) (by have := ha hn; omega)).trans hc, hj⟩
/-- Own rows that are marked read as the marks. -/
theorem RIn.rwsK {w : World} {lo hi n c : Nat} {A : Option Addr} {es : List Ent} {k : Int} (h : RIn w lo hi (.slice A n c) (mkTo k es n)) (hl : ∀ e ∈ es, e.r.length ≤ 1099511627776) : Rws w w.heap.size A ((mkTo k es n).map Ent.r) := by
  refine WRows.rws h.1 fun e he => ?_
  obtain ⟨j, hj, rfl⟩ := List.getElem_of_mem he
  have hj' : j < es.length := by rw [mkTo_length] at hj; exact hj
  rw [(mkTo_gr hj' hj).2]
  exact hl _ (List.getElem_mem hj')
end Go.Proofs.Ytoncfodlffofdaa
