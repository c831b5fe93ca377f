/- Contracts of the program's Plus and Change: an own bag that reads as told; nothing that lay has turned. -/
import Derived.Test.YtpadhcoboapodaaSgn5
namespace Go.Proofs.Ytpadhcoboapodaa
open Go.RowKit

theorem OwnB.low {bag : List (List Int × Int)} {w0 w : World} {e : Ending} {w' : World} (h : OwnB bag w e w') (hb : Below w0.heap.size w0 w) : OwnB bag w0 e w' := by
  obtain ⟨v, es, he, hO, hp, hb'⟩ := h
  exact ⟨v, es, he, hO.lower hb.size, hp, hb.trans (hb'.mono hb.size)⟩
theorem plusB_yes {a b : List (List Int × Int)} (ha : bagOkB a = true) (hb : bagOkB b = true) : plusB a b = mergeL a b := by
  have fa := bagOk_fit ha
  have fb := bagOk_fit hb
  unfold plusB
  rw [ha, hb, merge_plus fa.1 fb.1 (by omega)]
  rfl
theorem merge_rows {m : Nat} {a b : List (List Int × Int)} (ha : bagOkB a = true) (hb : bagOkB b = true) (h1 : ∀ p ∈ a, p.1.length ≤ m) (h2 : ∀ p ∈ b, p.1.length ≤ m) : ∀ p ∈ mergeL a b, p.1.length ≤ m := by
  rw [merge_plus (bagOk_fit ha).1 (bagOk_fit hb).1 (by have := (bagOk_fit hb).2; omega)]
  exact plus_rows h1 h2

end Go.Proofs.Ytpadhcoboapodaa
