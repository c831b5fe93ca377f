/- The contract of the laws' markCountS from a number up to 2^49 on; how the answers of stage 3 are sized. -/
import Derived.Test.YtcfnbpofbcendabJB
import Derived.Test.YtcfnbpofbcendabSum3
namespace Go.Proofs.Ytcfnbpofbcendab
open Go.RowKit

theorem kAt_more {k : Int} {es : List Ent} (hk0 : 0 ≤ k) (hk1 : k ≤ 562949953421312) (hm : ∀ e ∈ es, e.r.length ≤ 2097152) (i : Nat) (hi : i ≤ 2097152) : 0 ≤ kAt k es i ∧ kAt k es i ≤ k + 4398048608256 := by
  have := kAt_bd (k := k) hm i
  have e : (((2097152 : Nat) : Int) + 1) = 2097153 := rfl
  rw [e] at this
  omega
/-- The bag of an own bag whose counts are marked. -/
theorem OIn.bagK {w : World} {lo hi n c : Nat} {A : Option Addr} {es : List Ent} {k : Int} (h : OIn w lo hi (.slice A n c) (markTo k es n)) (hl : ∀ e ∈ es, e.r.length ≤ 1099511627776) : Bag w w.heap.size A ((markTo k es n).map Ent.pair) := by
  refine OBag.bag h.1 fun e he => ?_
  obtain ⟨j, hj, rfl⟩ := List.getElem_of_mem he
  have hj' : j < es.length := by rw [markTo_length] at hj; exact hj
  rw [(markTo_gr hj' hj).2]
  exact hl _ (List.getElem_mem hj')
theorem OwnBag.b {bag : List (List Int × Int)} {w : World} {e : Ending} {w' : World} (h : OwnBag w.heap.size bag w e w') : OwnB bag w e w' := by
  obtain ⟨g, cap, es, he, hO, hp, hb⟩ := h
  exact ⟨_, es, he, hO, hp, hb⟩
theorem minus_rows {m : Nat} {a : List (List Int × Int)} (h : ∀ p ∈ a, p.1.length ≤ m) : ∀ p ∈ minusL a, p.1.length ≤ m := fun p hp => by
  obtain ⟨q, hq, rfl⟩ := List.mem_map.1 hp
  exact h q hq
theorem minusB_fit {m : Nat} {a : List (List Int × Int)} (h : ∀ j, j < a.length → (rx a j).length ≤ m) : (minusB a).length ≤ a.length ∧ ∀ j, j < (minusB a).length → (rx (minusB a) j).length ≤ m := by
  unfold minusB
  split
  · exact ⟨by rw [minus_length]; exact Nat.le_refl _, rows_mem.2 (minus_rows (rows_mem.1 h))⟩
  · exact ⟨Nat.zero_le _, fun j hj => absurd hj (by simp)⟩
theorem plusB_fit {m : Nat} {a b : List (List Int × Int)} (ha : ∀ j, j < a.length → (rx a j).length ≤ m) (hb : ∀ j, j < b.length → (rx b j).length ≤ m) : (plusB a b).length ≤ a.length + b.length ∧ ∀ j, j < (plusB a b).length → (rx (plusB a b) j).length ≤ m := by
  unfold plusB
  split
  · exact ⟨plus_length b a, rows_mem.2 (plus_rows (rows_mem.1 ha) (rows_mem.1 hb))⟩
  · exact ⟨Nat.zero_le _, fun j hj => absurd hj (by simp)⟩
theorem changeB_fit {m : Nat} {a b : List (List Int × Int)} (ha : ∀ j, j < a.length → (rx a j).length ≤ m) (hb : ∀ j, j < b.length → (rx b j).length ≤ m) : (changeB a b).length ≤ a.length + b.length ∧ ∀ j, j < (changeB a b).length → (rx (changeB a b) j).length ≤ m := by
  unfold changeB changeL
  split
  · refine ⟨?_, rows_mem.2 (plus_rows (rows_mem.1 hb) (minus_rows (rows_mem.1 ha)))⟩
    have := plus_length (minusL a) b
    rw [minus_length] at this
    omega
  · exact ⟨Nat.zero_le _, fun j hj => absurd hj (by simp)⟩
end Go.Proofs.Ytcfnbpofbcendab
