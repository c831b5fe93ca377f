/- The contract of the laws' markCountS from a number up to 2^49 on; how the answers of stage 3 are sized. -/
import Derived.Test.YtcfnbpofbcendaaJB
import Derived.Test.YtcfnbpofbcendaaSum3
namespace Go.Proofs.Ytcfnbpofbcendaa
open Go.RowKit

theorem kAt_more {k : Int} {es : List Ent} (hk0 : 0 ≤ k) (hk1 : k ≤ 562949953421312) (hm : ∀ e ∈ es, e.r.length ≤ 2097152) (i : Nat) (hi : i ≤ 2097152) : 0 ≤ kAt k es i ∧ kAt k es i ≤ k + 4398048608256 := by
  have := kAt_bd (k := k) hm i
  have e : (((2097152 : Nat) : Int) + 1) = 2097153 := rfl
  rw [e] at this
  omega
set_option maxRecDepth 100000 in
set_option maxHeartbeats 1000000 in
theorem markCountS_more (lo hi : Nat) (A : Option Addr) (n c : Nat) (es : List Ent) (k : Int) (w : World) (hO : OIn w lo hi (.slice A n c) es) (hl : n ≤ 2097152) (hm : ∀ e ∈ es, e.r.length ≤ 2097152) (hk0 : 0 ≤ k) (hk1 : k ≤ 562949953421312) :
    Calls Try.prog 14 #[.slice A n c, .int .i64 k] w fun e w' => e = .returned (.int .i64 (kAt k es n)) ∧ OIn w' lo hi (.slice A n c) (markTo k es n) ∧ Within lo hi w w' := by
  have hnl := hO.1.len
  have HNL := Lib.hid hnl
  have HM := Lib.hid hm
  clear hm hnl
  go_enter Try.func14, Try.ntmps14
  go_wp2
  go_loopw [1, 5] (fun q s wr => ∃ i : Nat, i ≤ n ∧ s = .int .i64 i ∧ q = .int .i64 (kAt k es i) ∧ OIn wr lo hi (.slice A n c) (markTo k es i) ∧ Within lo hi w wr) (fun _ s _ => n - (intOf s).toNat)
  case atStart => exact ⟨0, Nat.zero_le _, rfl, rfl, by rw [markTo_zero]; exact hO, Within.refl _ _ _⟩
  case round =>
    obtain ⟨i, hi, rfl, rfl, hOr, hWr⟩ := hrel
    clear hO
    by_cases hlt : i < n
    · obtain ⟨g, rfl⟩ := hOr.1.at0 (by omega)
      have hie : i < es.length := by have := HNL.out; omega
      have hil : i < (markTo k es i).length := by rw [markTo_length]; exact hie
      obtain ⟨h1, _, _⟩ := hOr.1.cellsAt hil
      rw [markTo_get hie hil, if_neg (Nat.lt_irrefl _)] at h1
      obtain ⟨hRi, _⟩ := hOr.1.2.1 (markTo k es i)[i] (List.getElem_mem hil)
      rw [markTo_get hie hil, if_neg (Nat.lt_irrefl _)] at hRi
      obtain ⟨g', hg'⟩ : ∃ g', g' = if es[i].r.length = 0 then wr.heap.size else es[i].g := ⟨_, rfl⟩
      have hRg : Row wr 2 es[i].A es[i].r g' := by
        intro hn
        rw [hg', if_neg (by omega)]
        exact hRi hn
      have HG := Lib.hid hg'
      have hml := HM.out es[i] (List.getElem_mem hie)
      obtain ⟨hf0, hf1⟩ := kAt_more hk0 hk1 HM.out i (by omega)
      clear hg' hRi
      go_wp2_with fail
      refine (markInt64S_any es[i].A es[i].c g' es[i].r (kAt k es i) wr hRg (by omega) hf0 (by omega)).mono ?_
      rintro e w1 ⟨rfl, hR1, hg1⟩
      obtain ⟨u, hc, hfz, hO2, hW2⟩ := mark_step hOr hie HG.out hR1 hg1
      have hW3 := hWr.trans hW2
      have hk2 : kAt k es (i + 1) = kAt k es i + (es[i].r.length : Int) + 1 := by simp only [kAt]; rw [rl_eq hie]
      have HK2 := Lib.hid hk2
      clear hk2 hR1 hg1 hOr hWr hW2 hRg h1
      go_wp2
      go_roundw
      case rel => exact ⟨i + 1, by omega, by go_num, by rw [HK2.out], hO2, hW3⟩
      case measure => simp [intOf]; omega
    · have hd : decide (i < n) = false := by simpa using hlt
      have hin : i = n := by omega
      go_wp2
      go_ret
      subst hin
      exact ⟨rfl, hOr, hWr⟩


/-- The bag of an own bag whose counts are marked. -/
theorem OIn.bagK {w : World} {lo hi n c : Nat} {A : Option Addr} {es : List Ent} {k : Int} (h : OIn w lo hi (.slice A n c) (markTo k es n)) (hl : ∀ e ∈ es, e.r.length ≤ 1099511627776) : Bag w w.heap.size A ((markTo k es n).map Ent.pair) := by
  refine OBag.bag h.1 fun e he => ?_
  obtain ⟨j, hj, rfl⟩ := List.getElem_of_mem he
  have hj' : j < es.length := by rw [markTo_length] at hj; exact hj
  rw [(markTo_gr hj' hj).2]
  exact hl _ (List.getElem_mem hj')
theorem OwnBag.b {bag : List (List Int × Int)} {w : World} {e : Ending} {w' : World} (h : OwnBag w.heap.size bag w e w') : OwnB bag w e w' := by
  obtain ⟨g, cap, es, he, hO, hp, hb⟩ := h
  exact ⟨_, es, he, hO, hp, hb⟩
theorem minus_rows {m : Nat} {a : List (List Int × Int)} (h : ∀ p ∈ a, p.1.length ≤ m) : ∀ p ∈ minusL a, p.1.length ≤ m := fun p hp => by
  obtain ⟨q, hq, rfl⟩ := List.mem_map.1 hp
  exact h q hq
theorem minusB_fit {m : Nat} {a : List (List Int × Int)} (h : ∀ j, j < a.length → (rx a j).length ≤ m) : (minusB a).length ≤ a.length ∧ ∀ j, j < (minusB a).length → (rx (minusB a) j).length ≤ m := by
  unfold minusB
  split
  · exact ⟨by rw [minus_length]; exact Nat.le_refl _, rows_mem.2 (minus_rows (rows_mem.1 h))⟩
  · exact ⟨Nat.zero_le _, fun j hj => absurd hj (by simp)⟩
theorem plusB_fit {m : Nat} {a b : List (List Int × Int)} (ha : ∀ j, j < a.length → (rx a j).length ≤ m) (hb : ∀ j, j < b.length → (rx b j).length ≤ m) : (plusB a b).length ≤ a.length + b.length ∧ ∀ j, j < (plusB a b).length → (rx (plusB a b) j).length ≤ m := by
  unfold plusB
  split
  · exact ⟨plus_length b a, rows_mem.2 (plus_rows (rows_mem.1 ha) (rows_mem.1 hb))⟩
  · exact ⟨Nat.zero_le _, fun j hj => absurd hj (by simp)⟩
theorem changeB_fit {m : Nat} {a b : List (List Int × Int)} (ha : ∀ j, j < a.length → (rx a j).length ≤ m) (hb : ∀ j, j < b.length → (rx b j).length ≤ m) : (changeB a b).length ≤ a.length + b.length ∧ ∀ j, j < (changeB a b).length → (rx (changeB a b) j).length ≤ m := by
  unfold changeB changeL
  split
  · refine ⟨?_, rows_mem.2 (plus_rows (rows_mem.1 hb) (minus_rows (rows_mem.1 ha)))⟩
    have := plus_length (minusL a) b
    rw [minus_length] at this
    omega
  · exact ⟨Nat.zero_le _, fun j hj => absurd hj (by simp)⟩
end Go.Proofs.Ytcfnbpofbcendaa
