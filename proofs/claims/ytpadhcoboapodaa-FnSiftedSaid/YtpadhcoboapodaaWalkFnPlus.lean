/- The walk of laws.FnPlus: it returns true, whatever the code; nothing that lay has turned. -/
import Derived.Test.YtpadhcoboapodaaDrawSum
import Derived.Test.YtpadhcoboapodaaSgn2
import Derived.Test.YtpadhcoboapodaaSgn6
import Derived.Test.YtpadhcoboapodaaMark3
namespace Go.Proofs.Ytpadhcoboapodaa
open Go.RowKit

theorem plusB_no {a b : List (List Int × Int)} (h : bagOkB a = false ∨ bagOkB b = false) : plusB a b = [] := by
  unfold plusB
  rcases h with h | h <;> rw [h] <;> simp
theorem plusB_is {a b : List (List Int × Int)} (ha : bagOkB a = true) (hb : bagOkB b = true) : plusB a b = plusL a b := by
  unfold plusB; rw [ha, hb]; rfl
theorem plusB_comm (a b : List (List Int × Int)) : plusB b a = plusB a b := by
  cases ha : bagOkB a with
  | false => rw [plusB_no (.inl ha), plusB_no (.inr ha)]
  | true =>
    cases hb : bagOkB b with
    | false => rw [plusB_no (.inr hb), plusB_no (.inl hb)]
    | true => rw [plusB_is ha hb, plusB_is hb ha, plus_comm (bagOk_fit hb).1 (bagOk_fit ha).1 (by have := (bagOk_fit hb).2; omega) (by have := (bagOk_fit ha).2; omega)]
theorem minus_law {m : List (List Int × Int)} (h : bagOkB m = true) : minusB (minusB m) = m ∧ plusB m (minusB m) = [] := by
  have e : minusB m = minusL m := by unfold minusB; rw [h]; rfl
  have h' : bagOkB (minusL m) = true := by rw [bagOk_minus]; exact h
  rw [e]
  refine ⟨?_, ?_⟩
  · unfold minusB; rw [h', if_pos rfl, minus_minus]
  · rw [plusB_is h h', plus_minus (bagOk_fit h).1 (by have := (bagOk_fit h).2; omega)]
/-- What the law asks of the sum of two bags in order. -/
theorem plus_law {a b X : List (List Int × Int)} (ha : bagOkB a = true) (hb : bagOkB b = true) (hX : plusB a b = X) :
    (∀ k, k < X.length → nx X k = timesL a (rx X k) + timesL b (rx X k) ∧ nx X k ≠ 0) ∧ (∀ k, k + 1 < X.length → lessB (rx X k) (rx X (k + 1)) = true) ∧ (∀ k, k < a.length → timesL X (rx a k) = nx a k + timesL b (rx a k)) ∧
    (∀ s, -1000000 ≤ timesL a s ∧ timesL a s ≤ 1000000) ∧ (∀ s, -1000000 ≤ timesL b s ∧ timesL b s ≤ 1000000) ∧ ∀ k, k < a.length → -1000000 ≤ nx a k ∧ nx a k ≤ 1000000 := by
  obtain ⟨fa, la⟩ := bagOk_fit ha
  obtain ⟨fb, lb⟩ := bagOk_fit hb
  rw [plusB_is ha hb] at hX
  obtain ⟨p1, p2, p3⟩ := Fit.plus (by omega) (by omega) fa fb (by omega)
  rw [hX] at p1 p2 p3
  refine ⟨fun k hk => ⟨?_, ?_⟩, fun k hk => ?_, fun k hk => ?_, times_within (by omega) fa.2.2, times_within (by omega) fb.2.2, fun k hk => ?_⟩
  · rw [← times_at p1 hk, p3]
  · have := p2 X[k] (List.getElem_mem hk)
    rwa [show nx X k = X[k].2 by simp [nx, hk]]
  · have hk' : k < X.length := by omega
    rw [show rx X k = X[k].1 by simp [rx, hk'], show rx X (k + 1) = X[k + 1].1 by simp [rx, hk]]
    exact List.pairwise_iff_getElem.1 p1 k (k + 1) hk' hk (by omega)
  · rw [p3, times_at fa.1 hk]
  · have := fa.2.2 a[k] (List.getElem_mem hk)
    rwa [show nx a k = a[k].2 by simp [nx, hk]]

end Go.Proofs.Ytpadhcoboapodaa
