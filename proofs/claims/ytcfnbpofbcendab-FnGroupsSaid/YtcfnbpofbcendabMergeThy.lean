/- Plain facts for the program's sum: two bags in order, merged into one; it is the sum that the model tells. No program is spoken of. -/
import Derived.Test.YtcfnbpofbcendabJC
namespace Go.Proofs.Ytcfnbpofbcendab
open Go.RowKit

def mergeL : List (List Int × Int) → List (List Int × Int) → List (List Int × Int)
  | [], ys => ys
  | x :: xs, [] => x :: xs
  | x :: xs, y :: ys =>
    if lessB x.1 y.1 = true then x :: mergeL xs (y :: ys)
    else if lessB y.1 x.1 = true then y :: mergeL (x :: xs) ys
    else if x.2 + y.2 = 0 then mergeL xs ys else (x.1, x.2 + y.2) :: mergeL xs ys
termination_by xs ys => xs.length + ys.length
theorem merge_nil (ys : List (List Int × Int)) : mergeL [] ys = ys := by rw [mergeL]
theorem merge_nil' (xs : List (List Int × Int)) : mergeL xs [] = xs := by cases xs <;> rw [mergeL]
section
variable {x y : List Int × Int} {xs ys : List (List Int × Int)}
theorem merge_lt (h : lessB x.1 y.1 = true) : mergeL (x :: xs) (y :: ys) = x :: mergeL xs (y :: ys) := by rw [mergeL, if_pos h]
theorem merge_gt (h : lessB y.1 x.1 = true) : mergeL (x :: xs) (y :: ys) = y :: mergeL (x :: xs) ys := by
  rw [mergeL, if_neg (by rw [less_asymm h]; simp), if_pos h]
theorem merge_gone (h : lessB x.1 y.1 = false) (h' : lessB y.1 x.1 = false) (h0 : x.2 + y.2 = 0) : mergeL (x :: xs) (y :: ys) = mergeL xs ys := by
  rw [mergeL, if_neg (by simp [h]), if_neg (by simp [h']), if_pos h0]
theorem merge_both (h : lessB x.1 y.1 = false) (h' : lessB y.1 x.1 = false) (h0 : ¬ x.2 + y.2 = 0) : mergeL (x :: xs) (y :: ys) = (x.1, x.2 + y.2) :: mergeL xs ys := by
  rw [mergeL, if_neg (by simp [h]), if_neg (by simp [h']), if_neg h0]
end
theorem sb_head {r : List Int} {m : Int} {bs : List (List Int × Int)} (h : SB ((r, m) :: bs)) {s : List Int} (hs : lessB s r = true) : timesL ((r, m) :: bs) s = 0 := by
  rw [timesL, if_neg (less_ne hs).symm]
  exact timesL_zero (sb_behind h (.inl hs))
theorem merge_facts : ∀ (n : Nat) (a b : List (List Int × Int)), a.length + b.length ≤ n → SB a → SB b → NZ a → NZ b →
    SB (mergeL a b) ∧ NZ (mergeL a b) ∧ (∀ s, timesL (mergeL a b) s = timesL a s + timesL b s) ∧ (∀ s, (∀ p ∈ a, lessB s p.1 = true) → (∀ p ∈ b, lessB s p.1 = true) → ∀ p ∈ mergeL a b, lessB s p.1 = true)
  | _, [], b, _, _, h2, _, h4 => by
    rw [merge_nil]
    exact ⟨h2, h4, fun s => by simp [timesL], fun s _ h => h⟩
  | _, x :: xs, [], _, h1, _, h3, _ => by
    rw [merge_nil']
    exact ⟨h1, h3, fun s => by simp [timesL], fun s h _ => h⟩
  | 0, x :: xs, y :: ys, hn, _, _, _, _ => by simp at hn
  | n + 1, (r, m) :: xs, (r', m') :: ys, hn, h1, h2, h3, h4 => by
    obtain ⟨ha, hxs⟩ := List.pairwise_cons.1 h1
    obtain ⟨hb, hys⟩ := List.pairwise_cons.1 h2
    have hnx : NZ xs := fun p hp => h3 p (List.mem_cons_of_mem _ hp)
    have hny : NZ ys := fun p hp => h4 p (List.mem_cons_of_mem _ hp)
    simp only [List.length_cons] at hn
    simp only at ha hb
    rcases less_tri r r' with e | e | e
    · obtain ⟨i1, i2, i3, i4⟩ := merge_facts n xs ((r', m') :: ys) (by simp only [List.length_cons]; omega) hxs h2 hnx h4
      rw [merge_lt (by exact e)]
      refine ⟨List.pairwise_cons.2 ⟨i4 r ha fun p hp => ?_, i1⟩, fun p hp => ?_, fun s => ?_, fun s k1 k2 p hp => ?_⟩
      · rcases List.mem_cons.1 hp with rfl | hp
        · exact e
        · exact less_trans e (hb p hp)
      · rcases List.mem_cons.1 hp with rfl | hp
        · exact h3 _ (by simp)
        · exact i2 p hp
      · rw [timesL, i3]
        by_cases es : r = s
        · subst es
          rw [if_pos rfl, sb_head h2 e, timesL, if_pos rfl]; omega
        · have et : timesL ((r, m) :: xs) s = timesL xs s := by rw [timesL, if_neg es]
          rw [if_neg es, et]
      · rcases List.mem_cons.1 hp with rfl | hp
        · exact k1 _ (by simp)
        · exact i4 s (fun q hq => k1 q (List.mem_cons_of_mem _ hq)) k2 p hp
    · subst e
      obtain ⟨i1, i2, i3, i4⟩ := merge_facts n xs ys (by omega) hxs hys hnx hny
      have hz1 : timesL xs r = 0 := timesL_zero (sb_behind h1 (.inr rfl))
      have hz2 : timesL ys r = 0 := timesL_zero (sb_behind h2 (.inr rfl))
      have i4' : ∀ s, (∀ p ∈ (r, m) :: xs, lessB s p.1 = true) → (∀ p ∈ (r, m') :: ys, lessB s p.1 = true) → ∀ p ∈ mergeL xs ys, lessB s p.1 = true := fun s k1 k2 p hp =>
        i4 s (fun q hq => k1 q (List.mem_cons_of_mem _ hq)) (fun q hq => k2 q (List.mem_cons_of_mem _ hq)) p hp
      by_cases h0 : m + m' = 0
      · rw [merge_gone (by exact less_irrefl r) (by exact less_irrefl r) (by exact h0)]
        refine ⟨i1, i2, fun s => ?_, i4'⟩
        rw [i3, timesL, timesL]
        by_cases es : r = s
        · subst es
          rw [if_pos rfl, if_pos rfl, hz1, hz2]; omega
        · rw [if_neg es, if_neg es]
      · rw [merge_both (by exact less_irrefl r) (by exact less_irrefl r) (by exact h0)]
        refine ⟨List.pairwise_cons.2 ⟨i4 r ha hb, i1⟩, fun p hp => ?_, fun s => ?_, fun s k1 k2 p hp => ?_⟩
        · rcases List.mem_cons.1 hp with rfl | hp
          · exact h0
          · exact i2 p hp
        · rw [timesL, i3, timesL, timesL]
          by_cases es : r = s
          · rw [if_pos es, if_pos es, if_pos es]
          · rw [if_neg es, if_neg es, if_neg es]
        · rcases List.mem_cons.1 hp with rfl | hp
          · exact k1 (r, m) (by simp)
          · exact i4' s k1 k2 p hp
    · obtain ⟨i1, i2, i3, i4⟩ := merge_facts n ((r, m) :: xs) ys (by simp only [List.length_cons]; omega) h1 hys h3 hny
      rw [merge_gt (by exact e)]
      refine ⟨List.pairwise_cons.2 ⟨i4 r' (fun p hp => ?_) hb, i1⟩, fun p hp => ?_, fun s => ?_, fun s k1 k2 p hp => ?_⟩
      · rcases List.mem_cons.1 hp with rfl | hp
        · exact e
        · exact less_trans e (ha p hp)
      · rcases List.mem_cons.1 hp with rfl | hp
        · exact h4 _ (by simp)
        · exact i2 p hp
      · rw [timesL, i3]
        by_cases es : r' = s
        · subst es
          rw [if_pos rfl, sb_head h1 e, timesL, if_pos rfl]; omega
        · have et : timesL ((r', m') :: ys) s = timesL ys s := by rw [timesL, if_neg es]
          rw [if_neg es, et]
      · rcases List.mem_cons.1 hp with rfl | hp
        · exact k2 _ (by simp)
        · exact i4 s k1 (fun q hq => k2 q (List.mem_cons_of_mem _ hq)) p hp
theorem merge_plus {a b : List (List Int × Int)} (ha : Fit 1000000 a) (hb : Fit 1000000 b) (hlb : b.length ≤ 1000) : mergeL a b = plusL a b := by
  obtain ⟨p1, p2, p3, _⟩ := merge_facts _ a b (Nat.le_refl _) ha.1 hb.1 ha.2.1 hb.2.1
  obtain ⟨q1, q2, q3⟩ := Fit.plus (by omega) (by omega) ha hb hlb
  exact canon p1 q1 p2 q2 fun s => by rw [p3, q3]
theorem minus_length (a : List (List Int × Int)) : (minusL a).length = a.length := by simp [minusL]
theorem ok_minus : ∀ {a : List (List Int × Int)} {p : Option (List Int)}, okFrom p (minusL a) = okFrom p a
  | [], _ => rfl
  | (r, n) :: bs, p => by
    have ih := ok_minus (a := bs) (p := some r)
    have e : minusL ((r, n) :: bs) = (r, -n) :: minusL bs := rfl
    rw [e]
    simp only [okFrom, ih]
    have h1 : (-n != 0) = (n != 0) := by
      by_cases h : n = 0
      · subst h; rfl
      · have a1 : (n != 0) = true := by simpa using h
        have a2 : (-n != 0) = true := by simp; omega
        rw [a1, a2]
    have h2 : inB (-n) (-1000000) 1000000 = inB n (-1000000) 1000000 := by
      unfold inB
      by_cases ha : -1000000 ≤ n <;> by_cases hb : n ≤ 1000000
      · rw [decide_eq_true ha, decide_eq_true hb, decide_eq_true (show -1000000 ≤ -n by omega), decide_eq_true (show -n ≤ 1000000 by omega)]
      · rw [decide_eq_true ha, decide_eq_false hb, decide_eq_false (show ¬ -1000000 ≤ -n by omega), decide_eq_true (show -n ≤ 1000000 by omega)]; rfl
      · rw [decide_eq_false ha, decide_eq_true hb, decide_eq_true (show -1000000 ≤ -n by omega), decide_eq_false (show ¬ -n ≤ 1000000 by omega)]; rfl
      · omega
    rw [h1, h2]
theorem bagOk_minus (a : List (List Int × Int)) : bagOkB (minusL a) = bagOkB a := by
  unfold bagOkB; rw [ok_minus, minus_length]
end Go.Proofs.Ytcfnbpofbcendab
