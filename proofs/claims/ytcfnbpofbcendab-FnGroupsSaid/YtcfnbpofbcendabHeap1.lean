/- Plain facts on a heap of counts in a list: what a sift down keeps, what it brings; the first is the least. No condition; nothing of the program is named. -/
import Derived.Test.YtcfnbpofbcendabJC
namespace Go.Proofs.Ytcfnbpofbcendab
open Go.RowKit

def noEnt : Ent := ⟨[], 0, none, 0, 0⟩
def ex (es : List Ent) (i : Nat) : Ent := es[i]?.getD noEnt
theorem ex_eq {es : List Ent} {i : Nat} (h : i < es.length) : ex es i = es[i] := by simp [ex, h]
def kx (es : List Ent) (i : Nat) : List Int := (ex es i).r
def swp (es : List Ent) (i j : Nat) : List Ent := (es.set i (ex es j)).set j (ex es i)
theorem swp_length (es : List Ent) (i j : Nat) : (swp es i j).length = es.length := by simp [swp]
theorem ex_swp {es : List Ent} {i j : Nat} (hi : i < es.length) (hj : j < es.length) (k : Nat) : ex (swp es i j) k = if k = j then ex es i else if k = i then ex es j else ex es k := by
  unfold swp ex
  rw [List.getElem?_set, List.getElem?_set]
  by_cases e1 : k = j
  · subst e1
    rw [if_pos rfl, if_pos rfl, if_pos (by simpa using hj)]
    rfl
  · rw [if_neg (Ne.symm e1), if_neg e1]
    by_cases e2 : k = i
    · subst e2
      rw [if_pos rfl, if_pos rfl, if_pos hi]
      rfl
    · rw [if_neg (Ne.symm e2), if_neg e2]
theorem swp_perm {es : List Ent} {i j : Nat} (hi : i < es.length) (hj : j < es.length) : (swp es i j).Perm es := by
  have e : swp es i j = (es.set i es[j]).set j es[i] := by unfold swp; rw [ex_eq hi, ex_eq hj]
  rw [e]
  by_cases hij : i = j
  · subst hij
    simp
  · rcases Nat.lt_or_ge i j with h | h
    · have h1 : es = es.take i ++ es[i] :: (es.drop (i + 1)).take (j - i - 1) ++ es[j] :: es.drop (j + 1) := by
        have a1 := (List.take_append_drop i es).symm
        have a2 := List.drop_eq_getElem_cons hi
        have a3 := (List.take_append_drop (j - i - 1) (es.drop (i + 1))).symm
        rw [List.drop_drop, show i + 1 + (j - i - 1) = j by omega, List.drop_eq_getElem_cons hj] at a3
        rw [a2, a3] at a1
        simpa using a1
      have hl1 : (es.take i).length = i := by simp; omega
      have hl2 : ((es.drop (i + 1)).take (j - i - 1)).length = j - i - 1 := by simp; omega
      have h2 : (es.set i es[j]).set j es[i] = es.take i ++ es[j] :: (es.drop (i + 1)).take (j - i - 1) ++ es[i] :: es.drop (j + 1) := by
        apply List.ext_getElem?
        intro k
        rw [List.getElem?_set, List.getElem?_set]
        simp only [List.append_assoc, List.cons_append, List.length_set]
        by_cases c1 : k < i
        · rw [if_neg (by omega), if_neg (by omega), List.getElem?_append_left (by omega), List.getElem?_take, if_pos c1]
        · rw [List.getElem?_append_right (by omega), hl1]
          by_cases c2 : k = i
          · subst c2; rw [if_neg (by omega), if_pos rfl, if_pos hi]; simp
          · obtain ⟨d, hd⟩ : ∃ d, k - i = d + 1 := ⟨k - i - 1, by omega⟩
            rw [hd, List.getElem?_cons_succ]
            by_cases c3 : k < j
            · rw [if_neg (by omega), if_neg (by omega), List.getElem?_append_left (by omega), List.getElem?_take, if_pos (by omega), List.getElem?_drop]
              congr 1; omega
            · rw [List.getElem?_append_right (by omega), hl2]
              by_cases c4 : k = j
              · subst c4
                rw [if_pos rfl, if_pos hj, show d - (k - i - 1) = 0 by omega]; simp
              · obtain ⟨d', hd'⟩ : ∃ d', d - (j - i - 1) = d' + 1 := ⟨d - (j - i - 1) - 1, by omega⟩
                rw [if_neg (by omega), if_neg (by omega), hd', List.getElem?_cons_succ, List.getElem?_drop]
                congr 1; omega
      rw [h2]
      conv => rhs; rw [h1]
      simp only [List.append_assoc, List.cons_append]
      refine List.Perm.append_left _ ?_
      refine (List.Perm.cons _ List.perm_middle).trans ?_
      refine (List.Perm.swap _ _ _).trans ?_
      exact List.Perm.cons _ List.perm_middle.symm
    · have hlt : j < i := by omega
      have hc : (es.set i es[j]).set j es[i] = (es.set j es[i]).set i es[j] := List.set_comm _ _ (by omega)
      rw [hc]
      have h1 : es = es.take j ++ es[j] :: (es.drop (j + 1)).take (i - j - 1) ++ es[i] :: es.drop (i + 1) := by
        have a1 := (List.take_append_drop j es).symm
        have a2 := List.drop_eq_getElem_cons hj
        have a3 := (List.take_append_drop (i - j - 1) (es.drop (j + 1))).symm
        rw [List.drop_drop, show j + 1 + (i - j - 1) = i by omega, List.drop_eq_getElem_cons hi] at a3
        rw [a2, a3] at a1
        simpa using a1
      have hl1 : (es.take j).length = j := by simp; omega
      have hl2 : ((es.drop (j + 1)).take (i - j - 1)).length = i - j - 1 := by simp; omega
      have h2 : (es.set j es[i]).set i es[j] = es.take j ++ es[i] :: (es.drop (j + 1)).take (i - j - 1) ++ es[j] :: es.drop (i + 1) := by
        apply List.ext_getElem?
        intro k
        rw [List.getElem?_set, List.getElem?_set]
        simp only [List.append_assoc, List.cons_append, List.length_set]
        by_cases c1 : k < j
        · rw [if_neg (by omega), if_neg (by omega), List.getElem?_append_left (by omega), List.getElem?_take, if_pos c1]
        · rw [List.getElem?_append_right (by omega), hl1]
          by_cases c2 : k = j
          · subst c2; rw [if_neg (by omega), if_pos rfl, if_pos hj]; simp
          · obtain ⟨d, hd⟩ : ∃ d, k - j = d + 1 := ⟨k - j - 1, by omega⟩
            rw [hd, List.getElem?_cons_succ]
            by_cases c3 : k < i
            · rw [if_neg (by omega), if_neg (by omega), List.getElem?_append_left (by omega), List.getElem?_take, if_pos (by omega), List.getElem?_drop]
              congr 1; omega
            · rw [List.getElem?_append_right (by omega), hl2]
              by_cases c4 : k = i
              · subst c4
                rw [if_pos rfl, if_pos hi, show d - (k - j - 1) = 0 by omega]; simp
              · obtain ⟨d', hd'⟩ : ∃ d', d - (i - j - 1) = d' + 1 := ⟨d - (i - j - 1) - 1, by omega⟩
                rw [if_neg (by omega), if_neg (by omega), hd', List.getElem?_cons_succ, List.getElem?_drop]
                congr 1; omega
      rw [h2]
      conv => rhs; rw [h1]
      simp only [List.append_assoc, List.cons_append]
      refine List.Perm.append_left _ ?_
      refine (List.Perm.cons _ List.perm_middle).trans ?_
      refine (List.Perm.swap _ _ _).trans ?_
      exact List.Perm.cons _ List.perm_middle.symm

/-- From place a on no child is less than its parent. -/
def HF (es : List Ent) (n a : Nat) : Prop := ∀ j, 1 ≤ j → j < n → a ≤ (j - 1) / 2 → lessB (kx es j) (kx es ((j - 1) / 2)) = false
theorem HF.half (es : List Ent) (n : Nat) : HF es n (n / 2) := fun j _ _ h3 => by omega
/-- What stands while one sifts down from i0, at place i. -/
def DI (es0 : List Ent) (i0 n i : Nat) (es : List Ent) : Prop :=
  es.Perm es0 ∧ es.length = es0.length ∧ (∀ j, n ≤ j → ex es j = ex es0 j) ∧ i0 ≤ i ∧
  (HF es0 n (i0 + 1) → (∀ j, 1 ≤ j → j < n → i0 ≤ (j - 1) / 2 → (j - 1) / 2 ≠ i → lessB (kx es j) (kx es ((j - 1) / 2)) = false) ∧
    (i0 < i → i0 ≤ (i - 1) / 2 ∧ 1 ≤ i ∧ ∀ j, 1 ≤ j → j < n → (j - 1) / 2 = i → lessB (kx es j) (kx es ((i - 1) / 2)) = false))
theorem DI.start (es : List Ent) (i0 n : Nat) : DI es i0 n i0 es :=
  ⟨List.Perm.refl _, rfl, fun _ _ => rfl, Nat.le_refl _, fun h => ⟨fun j h1 h2 h3 h4 => h j h1 h2 (by omega), fun h0 => absurd h0 (Nat.lt_irrefl _)⟩⟩
theorem kx_swp {es : List Ent} {i j : Nat} (hi : i < es.length) (hj : j < es.length) (k : Nat) : kx (swp es i j) k = if k = j then kx es i else if k = i then kx es j else kx es k := by
  unfold kx
  rw [ex_swp hi hj]
  split
  · rfl
  · split <;> rfl
theorem DI.step {es0 es : List Ent} {i0 n i m : Nat} (h : DI es0 i0 n i es) (hn : n ≤ es.length) (hm : m < n) (hc : (m - 1) / 2 = i) (hm1 : 1 ≤ m) (him : i < m) (hl : lessB (kx es m) (kx es i) = true)
    (hs : ∀ s, 1 ≤ s → s < n → (s - 1) / 2 = i → lessB (kx es s) (kx es m) = false) : DI es0 i0 n m (swp es i m) := by
  obtain ⟨h1, h2, h3, h4, h5⟩ := h
  have hil : i < es.length := by omega
  have hml : m < es.length := by omega
  refine ⟨(swp_perm hil hml).trans h1, by rw [swp_length, h2], fun j hj => ?_, by omega, fun hF => ?_⟩
  · rw [ex_swp hil hml, if_neg (by omega), if_neg (by omega)]; exact h3 j hj
  · obtain ⟨hA, hB⟩ := h5 hF
    refine ⟨fun j hj1 hj2 hj3 hj4 => ?_, fun _ => ⟨by omega, hm1, fun j hj1 hj2 hj3 => ?_⟩⟩
    · rw [kx_swp hil hml, kx_swp hil hml]
      rw [if_neg hj4]
      by_cases e1 : j = m
      · subst e1
        rw [if_pos rfl, if_pos hc]
        exact less_asymm hl
      · rw [if_neg e1]
        by_cases e2 : j = i
        · subst e2
          rw [if_pos rfl, if_neg (by omega)]
          obtain ⟨_, _, hB3⟩ := hB (by omega)
          exact hB3 m hm1 hm hc
        · rw [if_neg e2]
          by_cases e3 : (j - 1) / 2 = i
          · rw [if_pos e3]; exact hs j hj1 hj2 e3
          · rw [if_neg e3]; exact hA j hj1 hj2 hj3 e3
    · rw [kx_swp hil hml, kx_swp hil hml, if_neg (by omega), if_neg (by omega), hc, if_neg (by omega), if_pos rfl]
      have := hA j hj1 hj2 (by omega) (by omega)
      rw [hj3] at this
      exact this
theorem DI.stop {es0 es : List Ent} {i0 n i : Nat} (h : DI es0 i0 n i es) (hs : ∀ s, 1 ≤ s → s < n → (s - 1) / 2 = i → lessB (kx es s) (kx es i) = false) (hF : HF es0 n (i0 + 1)) : HF es n i0 := by
  obtain ⟨hA, _⟩ := h.2.2.2.2 hF
  intro j h1 h2 h3
  by_cases e : (j - 1) / 2 = i
  · rw [e]; exact hs j h1 h2 e
  · exact hA j h1 h2 h3 e
theorem heap_min {es : List Ent} {n : Nat} (h : HF es n 0) : ∀ j, j < n → lessB (kx es j) (kx es 0) = false := by
  intro j
  induction j using Nat.strongRecOn with
  | _ j ih =>
    intro hj
    rcases Nat.eq_zero_or_pos j with h0 | h0
    · subst h0; exact less_irrefl _
    · have h1 := ih ((j - 1) / 2) (by omega) (by omega)
      have h2 := h j h0 hj (Nat.zero_le _)
      exact le_trans_B h1 h2
end Go.Proofs.Ytcfnbpofbcendab
