/- Plain facts on bags: rows are in a strict order; one more of a row, told by recursion; how often each row is there behind it; two bags in order with the same counts are one. No condition; nothing of the program is named. -/
import Derived.Test.YtoncfodlffofdaaBag6
namespace Go.Proofs.Ytoncfodlffofdaa
open Go.RowKit

theorem less_irrefl (a : List Int) : lessB a a = false := by
  have := less_same_iff a a
  cases h : lessB a a with
  | false => rfl
  | true => rw [h] at this; simp at this
theorem less_trans : ∀ {a b c : List Int}, lessB a b = true → lessB b c = true → lessB a c = true
  | [], [], _, h, _ => by cases h
  | [], _ :: _, [], _, h => by cases h
  | [], _ :: _, _ :: _, _, _ => rfl
  | _ :: _, [], _, h, _ => by cases h
  | _ :: _, _ :: _, [], _, h => by cases h
  | x :: xs, y :: ys, z :: zs, h, k => by
    simp only [lessB] at h k ⊢
    by_cases e1 : x = y
    · subst e1
      rw [if_pos rfl] at h
      by_cases e2 : x = z
      · subst e2
        rw [if_pos rfl] at k ⊢
        exact less_trans h k
      · rw [if_neg e2] at k ⊢
        exact k
    · rw [if_neg e1] at h
      by_cases e2 : y = z
      · subst e2
        rw [if_neg e1]; exact h
      · rw [if_neg e2] at k
        have h1 := of_decide_eq_true h
        have h2 := of_decide_eq_true k
        rw [if_neg (by omega)]
        exact decide_eq_true (by omega)
theorem less_tri (a b : List Int) : lessB a b = true ∨ a = b ∨ lessB b a = true := by
  have := less_same_iff a b
  cases h1 : lessB a b with
  | true => exact .inl rfl
  | false =>
    cases h2 : lessB b a with
    | true => exact .inr (.inr rfl)
    | false => rw [h1, h2] at this; exact .inr (.inl (of_decide_eq_true this.symm))
theorem less_ne {a b : List Int} (h : lessB a b = true) : a ≠ b := by
  intro e; subst e; rw [less_irrefl] at h; cases h
theorem less_asymm {a b : List Int} (h : lessB a b = true) : lessB b a = false := by
  cases h2 : lessB b a with
  | false => rfl
  | true => have := less_trans h h2; rw [less_irrefl] at this; cases this
/-- Not less, the other way: at most. -/
theorem le_trans_B {a b c : List Int} (h : lessB b a = false) (k : lessB c b = false) : lessB c a = false := by
  cases h2 : lessB c a with
  | false => rfl
  | true =>
    rcases less_tri a b with e | e | e
    · have := less_trans h2 e; rw [this] at k; cases k
    · subst e; rw [h2] at k; cases k
    · rw [e] at h; cases h

/-- A bag whose rows stand in order. -/
def SB (bag : List (List Int × Int)) : Prop := bag.Pairwise fun p q => lessB p.1 q.1 = true
/-- No count of 0. -/
def NZ (bag : List (List Int × Int)) : Prop := ∀ p ∈ bag, p.2 ≠ 0
def insL (row : List Int) (n : Int) : List (List Int × Int) → List (List Int × Int)
  | [] => if n = 0 then [] else [(row, n)]
  | (r, m) :: bs => if lessB r row = true then (r, m) :: insL row n bs else if r = row then (if addW m n = 0 then bs else (row, addW m n) :: bs) else if n = 0 then (r, m) :: bs else (row, n) :: (r, m) :: bs
theorem withL_ins (row : List Int) (n : Int) : ∀ bag, withL bag row n = insL row n bag
  | [] => by simp [withL, insL, placeL]
  | (r, m) :: bs => by
    have ih := withL_ins row n bs
    have hp := place_le bs row
    unfold withL at ih ⊢
    simp only [insL, placeL]
    by_cases h : lessB r row = true
    · simp only [if_pos h]
      rw [← ih]
      have e1 : rx ((r, m) :: bs) (placeL bs row + 1) = rx bs (placeL bs row) := by simp [rx]
      have e2 : nx ((r, m) :: bs) (placeL bs row + 1) = nx bs (placeL bs row) := by simp [nx]
      rw [e1, e2]
      by_cases h1 : placeL bs row < bs.length ∧ rx bs (placeL bs row) = row
      · rw [if_pos h1, if_pos (by simpa using h1)]
        split <;> simp
      · rw [if_neg h1, if_neg (by simpa using h1)]
        split <;> simp
    · simp only [if_neg h]
      have e1 : rx ((r, m) :: bs) 0 = r := by simp [rx]
      have e2 : nx ((r, m) :: bs) 0 = m := by simp [nx]
      rw [e1, e2]
      by_cases h1 : r = row
      · rw [if_pos ⟨by simp, h1⟩, if_pos h1]; simp
      · rw [if_neg (fun e => h1 e.2), if_neg h1]; simp

theorem timesL_zero {bag : List (List Int × Int)} {s : List Int} (h : ∀ p ∈ bag, p.1 ≠ s) : timesL bag s = 0 := by
  induction bag with
  | nil => rfl
  | cons p bs ih =>
    obtain ⟨r, m⟩ := p
    rw [timesL, if_neg (h (r, m) (by simp))]
    exact ih fun p hp => h p (List.mem_cons_of_mem _ hp)
theorem sb_behind {r : List Int} {m : Int} {bs : List (List Int × Int)} (h : SB ((r, m) :: bs)) {s : List Int} (hs : lessB s r = true ∨ s = r) : ∀ p ∈ bs, p.1 ≠ s := by
  intro p hp e
  have := (List.pairwise_cons.1 h).1 p hp
  rcases hs with hs | hs
  · have h2 := less_trans hs this; rw [e] at h2; exact less_ne h2 rfl
  · subst hs; exact less_ne this e.symm
theorem ins_mem {row : List Int} {n : Int} : ∀ {bag : List (List Int × Int)} {p}, p ∈ insL row n bag → p ∈ bag ∨ p.1 = row
  | [], p, h => by
    simp only [insL] at h
    split at h
    · cases h
    · simp at h; exact .inr (by rw [h])
  | (r, m) :: bs, p, h => by
    simp only [insL] at h
    split at h
    · rcases List.mem_cons.1 h with h | h
      · exact .inl (by rw [h]; simp)
      · rcases ins_mem h with h | h
        · exact .inl (List.mem_cons_of_mem _ h)
        · exact .inr h
    · split at h
      · split at h
        · exact .inl (List.mem_cons_of_mem _ h)
        · rcases List.mem_cons.1 h with h | h
          · exact .inr (by rw [h])
          · exact .inl (List.mem_cons_of_mem _ h)
      · split at h
        · exact .inl h
        · rcases List.mem_cons.1 h with h | h
          · exact .inr (by rw [h])
          · exact .inl h
theorem ins_sb {row : List Int} {n : Int} : ∀ {bag : List (List Int × Int)}, SB bag → SB (insL row n bag)
  | [], _ => by
    simp only [insL]
    split
    · exact List.Pairwise.nil
    · exact List.pairwise_singleton _ _
  | (r, m) :: bs, h => by
    obtain ⟨h1, h2⟩ := List.pairwise_cons.1 h
    simp only [insL]
    split
    · rename_i hl
      refine List.pairwise_cons.2 ⟨fun p hp => ?_, ins_sb h2⟩
      rcases ins_mem hp with hp | hp
      · exact h1 p hp
      · show lessB r p.1 = true; rw [hp]; exact hl
    · rename_i hl
      split
      · rename_i he
        subst he
        split
        · exact h2
        · exact List.pairwise_cons.2 ⟨fun p hp => h1 p hp, h2⟩
      · rename_i he
        split
        · exact h
        · have hr : lessB row r = true := by
            rcases less_tri r row with e | e | e
            · exact absurd e hl
            · exact absurd e he
            · exact e
          refine List.pairwise_cons.2 ⟨fun p hp => ?_, h⟩
          rcases List.mem_cons.1 hp with rfl | hp
          · exact hr
          · exact less_trans hr (h1 p hp)
theorem ins_nz {row : List Int} {n : Int} : ∀ {bag : List (List Int × Int)}, NZ bag → NZ (insL row n bag)
  | [], _ => by
    simp only [insL]
    split
    · intro p hp; cases hp
    · rename_i h; intro p hp; simp at hp; subst hp; exact h
  | (r, m) :: bs, h => by
    have h1 : NZ bs := fun p hp => h p (List.mem_cons_of_mem _ hp)
    have h0 := h (r, m) (by simp)
    simp only [insL]
    split
    · intro p hp
      rcases List.mem_cons.1 hp with rfl | hp
      · exact h0
      · exact ins_nz h1 p hp
    · split
      · split
        · exact h1
        · rename_i hs
          intro p hp
          rcases List.mem_cons.1 hp with rfl | hp
          · exact hs
          · exact h1 p hp
      · split
        · exact h
        · rename_i hn
          intro p hp
          rcases List.mem_cons.1 hp with rfl | hp
          · exact hn
          · exact h p hp
/-- How often each row is there. -/
theorem ins_times {row : List Int} {n : Int} (hn : addW 0 n = n) : ∀ {bag : List (List Int × Int)} (_ : SB bag) (s : List Int), timesL (insL row n bag) s = if s = row then addW (timesL bag row) n else timesL bag s
  | [], _, s => by
    simp only [insL, timesL]
    split
    · rename_i h0
      rw [hn]
      split <;> simp [timesL, h0]
    · simp only [timesL]
      by_cases e : s = row
      · rw [if_pos e.symm, if_pos e, hn]
      · rw [if_neg (Ne.symm e), if_neg e]
  | (r, m) :: bs, h, s => by
    obtain ⟨h1, h2⟩ := List.pairwise_cons.1 h
    simp only [insL]
    split
    · rename_i hl
      have hne := less_ne hl
      simp only [timesL]
      rw [ins_times hn h2 s, if_neg hne]
      by_cases e : s = row
      · subst e
        rw [if_neg hne, if_pos rfl, if_pos rfl]
      · rw [if_neg e, if_neg e]
    · rename_i hl
      split
      · rename_i he
        subst he
        have hz : timesL bs r = 0 := timesL_zero (sb_behind h (.inr rfl))
        simp only [timesL, if_true]
        split
        · rename_i hs
          by_cases e : s = r
          · subst e; rw [if_pos rfl, hz, hs]
          · rw [if_neg e, if_neg (Ne.symm e)]
        · simp only [timesL]
          by_cases e : s = r
          · subst e; rw [if_pos rfl, if_pos rfl]
          · rw [if_neg (Ne.symm e), if_neg e, if_neg (Ne.symm e)]
      · rename_i he
        have hr : lessB row r = true := by
          rcases less_tri r row with e | e | e
          · exact absurd e hl
          · exact absurd e he
          · exact e
        have hz : timesL ((r, m) :: bs) row = 0 := by
          rw [timesL, if_neg he]
          exact timesL_zero (sb_behind h (.inl hr))
        split
        · rename_i h0
          by_cases e : s = row
          · subst e; rw [if_pos rfl, hz, hn, h0]
          · rw [if_neg e]
        · rw [hz, hn]
          rw [timesL]
          by_cases e : s = row
          · rw [if_pos e.symm, if_pos e]
          · rw [if_neg (Ne.symm e), if_neg e]
/-- Two bags in order, with the same counts. -/
theorem canon : ∀ {b1 b2 : List (List Int × Int)}, SB b1 → SB b2 → NZ b1 → NZ b2 → (∀ s, timesL b1 s = timesL b2 s) → b1 = b2
  | [], [], _, _, _, _, _ => rfl
  | [], (r, m) :: bs, _, _, _, h4, h => by
    have := h r
    simp only [timesL, if_true] at this
    exact absurd this.symm (h4 (r, m) (by simp))
  | (r, m) :: bs, [], _, _, h3, _, h => by
    have := h r
    simp only [timesL, if_true] at this
    exact absurd this (h3 (r, m) (by simp))
  | (r, m) :: bs, (r', m') :: bs', h1, h2, h3, h4, h => by
    have hr : r = r' := by
      rcases less_tri r r' with e | e | e
      · have e1 := h r
        rw [timesL, if_pos rfl, timesL, if_neg (less_ne e).symm, timesL_zero (sb_behind h2 (.inl e))] at e1
        exact absurd e1 (h3 (r, m) (by simp))
      · exact e
      · have e1 := h r'
        rw [timesL, if_neg (less_ne e).symm, timesL_zero (sb_behind h1 (.inl e)), timesL, if_pos rfl] at e1
        exact absurd e1.symm (h4 (r', m') (by simp))
    subst hr
    have hm : m = m' := by have := h r; simpa [timesL] using this
    subst hm
    have ht : bs = bs' := by
      refine canon (List.pairwise_cons.1 h1).2 (List.pairwise_cons.1 h2).2 (fun p hp => h3 p (List.mem_cons_of_mem _ hp)) (fun p hp => h4 p (List.mem_cons_of_mem _ hp)) fun s => ?_
      by_cases e : r = s
      · subst e
        rw [timesL_zero (sb_behind h1 (.inr rfl)), timesL_zero (sb_behind h2 (.inr rfl))]
      · have := h s
        rwa [timesL, if_neg e, timesL, if_neg e] at this
    rw [ht]
theorem ok_sb : ∀ {bag : List (List Int × Int)} {p : Option (List Int)}, okFrom p bag = true → SB bag ∧ NZ bag ∧ ∀ q, p = some q → ∀ x ∈ bag, lessB q x.1 = true
  | [], p, _ => ⟨List.Pairwise.nil, (fun p hp => by cases hp), fun q _ x hx => by cases hx⟩
  | (r, n) :: bs, p, h => by
    simp only [okFrom, Bool.and_eq_true] at h
    obtain ⟨ih1, ih2, ih3⟩ := ok_sb h.2
    refine ⟨List.pairwise_cons.2 ⟨fun x hx => ih3 r rfl x hx, ih1⟩, fun x hx => ?_, fun q hq x hx => ?_⟩
    · rcases List.mem_cons.1 hx with rfl | hx
      · have := h.1.1.1.2; simpa using this
      · exact ih2 x hx
    · subst hq
      have h1 := h.1.2
      rcases List.mem_cons.1 hx with rfl | hx
      · exact h1
      · exact less_trans h1 (ih3 r rfl x hx)
theorem bagOk_sb {bag : List (List Int × Int)} (h : bagOkB bag = true) : SB bag ∧ NZ bag := by
  unfold bagOkB at h
  rw [Bool.and_eq_true] at h
  exact ⟨(ok_sb h.1).1, (ok_sb h.1).2.1⟩
theorem times_at {bag : List (List Int × Int)} (h : SB bag) {k : Nat} (hk : k < bag.length) : timesL bag (rx bag k) = nx bag k := by
  induction bag generalizing k with
  | nil => simp at hk
  | cons p bs ih =>
    obtain ⟨r, m⟩ := p
    cases k with
    | zero => simp [timesL, rx, nx]
    | succ k =>
      have hk' : k < bs.length := by simpa using hk
      have e1 : rx ((r, m) :: bs) (k + 1) = rx bs k := by simp [rx]
      have e2 : nx ((r, m) :: bs) (k + 1) = nx bs k := by simp [nx]
      have hm : (rx bs k, nx bs k) ∈ bs := by rw [← bag_ix hk']; exact List.getElem_mem hk'
      rw [e1, e2, timesL, if_neg (less_ne ((List.pairwise_cons.1 h).1 _ hm))]
      exact ih (List.pairwise_cons.1 h).2 hk'
theorem addW_small {a b : Int} (h0 : -4611686018427387904 ≤ a) (h1 : a ≤ 4611686018427387904) (h2 : -4611686018427387904 ≤ b) (h3 : b ≤ 4611686018427387903) : addW a b = a + b := by
  unfold addW; rw [IntKind.wrap_i64]; omega
end Go.Proofs.Ytoncfodlffofdaa
