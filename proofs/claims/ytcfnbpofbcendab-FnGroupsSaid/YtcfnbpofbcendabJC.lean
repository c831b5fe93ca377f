/- Texts joined: WithThy, SumThy, TabThy, Tab0, Nam1, Tab1, Tab2, Tab3, Tab4, TabI0, TabM, TabOpen, Tab8, TabW, TabI1: contracts and plain facts; each says its own below. -/
import Derived.Test.YtcfnbpofbcendabJB
import Derived.Test.YtcfnbpofbcendabJA
import Derived.Deep.RegionLaw
import Derived.Laws.CopyOwn
import Derived.Lib.SmallJoins
/- Plain facts on bags: rows are in a strict order; one more of a row, told by recursion; how often each row is there behind it; two bags in order with the same counts are one. No condition; nothing of the program is named. -/
namespace Go.Proofs.Ytcfnbpofbcendab
open Go.RowKit

theorem less_irrefl (a : List Int) : lessB a a = false := by
  have := less_same_iff a a
  cases h : lessB a a with
  | false => rfl
  | true => rw [h] at this; simp at this
theorem less_trans : ∀ {a b c : List Int}, lessB a b = true → lessB b c = true → lessB a c = true
  | [], [], _, h, _ => by cases h
  | [], _ :: _, [], _, h => by cases h
  | [], _ :: _, _ :: _, _, _ => rfl
  | _ :: _, [], _, h, _ => by cases h
  | _ :: _, _ :: _, [], _, h => by cases h
  | x :: xs, y :: ys, z :: zs, h, k => by
    simp only [lessB] at h k ⊢
    by_cases e1 : x = y
    · subst e1
      rw [if_pos rfl] at h
      by_cases e2 : x = z
      · subst e2
        rw [if_pos rfl] at k ⊢
        exact less_trans h k
      · rw [if_neg e2] at k ⊢
        exact k
    · rw [if_neg e1] at h
      by_cases e2 : y = z
      · subst e2
        rw [if_neg e1]; exact h
      · rw [if_neg e2] at k
        have h1 := of_decide_eq_true h
        have h2 := of_decide_eq_true k
        rw [if_neg (by omega)]
        exact decide_eq_true (by omega)
theorem less_tri (a b : List Int) : lessB a b = true ∨ a = b ∨ lessB b a = true := by
  have := less_same_iff a b
  cases h1 : lessB a b with
  | true => exact .inl rfl
  | false =>
    cases h2 : lessB b a with
    | true => exact .inr (.inr rfl)
    | false => rw [h1, h2] at this; exact .inr (.inl (of_decide_eq_true this.symm))
theorem less_ne {a b : List Int} (h : lessB a b = true) : a ≠ b := by
  intro e; subst e; rw [less_irrefl] at h; cases h
theorem less_asymm {a b : List Int} (h : lessB a b = true) : lessB b a = false := by
  cases h2 : lessB b a with
  | false => rfl
  | true => have := less_trans h h2; rw [less_irrefl] at this; cases this
/-- Not less, the other way: at most. -/
theorem le_trans_B {a b c : List Int} (h : lessB b a = false) (k : lessB c b = false) : lessB c a = false := by
  cases h2 : lessB c a with
  | false => rfl
  | true =>
    rcases less_tri a b with e | e | e
    · have := less_trans h2 e; rw [this] at k; cases k
    · subst e; rw [h2] at k; cases k
    · rw [e] at h; cases h

/-- A bag whose rows stand in order. -/
def SB (bag : List (List Int × Int)) : Prop := bag.Pairwise fun p q => lessB p.1 q.1 = true
/-- No count of 0. -/
def NZ (bag : List (List Int × Int)) : Prop := ∀ p ∈ bag, p.2 ≠ 0
def insL (row : List Int) (n : Int) : List (List Int × Int) → List (List Int × Int)
  | [] => if n = 0 then [] else [(row, n)]
  | (r, m) :: bs => if lessB r row = true then (r, m) :: insL row n bs else if r = row then (if addW m n = 0 then bs else (row, addW m n) :: bs) else if n = 0 then (r, m) :: bs else (row, n) :: (r, m) :: bs
theorem withL_ins (row : List Int) (n : Int) : ∀ bag, withL bag row n = insL row n bag
  | [] => by simp [withL, insL, placeL]
  | (r, m) :: bs => by
    have ih := withL_ins row n bs
    have hp := place_le bs row
    unfold withL at ih ⊢
    simp only [insL, placeL]
    by_cases h : lessB r row = true
    · simp only [if_pos h]
      rw [← ih]
      have e1 : rx ((r, m) :: bs) (placeL bs row + 1) = rx bs (placeL bs row) := by simp [rx]
      have e2 : nx ((r, m) :: bs) (placeL bs row + 1) = nx bs (placeL bs row) := by simp [nx]
      rw [e1, e2]
      by_cases h1 : placeL bs row < bs.length ∧ rx bs (placeL bs row) = row
      · rw [if_pos h1, if_pos (by simpa using h1)]
        split <;> simp
      · rw [if_neg h1, if_neg (by simpa using h1)]
        split <;> simp
    · simp only [if_neg h]
      have e1 : rx ((r, m) :: bs) 0 = r := by simp [rx]
      have e2 : nx ((r, m) :: bs) 0 = m := by simp [nx]
      rw [e1, e2]
      by_cases h1 : r = row
      · rw [if_pos ⟨by simp, h1⟩, if_pos h1]; simp
      · rw [if_neg (fun e => h1 e.2), if_neg h1]; simp

theorem timesL_zero {bag : List (List Int × Int)} {s : List Int} (h : ∀ p ∈ bag, p.1 ≠ s) : timesL bag s = 0 := by
  induction bag with
  | nil => rfl
  | cons p bs ih =>
    obtain ⟨r, m⟩ := p
    rw [timesL, if_neg (h (r, m) (by simp))]
    exact ih fun p hp => h p (List.mem_cons_of_mem _ hp)
theorem sb_behind {r : List Int} {m : Int} {bs : List (List Int × Int)} (h : SB ((r, m) :: bs)) {s : List Int} (hs : lessB s r = true ∨ s = r) : ∀ p ∈ bs, p.1 ≠ s := by
  intro p hp e
  have := (List.pairwise_cons.1 h).1 p hp
  rcases hs with hs | hs
  · have h2 := less_trans hs this; rw [e] at h2; exact less_ne h2 rfl
  · subst hs; exact less_ne this e.symm
theorem ins_mem {row : List Int} {n : Int} : ∀ {bag : List (List Int × Int)} {p}, p ∈ insL row n bag → p ∈ bag ∨ p.1 = row
  | [], p, h => by
    simp only [insL] at h
    split at h
    · cases h
    · simp at h; exact .inr (by rw [h])
  | (r, m) :: bs, p, h => by
    simp only [insL] at h
    split at h
    · rcases List.mem_cons.1 h with h | h
      · exact .inl (by rw [h]; simp)
      · rcases ins_mem h with h | h
        · exact .inl (List.mem_cons_of_mem _ h)
        · exact .inr h
    · split at h
      · split at h
        · exact .inl (List.mem_cons_of_mem _ h)
        · rcases List.mem_cons.1 h with h | h
          · exact .inr (by rw [h])
          · exact .inl (List.mem_cons_of_mem _ h)
      · split at h
        · exact .inl h
        · rcases List.mem_cons.1 h with h | h
          · exact .inr (by rw [h])
          · exact .inl h
theorem ins_sb {row : List Int} {n : Int} : ∀ {bag : List (List Int × Int)}, SB bag → SB (insL row n bag)
  | [], _ => by
    simp only [insL]
    split
    · exact List.Pairwise.nil
    · exact List.pairwise_singleton _ _
  | (r, m) :: bs, h => by
    obtain ⟨h1, h2⟩ := List.pairwise_cons.1 h
    simp only [insL]
    split
    · rename_i hl
      refine List.pairwise_cons.2 ⟨fun p hp => ?_, ins_sb h2⟩
      rcases ins_mem hp with hp | hp
      · exact h1 p hp
      · show lessB r p.1 = true; rw [hp]; exact hl
    · rename_i hl
      split
      · rename_i he
        subst he
        split
        · exact h2
        · exact List.pairwise_cons.2 ⟨fun p hp => h1 p hp, h2⟩
      · rename_i he
        split
        · exact h
        · have hr : lessB row r = true := by
            rcases less_tri r row with e | e | e
            · exact absurd e hl
            · exact absurd e he
            · exact e
          refine List.pairwise_cons.2 ⟨fun p hp => ?_, h⟩
          rcases List.mem_cons.1 hp with rfl | hp
          · exact hr
          · exact less_trans hr (h1 p hp)
theorem ins_nz {row : List Int} {n : Int} : ∀ {bag : List (List Int × Int)}, NZ bag → NZ (insL row n bag)
  | [], _ => by
    simp only [insL]
    split
    · intro p hp; cases hp
    · rename_i h; intro p hp; simp at hp; subst hp; exact h
  | (r, m) :: bs, h => by
    have h1 : NZ bs := fun p hp => h p (List.mem_cons_of_mem _ hp)
    have h0 := h (r, m) (by simp)
    simp only [insL]
    split
    · intro p hp
      rcases List.mem_cons.1 hp with rfl | hp
      · exact h0
      · exact ins_nz h1 p hp
    · split
      · split
        · exact h1
        · rename_i hs
          intro p hp
          rcases List.mem_cons.1 hp with rfl | hp
          · exact hs
          · exact h1 p hp
      · split
        · exact h
        · rename_i hn
          intro p hp
          rcases List.mem_cons.1 hp with rfl | hp
          · exact hn
          · exact h p hp
/-- How often each row is there. -/
theorem ins_times {row : List Int} {n : Int} (hn : addW 0 n = n) : ∀ {bag : List (List Int × Int)} (_ : SB bag) (s : List Int), timesL (insL row n bag) s = if s = row then addW (timesL bag row) n else timesL bag s
  | [], _, s => by
    simp only [insL, timesL]
    split
    · rename_i h0
      rw [hn]
      split <;> simp [timesL, h0]
    · simp only [timesL]
      by_cases e : s = row
      · rw [if_pos e.symm, if_pos e, hn]
      · rw [if_neg (Ne.symm e), if_neg e]
  | (r, m) :: bs, h, s => by
    obtain ⟨h1, h2⟩ := List.pairwise_cons.1 h
    simp only [insL]
    split
    · rename_i hl
      have hne := less_ne hl
      simp only [timesL]
      rw [ins_times hn h2 s, if_neg hne]
      by_cases e : s = row
      · subst e
        rw [if_neg hne, if_pos rfl, if_pos rfl]
      · rw [if_neg e, if_neg e]
    · rename_i hl
      split
      · rename_i he
        subst he
        have hz : timesL bs r = 0 := timesL_zero (sb_behind h (.inr rfl))
        simp only [timesL, if_true]
        split
        · rename_i hs
          by_cases e : s = r
          · subst e; rw [if_pos rfl, hz, hs]
          · rw [if_neg e, if_neg (Ne.symm e)]
        · simp only [timesL]
          by_cases e : s = r
          · subst e; rw [if_pos rfl, if_pos rfl]
          · rw [if_neg (Ne.symm e), if_neg e, if_neg (Ne.symm e)]
      · rename_i he
        have hr : lessB row r = true := by
          rcases less_tri r row with e | e | e
          · exact absurd e hl
          · exact absurd e he
          · exact e
        have hz : timesL ((r, m) :: bs) row = 0 := by
          rw [timesL, if_neg he]
          exact timesL_zero (sb_behind h (.inl hr))
        split
        · rename_i h0
          by_cases e : s = row
          · subst e; rw [if_pos rfl, hz, hn, h0]
          · rw [if_neg e]
        · rw [hz, hn]
          rw [timesL]
          by_cases e : s = row
          · rw [if_pos e.symm, if_pos e]
          · rw [if_neg (Ne.symm e), if_neg e]
/-- Two bags in order, with the same counts. -/
theorem canon : ∀ {b1 b2 : List (List Int × Int)}, SB b1 → SB b2 → NZ b1 → NZ b2 → (∀ s, timesL b1 s = timesL b2 s) → b1 = b2
  | [], [], _, _, _, _, _ => rfl
  | [], (r, m) :: bs, _, _, _, h4, h => by
    have := h r
    simp only [timesL, if_true] at this
    exact absurd this.symm (h4 (r, m) (by simp))
  | (r, m) :: bs, [], _, _, h3, _, h => by
    have := h r
    simp only [timesL, if_true] at this
    exact absurd this (h3 (r, m) (by simp))
  | (r, m) :: bs, (r', m') :: bs', h1, h2, h3, h4, h => by
    have hr : r = r' := by
      rcases less_tri r r' with e | e | e
      · have e1 := h r
        rw [timesL, if_pos rfl, timesL, if_neg (less_ne e).symm, timesL_zero (sb_behind h2 (.inl e))] at e1
        exact absurd e1 (h3 (r, m) (by simp))
      · exact e
      · have e1 := h r'
        rw [timesL, if_neg (less_ne e).symm, timesL_zero (sb_behind h1 (.inl e)), timesL, if_pos rfl] at e1
        exact absurd e1.symm (h4 (r', m') (by simp))
    subst hr
    have hm : m = m' := by have := h r; simpa [timesL] using this
    subst hm
    have ht : bs = bs' := by
      refine canon (List.pairwise_cons.1 h1).2 (List.pairwise_cons.1 h2).2 (fun p hp => h3 p (List.mem_cons_of_mem _ hp)) (fun p hp => h4 p (List.mem_cons_of_mem _ hp)) fun s => ?_
      by_cases e : r = s
      · subst e
        rw [timesL_zero (sb_behind h1 (.inr rfl)), timesL_zero (sb_behind h2 (.inr rfl))]
      · have := h s
        rwa [timesL, if_neg e, timesL, if_neg e] at this
    rw [ht]
theorem ok_sb : ∀ {bag : List (List Int × Int)} {p : Option (List Int)}, okFrom p bag = true → SB bag ∧ NZ bag ∧ ∀ q, p = some q → ∀ x ∈ bag, lessB q x.1 = true
  | [], p, _ => ⟨List.Pairwise.nil, (fun p hp => by cases hp), fun q _ x hx => by cases hx⟩
  | (r, n) :: bs, p, h => by
    simp only [okFrom, Bool.and_eq_true] at h
    obtain ⟨ih1, ih2, ih3⟩ := ok_sb h.2
    refine ⟨List.pairwise_cons.2 ⟨fun x hx => ih3 r rfl x hx, ih1⟩, fun x hx => ?_, fun q hq x hx => ?_⟩
    · rcases List.mem_cons.1 hx with rfl | hx
      · have := h.1.1.1.2; simpa using this
      · exact ih2 x hx
    · subst hq
      have h1 := h.1.2
      rcases List.mem_cons.1 hx with rfl | hx
      · exact h1
      · exact less_trans h1 (ih3 r rfl x hx)
theorem bagOk_sb {bag : List (List Int × Int)} (h : bagOkB bag = true) : SB bag ∧ NZ bag := by
  unfold bagOkB at h
  rw [Bool.and_eq_true] at h
  exact ⟨(ok_sb h.1).1, (ok_sb h.1).2.1⟩
theorem times_at {bag : List (List Int × Int)} (h : SB bag) {k : Nat} (hk : k < bag.length) : timesL bag (rx bag k) = nx bag k := by
  induction bag generalizing k with
  | nil => simp at hk
  | cons p bs ih =>
    obtain ⟨r, m⟩ := p
    cases k with
    | zero => simp [timesL, rx, nx]
    | succ k =>
      have hk' : k < bs.length := by simpa using hk
      have e1 : rx ((r, m) :: bs) (k + 1) = rx bs k := by simp [rx]
      have e2 : nx ((r, m) :: bs) (k + 1) = nx bs k := by simp [nx]
      have hm : (rx bs k, nx bs k) ∈ bs := by rw [← bag_ix hk']; exact List.getElem_mem hk'
      rw [e1, e2, timesL, if_neg (less_ne ((List.pairwise_cons.1 h).1 _ hm))]
      exact ih (List.pairwise_cons.1 h).2 hk'
theorem addW_small {a b : Int} (h0 : -4611686018427387904 ≤ a) (h1 : a ≤ 4611686018427387904) (h2 : -4611686018427387904 ≤ b) (h3 : b ≤ 4611686018427387903) : addW a b = a + b := by
  unfold addW; rw [IntKind.wrap_i64]; omega
end Go.Proofs.Ytcfnbpofbcendab

/- Plain facts for stage 3: the sum of two bags, a bag turned round, a change from one to another. No program is spoken of. -/
namespace Go.Proofs.Ytcfnbpofbcendab
open Go.RowKit

/-- Each count of b added to a, one after the other. -/
def plusL (a b : List (List Int × Int)) : List (List Int × Int) := b.foldl (fun acc p => withL acc p.1 p.2) a
def minusL (a : List (List Int × Int)) : List (List Int × Int) := a.map fun p => (p.1, -p.2)
def changeL (a b : List (List Int × Int)) : List (List Int × Int) := plusL b (minusL a)
/-- In order, no count of 0, every count within m. -/
def Fit (m : Int) (b : List (List Int × Int)) : Prop := SB b ∧ NZ b ∧ ∀ p ∈ b, -m ≤ p.2 ∧ p.2 ≤ m
theorem times_within {m : Int} (hm : 0 ≤ m) : ∀ {b : List (List Int × Int)}, (∀ p ∈ b, -m ≤ p.2 ∧ p.2 ≤ m) → ∀ s, -m ≤ timesL b s ∧ timesL b s ≤ m
  | [], _, s => by simp [timesL]; omega
  | (r, n) :: bs, h, s => by
    have h1 := h (r, n) (by simp)
    have h2 := times_within hm (b := bs) (fun p hp => h p (by simp [hp])) s
    simp only at h1
    rw [timesL]
    split
    · exact h1
    · exact h2
theorem times_mem : ∀ {b : List (List Int × Int)}, SB b → ∀ p ∈ b, timesL b p.1 = p.2
  | (r, n) :: bs, h, p, hp => by
    rcases List.mem_cons.1 hp with e | hp
    · rw [e]; simp [timesL]
    · have hlt := (List.pairwise_cons.1 h).1 p hp
      have hne : ¬ r = p.1 := less_ne hlt
      rw [timesL]
      simp only [hne, if_false]
      exact times_mem (List.pairwise_cons.1 h).2 p hp
theorem plus_facts : ∀ {b a : List (List Int × Int)} {m : Int}, 0 ≤ m → m + 1000000 * (b.length : Int) ≤ 1099511627776 → SB a → NZ a → (∀ s, -m ≤ timesL a s ∧ timesL a s ≤ m) → SB b → (∀ p ∈ b, -1000000 ≤ p.2 ∧ p.2 ≤ 1000000) →
    SB (plusL a b) ∧ NZ (plusL a b) ∧ ∀ s, timesL (plusL a b) s = timesL a s + timesL b s
  | [], a, m, _, _, h1, h2, _, _, _ => ⟨h1, h2, fun s => by simp [plusL, timesL]⟩
  | (r, n) :: bs, a, m, hm, hl, h1, h2, ht, hs, hb => by
    have hn := hb (r, n) (by simp)
    simp only at hn
    have e0 : addW 0 n = n := by rw [addW_small (by omega) (by omega) (by omega) (by omega)]; omega
    have hlen : (((r, n) :: bs).length : Int) = (bs.length : Int) + 1 := by simp
    rw [hlen] at hl
    have hin := ins_times (row := r) e0 h1
    have hr := ht r
    have ea : addW (timesL a r) n = timesL a r + n := addW_small (by omega) (by omega) (by omega) (by omega)
    obtain ⟨k1, k2, k3⟩ := plus_facts (b := bs) (a := insL r n a) (m := m + 1000000) (by omega) (by omega) (ins_sb h1) (ins_nz h2) (fun s => by
      rw [hin s]
      have := ht s
      split
      · rw [ea]; omega
      · omega) (List.pairwise_cons.1 hs).2 (fun p hp => hb p (by simp [hp]))
    have e1 : plusL a ((r, n) :: bs) = plusL (insL r n a) bs := by simp only [plusL, List.foldl_cons]; rw [withL_ins]
    rw [e1]
    refine ⟨k1, k2, fun s => ?_⟩
    rw [k3 s, hin s]
    by_cases e : s = r
    · subst e
      have h0 : timesL bs s = 0 := timesL_zero (sb_behind hs (.inr rfl))
      rw [if_pos rfl, ea, h0]
      simp [timesL]
    · rw [if_neg e, timesL]
      simp [Ne.symm e]
theorem minus_times : ∀ (a : List (List Int × Int)) (s : List Int), timesL (minusL a) s = -timesL a s
  | [], s => by simp [minusL, timesL]
  | (r, n) :: bs, s => by
    have ih := minus_times bs s
    unfold minusL at ih ⊢
    simp only [List.map_cons, timesL]
    split
    · rfl
    · exact ih
theorem minus_sb {a : List (List Int × Int)} (h : SB a) : SB (minusL a) := by
  unfold SB minusL at *
  exact List.pairwise_map.2 h
theorem minus_nz {a : List (List Int × Int)} (h : NZ a) : NZ (minusL a) := by
  intro p hp
  obtain ⟨q, hq, rfl⟩ := List.mem_map.1 hp
  have := h q hq
  simp only; omega
theorem minus_minus (a : List (List Int × Int)) : minusL (minusL a) = a := by
  unfold minusL
  rw [List.map_map]
  conv => rhs; rw [← List.map_id a]
  refine List.map_congr_left fun p _ => ?_
  simp
theorem Fit.minus {m : Int} {a : List (List Int × Int)} (h : Fit m a) : Fit m (minusL a) := by
  refine ⟨minus_sb h.1, minus_nz h.2.1, fun p hp => ?_⟩
  obtain ⟨q, hq, rfl⟩ := List.mem_map.1 hp
  have := h.2.2 q hq
  simp only; omega
theorem ok_bd : ∀ {b : List (List Int × Int)} {p : Option (List Int)}, okFrom p b = true → ∀ q ∈ b, -1000000 ≤ q.2 ∧ q.2 ≤ 1000000
  | (r, n) :: bs, p, h, q, hq => by
    simp only [okFrom, Bool.and_eq_true] at h
    rcases List.mem_cons.1 hq with e | hq
    · rw [e]
      have := h.1.1.2
      simp only [inB, Bool.and_eq_true, decide_eq_true_eq] at this
      exact this
    · exact ok_bd h.2 q hq
theorem bagOk_fit {b : List (List Int × Int)} (h : bagOkB b = true) : Fit 1000000 b ∧ b.length ≤ 300 := by
  obtain ⟨h1, h2⟩ := bagOk_sb h
  unfold bagOkB at h
  rw [Bool.and_eq_true, decide_eq_true_eq] at h
  exact ⟨⟨h1, h2, ok_bd h.1⟩, h.2⟩
theorem Fit.plus {a b : List (List Int × Int)} {m : Int} (h0 : 0 ≤ m) (hm : m ≤ 1000000000) (ha : Fit m a) (hb : Fit 1000000 b) (hl : b.length ≤ 1000) : SB (plusL a b) ∧ NZ (plusL a b) ∧ ∀ s, timesL (plusL a b) s = timesL a s + timesL b s :=
  plus_facts h0 (by omega) ha.1 ha.2.1 (times_within h0 ha.2.2) hb.1 hb.2.2
theorem plus_comm {a b : List (List Int × Int)} (ha : Fit 1000000 a) (hb : Fit 1000000 b) (hla : a.length ≤ 1000) (hlb : b.length ≤ 1000) : plusL a b = plusL b a := by
  obtain ⟨p1, p2, p3⟩ := Fit.plus (by omega) (by omega) ha hb hlb
  obtain ⟨q1, q2, q3⟩ := Fit.plus (by omega) (by omega) hb ha hla
  exact canon p1 q1 p2 q2 fun s => by rw [p3, q3]; omega
theorem plus_minus {a : List (List Int × Int)} (ha : Fit 1000000 a) (hla : a.length ≤ 1000) : plusL a (minusL a) = [] := by
  obtain ⟨p1, p2, p3⟩ := Fit.plus (by omega) (by omega) ha ha.minus (by simp [minusL]; omega)
  refine canon p1 List.Pairwise.nil p2 (fun p hp => by cases hp) fun s => ?_
  rw [p3, minus_times]; simp [timesL]; omega
theorem change_self {a : List (List Int × Int)} (ha : Fit 1000000 a) (hla : a.length ≤ 1000) : changeL a a = [] := plus_minus ha hla
theorem change_facts {a b : List (List Int × Int)} (ha : Fit 1000000 a) (hb : Fit 1000000 b) (hla : a.length ≤ 1000) : SB (changeL a b) ∧ NZ (changeL a b) ∧ ∀ s, timesL (changeL a b) s = timesL b s - timesL a s := by
  obtain ⟨p1, p2, p3⟩ := Fit.plus (by omega) (by omega) hb ha.minus (by simp [minusL]; omega)
  exact ⟨p1, p2, fun s => by show timesL (plusL b (minusL a)) s = _; rw [p3, minus_times]; omega⟩
theorem change_turn {a b : List (List Int × Int)} (ha : Fit 1000000 a) (hb : Fit 1000000 b) (hla : a.length ≤ 1000) (hlb : b.length ≤ 1000) : changeL b a = minusL (changeL a b) := by
  obtain ⟨p1, p2, p3⟩ := change_facts ha hb hla
  obtain ⟨q1, q2, q3⟩ := change_facts hb ha hlb
  exact canon q1 (minus_sb p1) q2 (minus_nz p2) fun s => by rw [q3, minus_times, p3]; omega
theorem plus_change {a b : List (List Int × Int)} (ha : Fit 1000000 a) (hb : Fit 1000000 b) (hla : a.length ≤ 1000) (hd : bagOkB (changeL a b) = true) : plusL a (changeL a b) = b := by
  obtain ⟨hf, hl⟩ := bagOk_fit hd
  obtain ⟨p1, p2, p3⟩ := change_facts ha hb hla
  obtain ⟨q1, q2, q3⟩ := Fit.plus (by omega) (by omega) ha hf (by omega)
  exact canon q1 hb.1 q2 hb.2.1 fun s => by rw [q3, p3]; omega
theorem plus_length : ∀ (b a : List (List Int × Int)), (plusL a b).length ≤ a.length + b.length
  | [], a => by simp [plusL]
  | p :: bs, a => by
    have h1 := plus_length bs (withL a p.1 p.2)
    have h2 := withL_length (bag := a) (row := p.1) (n := p.2)
    have e : plusL a (p :: bs) = plusL (withL a p.1 p.2) bs := rfl
    rw [e]; simp; omega
theorem plus_rows {m : Nat} : ∀ {b a : List (List Int × Int)}, (∀ p ∈ a, p.1.length ≤ m) → (∀ p ∈ b, p.1.length ≤ m) → ∀ p ∈ plusL a b, p.1.length ≤ m
  | [], a, h1, _, p, hp => h1 p hp
  | q :: bs, a, h1, h2, p, hp => by
    refine plus_rows (b := bs) (a := withL a q.1 q.2) (fun x hx => ?_) (fun x hx => h2 x (by simp [hx])) p hp
    rw [withL_ins] at hx
    rcases ins_mem hx with hx | hx
    · exact h1 x hx
    · rw [hx]; exact h2 q (by simp)
end Go.Proofs.Ytcfnbpofbcendab

/- Plain facts for stage 4: tables of rows by their first number: one placed, one taken; the bag of a part. No program is spoken of. -/
namespace Go.Proofs.Ytcfnbpofbcendab
open Go.RowKit

/-- The key of a row. -/
def ky (r : List Int) : Int := ix r 0
def rowFit (wd : Int) (r : List Int) : Bool := (r.all fun z => inB z (-1000) 1000) && decide ((r.length : Int) = wd)
/-- Rows of that width, their keys rising, behind a key. -/
def tFrom (wd : Int) : Option Int → List (List Int) → Bool
  | _, [] => true
  | p, r :: rs => rowFit wd r && (match p with | none => true | some k => decide (k < ky r)) && tFrom wd (some (ky r)) rs
def rowsOkB (wd : Int) (rows : List (List Int)) : Bool := inB wd 1 4 && decide (rows.length ≤ 30) && tFrom wd none rows
/-- At which place a row of that key stands first (as many as there are: nowhere). -/
def idxK : List (List Int) → Int → Nat
  | [], _ => 0
  | r :: rs, k => if ky r = k then 0 else idxK rs k + 1
/-- How many stand ahead that are less. -/
def plcK : List (List Int) → Int → Nat
  | [], _ => 0
  | r :: rs, k => if ky r < k then plcK rs k + 1 else 0
def placedL (rows : List (List Int)) (row : List Int) : List (List Int) := rows.take (plcK rows (ky row)) ++ row :: rows.drop (plcK rows (ky row))
def takenL (rows : List (List Int)) (k : Int) : List (List Int) := rows.take (idxK rows k) ++ rows.drop (idxK rows k + 1)
theorem idx_le : ∀ (rows : List (List Int)) (k : Int), idxK rows k ≤ rows.length
  | [], _ => Nat.le_refl _
  | r :: rs, k => by
    have := idx_le rs k
    simp only [idxK, List.length_cons]; split <;> omega
theorem plc_le : ∀ (rows : List (List Int)) (k : Int), plcK rows k ≤ rows.length
  | [], _ => Nat.le_refl _
  | r :: rs, k => by
    have := plc_le rs k
    simp only [plcK, List.length_cons]; split <;> omega
/-- Keys rising. -/
def SK (rows : List (List Int)) : Prop := rows.Pairwise fun a b => ky a < ky b
theorem tFrom_sk {wd : Int} : ∀ {rows : List (List Int)} {p : Option Int}, tFrom wd p rows = true → SK rows ∧ (∀ r ∈ rows, rowFit wd r = true) ∧ ∀ q, p = some q → ∀ r ∈ rows, q < ky r
  | [], _, _ => ⟨List.Pairwise.nil, (fun r hr => by cases hr), fun q _ r hr => by cases hr⟩
  | r :: rs, p, h => by
    simp only [tFrom, Bool.and_eq_true] at h
    obtain ⟨i1, i2, i3⟩ := tFrom_sk h.2
    refine ⟨List.pairwise_cons.2 ⟨fun x hx => i3 _ rfl x hx, i1⟩, fun x hx => ?_, fun q hq x hx => ?_⟩
    · rcases List.mem_cons.1 hx with rfl | hx
      · exact h.1.1
      · exact i2 x hx
    · subst hq
      have h1 := of_decide_eq_true h.1.2
      rcases List.mem_cons.1 hx with rfl | hx
      · exact h1
      · have := i3 _ rfl x hx; omega
theorem sk_tFrom {wd : Int} : ∀ {rows : List (List Int)} {p : Option Int}, SK rows → (∀ r ∈ rows, rowFit wd r = true) → (∀ q, p = some q → ∀ r ∈ rows, q < ky r) → tFrom wd p rows = true
  | [], _, _, _, _ => rfl
  | r :: rs, p, h1, h2, h3 => by
    obtain ⟨ha, hb⟩ := List.pairwise_cons.1 h1
    simp only [tFrom, Bool.and_eq_true]
    refine ⟨⟨h2 r (by simp), ?_⟩, sk_tFrom hb (fun x hx => h2 x (List.mem_cons_of_mem _ hx)) fun q hq x hx => ?_⟩
    · cases p with
      | none => rfl
      | some q => exact decide_eq_true (h3 q rfl r (by simp))
    · cases hq; exact ha x hx
theorem rowsOk_iff {wd : Int} {rows : List (List Int)} : rowsOkB wd rows = true ↔ (inB wd 1 4 = true ∧ rows.length ≤ 30) ∧ SK rows ∧ ∀ r ∈ rows, rowFit wd r = true := by
  unfold rowsOkB
  rw [Bool.and_eq_true, Bool.and_eq_true, decide_eq_true_eq]
  constructor
  · rintro ⟨h1, h2⟩
    obtain ⟨a, b, _⟩ := tFrom_sk h2
    exact ⟨h1, a, b⟩
  · rintro ⟨h1, h2, h3⟩
    exact ⟨h1, sk_tFrom h2 h3 (fun q hq => by cases hq)⟩
theorem fit_len {wd : Int} {r : List Int} (h : rowFit wd r = true) : (r.length : Int) = wd := by
  unfold rowFit at h
  rw [Bool.and_eq_true, decide_eq_true_eq] at h
  exact h.2
/-- A key that is not there. -/
theorem idx_none : ∀ {rows : List (List Int)} {k : Int}, idxK rows k = rows.length ↔ ∀ r ∈ rows, ky r ≠ k
  | [], k => ⟨(fun _ r hr => by cases hr), fun _ => rfl⟩
  | r :: rs, k => by
    have ih := idx_none (rows := rs) (k := k)
    simp only [idxK, List.length_cons, List.forall_mem_cons]
    split
    · rename_i h; constructor
      · intro e; omega
      · intro e; exact absurd h e.1
    · rename_i h
      rw [Nat.add_right_cancel_iff, ih]
      exact ⟨fun e => ⟨h, e⟩, fun e => e.2⟩
theorem idx_split : ∀ {rows : List (List Int)} {k : Int}, idxK rows k < rows.length → ∃ r, rows.drop (idxK rows k) = r :: rows.drop (idxK rows k + 1) ∧ ky r = k ∧ r ∈ rows ∧ ∀ x ∈ rows.take (idxK rows k), ky x ≠ k
  | r :: rs, k, h => by
    by_cases e : ky r = k
    · refine ⟨r, ?_, e, by simp, ?_⟩
      · simp [idxK, e]
      · simp [idxK, e]
    · have h' : idxK rs k < rs.length := by simpa [idxK, e] using h
      obtain ⟨x, h1, h2, h3, h4⟩ := idx_split h'
      refine ⟨x, ?_, h2, List.mem_cons_of_mem _ h3, ?_⟩
      · simpa [idxK, e] using h1
      · intro y hy
        simp only [idxK, if_neg e, List.take_succ_cons] at hy
        rcases List.mem_cons.1 hy with rfl | hy
        · exact e
        · exact h4 y hy
theorem plc_take : ∀ (rows : List (List Int)) (k : Int), ∀ r ∈ rows.take (plcK rows k), ky r < k
  | [], _, r, h => by simp at h
  | x :: xs, k, r, h => by
    simp only [plcK] at h
    split at h
    · rename_i hx
      rw [List.take_succ_cons] at h
      rcases List.mem_cons.1 h with rfl | h
      · exact hx
      · exact plc_take xs k r h
    · simp at h
theorem plc_drop : ∀ {rows : List (List Int)} {k : Int}, SK rows → ∀ r ∈ rows.drop (plcK rows k), k ≤ ky r
  | [], _, _, r, h => by simp at h
  | x :: xs, k, hs, r, h => by
    obtain ⟨ha, hb⟩ := List.pairwise_cons.1 hs
    simp only [plcK] at h
    split at h
    · rw [List.drop_succ_cons] at h
      exact plc_drop hb r h
    · rename_i hx
      simp only [List.drop_zero] at h
      rcases List.mem_cons.1 h with rfl | h
      · omega
      · have := ha r h; omega
theorem placed_sk {rows : List (List Int)} {row : List Int} (h : SK rows) (hn : ∀ r ∈ rows, ky r ≠ ky row) : SK (placedL rows row) := by
  have e := List.take_append_drop (plcK rows (ky row)) rows
  have h' : SK (rows.take (plcK rows (ky row)) ++ rows.drop (plcK rows (ky row))) := by rw [e]; exact h
  obtain ⟨h1, h2, h3⟩ := List.pairwise_append.1 h'
  refine List.pairwise_append.2 ⟨h1, List.pairwise_cons.2 ⟨fun r hr => ?_, h2⟩, fun a ha b hb => ?_⟩
  · have k1 := plc_drop h r hr
    have k2 := hn r (List.mem_of_mem_drop hr)
    omega
  · rcases List.mem_cons.1 hb with rfl | hb
    · exact plc_take rows _ a ha
    · exact h3 a ha b hb
theorem idx_append_none : ∀ {xs ys : List (List Int)} {k : Int}, (∀ r ∈ xs, ky r ≠ k) → idxK (xs ++ ys) k = xs.length + idxK ys k
  | [], ys, k, _ => by simp
  | x :: xs, ys, k, h => by
    have := idx_append_none (xs := xs) (ys := ys) (k := k) (fun r hr => h r (List.mem_cons_of_mem _ hr))
    simp only [List.cons_append, idxK, if_neg (h x (by simp)), this, List.length_cons]; omega
theorem idx_placed {rows : List (List Int)} {row : List Int} : idxK (placedL rows row) (ky row) = plcK rows (ky row) ∧ (placedL rows row).length = rows.length + 1 := by
  have hp := plc_le rows (ky row)
  refine ⟨?_, ?_⟩
  · unfold placedL
    rw [idx_append_none (fun r hr => by have := plc_take rows _ r hr; omega)]
    simp [idxK]; omega
  · unfold placedL; simp; omega
theorem taken_placed (rows : List (List Int)) (row : List Int) : takenL (placedL rows row) (ky row) = rows := by
  have hp := plc_le rows (ky row)
  have hl : (rows.take (plcK rows (ky row))).length = plcK rows (ky row) := by rw [List.length_take]; omega
  unfold takenL
  rw [idx_placed.1]
  unfold placedL
  rw [List.take_append_of_le_length (by omega), List.take_of_length_le (by omega), List.drop_append, hl, List.drop_of_length_le (by omega), List.nil_append, show plcK rows (ky row) + 1 - plcK rows (ky row) = 1 by omega]
  simp
theorem placed_at (rows : List (List Int)) (row : List Int) : rr (placedL rows row) (plcK rows (ky row)) = row := by
  have hp := plc_le rows (ky row)
  unfold rr placedL
  rw [List.getElem?_append_right (by rw [List.length_take]; omega), List.length_take, Nat.min_eq_left hp, Nat.sub_self]; rfl
theorem placed_ok {wd : Int} {rows : List (List Int)} {row : List Int} (h : rowsOkB wd rows = true) (hr : rowFit wd row = true) (hn : idxK rows (ky row) = rows.length) (hl : rows.length ≠ 30) : rowsOkB wd (placedL rows row) = true := by
  obtain ⟨⟨h1, h2⟩, h3, h4⟩ := rowsOk_iff.1 h
  refine rowsOk_iff.2 ⟨⟨h1, by rw [idx_placed.2]; omega⟩, placed_sk h3 (idx_none.1 hn), fun r hm => ?_⟩
  unfold placedL at hm
  rcases List.mem_append.1 hm with hm | hm
  · exact h4 r (List.mem_of_mem_take hm)
  · rcases List.mem_cons.1 hm with rfl | hm
    · exact hr
    · exact h4 r (List.mem_of_mem_drop hm)
theorem taken_mem {rows : List (List Int)} {k : Int} {r : List Int} (h : r ∈ takenL rows k) : r ∈ rows := by
  unfold takenL at h
  rcases List.mem_append.1 h with h | h
  · exact List.mem_of_mem_take h
  · exact List.mem_of_mem_drop h
theorem taken_sub (rows : List (List Int)) (k : Int) : (takenL rows k).Sublist rows := by
  unfold takenL
  have e := List.take_append_drop (idxK rows k) rows
  conv => rhs; rw [← e]
  refine List.Sublist.append (List.Sublist.refl _) ?_
  rw [← List.drop_drop]
  exact List.drop_sublist _ _
theorem taken_ok {wd : Int} {rows : List (List Int)} {k : Int} (h : rowsOkB wd rows = true) : rowsOkB wd (takenL rows k) = true := by
  obtain ⟨⟨h1, h2⟩, h3, h4⟩ := rowsOk_iff.1 h
  have hs := taken_sub rows k
  exact rowsOk_iff.2 ⟨⟨h1, Nat.le_trans hs.length_le h2⟩, List.Pairwise.sublist hs h3, fun r hm => h4 r (taken_mem hm)⟩
theorem taken_none {rows : List (List Int)} {k : Int} (h : SK rows) (ht : idxK rows k < rows.length) : idxK (takenL rows k) k = (takenL rows k).length ∧ (takenL rows k).length + 1 = rows.length := by
  obtain ⟨r, h1, h2, _, h4⟩ := idx_split ht
  have hi := idx_le rows k
  refine ⟨idx_none.2 fun x hx => ?_, ?_⟩
  · unfold takenL at hx
    rcases List.mem_append.1 hx with hx | hx
    · exact h4 x hx
    · have hp : SK (rows.drop (idxK rows k)) := List.Pairwise.sublist (List.drop_sublist _ _) h
      rw [h1] at hp
      have := (List.pairwise_cons.1 hp).1 x hx
      omega
  · unfold takenL; simp; omega
/-- The rows whose key is more than f and not more than t, once each. -/
def bagIn (rows : List (List Int)) (f t : Int) : List (List Int × Int) := (rows.filter fun r => decide (f < ky r) && decide (ky r ≤ t)).map fun r => (r, 1)
theorem less_of_key {wd : Int} {a b : List Int} (ha : rowFit wd a = true) (hb : rowFit wd b = true) (hw : 1 ≤ wd) (h : ky a < ky b) : lessB a b = true := by
  have la := fit_len ha
  have lb := fit_len hb
  cases a with
  | nil => simp at la; omega
  | cons x xs =>
    cases b with
    | nil => simp at lb; omega
    | cons y ys =>
      have h' : x < y := by simpa [ky, ix] using h
      simp only [lessB]
      rw [if_neg (by omega)]
      exact decide_eq_true h'
theorem bagIn_sb {wd : Int} {rows : List (List Int)} {f t : Int} (h : rowsOkB wd rows = true) : SB (bagIn rows f t) ∧ NZ (bagIn rows f t) := by
  obtain ⟨⟨h1, h2⟩, h3, h4⟩ := rowsOk_iff.1 h
  have hw : 1 ≤ wd := by
    unfold inB at h1
    rw [Bool.and_eq_true, decide_eq_true_eq] at h1
    exact h1.1
  refine ⟨?_, fun p hp => ?_⟩
  · unfold SB bagIn
    rw [List.pairwise_map]
    have hs : SK (rows.filter fun r => decide (f < ky r) && decide (ky r ≤ t)) := List.Pairwise.sublist List.filter_sublist h3
    refine List.Pairwise.imp_of_mem (fun {a b} ha hb hab => ?_) hs
    exact less_of_key (h4 a (List.mem_filter.1 ha).1) (h4 b (List.mem_filter.1 hb).1) hw hab
  · obtain ⟨r, _, rfl⟩ := List.mem_map.1 hp
    simp
theorem bagIn_times {rows : List (List Int)} {f t : Int} (s : List Int) : timesL (bagIn rows f t) s = if s ∈ rows ∧ f < ky s ∧ ky s ≤ t then 1 else 0 := by
  induction rows with
  | nil => simp [bagIn, timesL]
  | cons r rs ih =>
    unfold bagIn at ih ⊢
    rw [List.filter_cons]
    by_cases hc : (decide (f < ky r) && decide (ky r ≤ t)) = true
    · rw [if_pos hc, List.map_cons, timesL]
      have hc' : f < ky r ∧ ky r ≤ t := by simpa using hc
      by_cases e : r = s
      · subst e
        rw [if_pos rfl, if_pos ⟨by simp, hc'⟩]
      · rw [if_neg e, ih]
        have : (s ∈ r :: rs) ↔ s ∈ rs := by
          rw [List.mem_cons]
          exact ⟨fun h => h.elim (fun h => absurd h.symm e) id, .inr⟩
        simp only [this]
    · rw [if_neg hc, ih]
      have hc' : ¬ (f < ky r ∧ ky r ≤ t) := by simpa using hc
      by_cases e : s = r
      · subst e
        rw [if_neg (fun h => hc' h.2), if_neg (fun h => hc' h.2)]
      · have : (s ∈ r :: rs) ↔ s ∈ rs := by
          rw [List.mem_cons]
          exact ⟨fun h => h.elim (fun h => absurd h e) id, .inr⟩
        simp only [this]
theorem fit_ok {wd : Int} {r : List Int} (h : rowFit wd r = true) (hw : wd ≤ 4) : rowOkB r = true := by
  have hl := fit_len h
  unfold rowFit at h
  rw [Bool.and_eq_true, List.all_eq_true] at h
  unfold rowOkB
  rw [Bool.and_eq_true]
  refine ⟨List.all_eq_true.2 fun z hz => ?_, decide_eq_true (by omega)⟩
  have := h.1 z hz
  unfold inB at this
  rw [Bool.and_eq_true, decide_eq_true_eq, decide_eq_true_eq] at this
  unfold cellB inB
  rw [decide_eq_true (by omega), decide_eq_true (by omega)]; rfl
theorem sb_ok : ∀ {b : List (List Int × Int)} {p : Option (List Int)}, SB b → (∀ q ∈ b, rowOkB q.1 = true ∧ q.2 ≠ 0 ∧ -1000000 ≤ q.2 ∧ q.2 ≤ 1000000) → (∀ r, p = some r → ∀ q ∈ b, lessB r q.1 = true) → okFrom p b = true
  | [], _, _, _, _ => rfl
  | (r, n) :: bs, p, h1, h2, h3 => by
    obtain ⟨ha, hb⟩ := List.pairwise_cons.1 h1
    obtain ⟨k1, k2, k3, k4⟩ := h2 (r, n) (by simp)
    simp only at k1 k2 k3 k4
    simp only [okFrom, Bool.and_eq_true]
    refine ⟨⟨⟨⟨k1, by simpa using k2⟩, ?_⟩, ?_⟩, sb_ok hb (fun x hx => h2 x (List.mem_cons_of_mem _ hx)) fun q hq x hx => ?_⟩
    · unfold inB; rw [decide_eq_true k3, decide_eq_true k4]; rfl
    · cases p with
      | none => rfl
      | some q => exact h3 q rfl (r, n) (by simp)
    · cases hq; exact ha x hx
theorem bagIn_ok {wd : Int} {rows : List (List Int)} {f t : Int} (h : rowsOkB wd rows = true) : bagOkB (bagIn rows f t) = true := by
  obtain ⟨hs, hz⟩ := bagIn_sb (f := f) (t := t) h
  obtain ⟨⟨h1, h2⟩, h3, h4⟩ := rowsOk_iff.1 h
  have hw : wd ≤ 4 := by
    unfold inB at h1
    rw [Bool.and_eq_true, decide_eq_true_eq, decide_eq_true_eq] at h1
    exact h1.2
  unfold bagOkB
  rw [Bool.and_eq_true, decide_eq_true_eq]
  refine ⟨sb_ok hs (fun q hq => ?_) (fun r hr => by cases hr), ?_⟩
  · obtain ⟨r, hr, rfl⟩ := List.mem_map.1 hq
    exact ⟨fit_ok (h4 r (List.mem_filter.1 hr).1) hw, by simp, by simp, by simp⟩
  · unfold bagIn
    rw [List.length_map]
    have := List.length_filter_le (fun r => decide (f < ky r) && decide (ky r ≤ t)) rows
    omega
theorem bagIn_plus {wd : Int} {rows : List (List Int)} {lo f t : Int} (h : rowsOkB wd rows = true) (h1 : lo ≤ f) (h2 : f ≤ t) : plusL (bagIn rows lo f) (bagIn rows f t) = bagIn rows lo t := by
  obtain ⟨fa, la⟩ := bagOk_fit (bagIn_ok (f := lo) (t := f) h)
  obtain ⟨fb, lb⟩ := bagOk_fit (bagIn_ok (f := f) (t := t) h)
  obtain ⟨p1, p2, p3⟩ := Fit.plus (by omega) (by omega) fa fb (by omega)
  obtain ⟨q1, q2⟩ := bagIn_sb (f := lo) (t := t) h
  refine canon p1 q1 p2 q2 fun s => ?_
  rw [p3, bagIn_times, bagIn_times, bagIn_times]
  by_cases hm : s ∈ rows
  · by_cases a1 : lo < ky s <;> by_cases a2 : ky s ≤ f <;> by_cases a3 : ky s ≤ t
    all_goals
      simp only [hm, a1, a2, a3, true_and, and_true, if_true, if_false, and_false]
      first | rfl | (rw [if_neg (by omega)]; rfl) | (rw [if_pos (by omega)]; rfl) | omega | skip
  · simp [hm]
end Go.Proofs.Ytcfnbpofbcendab

/- Rows in memory of the call's own, each in a block of its own: words and laws; how they grow by a row; how they read. No condition; of the program only the types of rows and numbers are named. -/
namespace Go.Proofs.Ytcfnbpofbcendab
open Go.RowKit

def rowCs (es : List Ent) : List Value := es.map fun e => .slice e.A e.r.length e.c
theorem rowCs_length (es : List Ent) : (rowCs es).length = es.length := by simp [rowCs]
theorem rowCs_append (es fs : List Ent) : rowCs (es ++ fs) = rowCs es ++ rowCs fs := by simp [rowCs]
theorem rowCs_take (es : List Ent) (k : Nat) : (rowCs es).take k = rowCs (es.take k) := by simp [rowCs, List.map_take]
theorem rowCs_drop (es : List Ent) (k : Nat) : (rowCs es).drop k = rowCs (es.drop k) := by simp [rowCs, List.map_drop]
theorem rowCs_get (es : List Ent) (k : Nat) (h : k < es.length) : (rowCs es)[k]? = some (.slice es[k].A es[k].r.length es[k].c) := by simp [rowCs, h]
theorem rowCs_one (es : List Ent) : ∀ u ∈ rowCs es, u.oneCell' = true := by
  intro u hu
  obtain ⟨e, _, rfl⟩ := List.mem_map.1 hu
  rfl
/-- The value v is a slice of rows of the call's own: its rows es. -/
def ORows (w : World) (lo : Nat) (v : Value) (es : List Ent) : Prop :=
  w.ownsRow lo 25 1 v es.length (rowCs es) ∧ EntsAt w lo v.ownBlock es
theorem ORows.inside {w : World} {lo : Nat} {v : Value} {es : List Ent} (h : ORows w lo v es) : Inside w.heap.size v es :=
  ⟨fun g hg => (h.1.lt g hg).2, fun e he hn => (h.2.1 e he).1.lt hn⟩
theorem ORows.keep {w w' : World} {lo hi : Nat} {v : Value} {es : List Ent} (h : ORows w lo v es) (hi' : Inside hi v es) (hk : ∀ b, lo ≤ b → b < hi → w'.heap[b]? = w.heap[b]?) : ORows w' lo v es := by
  refine ⟨own_keepB h.1 fun g hg => hk g (h.1.lt g hg).1 (hi'.1 g hg), fun e he => ?_, h.2.2⟩
  obtain ⟨h1, h2⟩ := h.2.1 e he
  exact ⟨h1.keepB fun hn => hk _ (h2 hn).1 (hi'.2 e he hn), h2⟩
theorem ORows.on {w w' : World} {lo : Nat} {v : Value} {es : List Ent} (h : ORows w lo v es) (hb : Below w.heap.size w w') : ORows w' lo v es :=
  h.keep h.inside fun b _ hlt => hb.block b hlt
theorem ORows.drewN {w : World} {lo : Nat} {v : Value} {es : List Ent} (h : ORows w lo v es) (n : Nat) : ORows (w.drewN n) lo v es := h
theorem ORows.form {w : World} {lo : Nat} {v : Value} {es : List Ent} (h : ORows w lo v es) : ∃ A cap, v = .slice A es.length cap := own_form h.1
theorem ORows.lower {w : World} {lo lo' : Nat} {v : Value} {es : List Ent} (h : ORows w lo v es) (hl : lo' ≤ lo) : ORows w lo' v es := by
  refine ⟨⟨h.1.1, ?_⟩, fun e he => ⟨(h.2.1 e he).1, fun hn => ⟨Nat.le_trans hl ((h.2.1 e he).2 hn).1, ((h.2.1 e he).2 hn).2⟩⟩, h.2.2⟩
  rcases h.1.2 with h2 | ⟨g, cap, cur, rfl, h4, h5⟩
  · exact .inl h2
  · exact .inr ⟨g, cap, cur, rfl, by omega, h5⟩
theorem ORows.nil {w : World} {lo : Nat} {v : Value} (h : w.ownsRow lo 25 1 v 0 []) : ORows w lo v [] := ⟨h, (fun e he => by cases he), List.Pairwise.nil⟩
theorem ORows.none_ (w : World) (lo : Nat) : ORows w lo (.slice none 0 0) [] := ORows.nil (World.ownsRow_nil _ _ _ _)
theorem ORows.push {w w' : World} {lo : Nat} {v v' : Value} {es : List Ent} {r : List Int} {n : Int} {A : Option Addr} {c g : Nat} (h : ORows w lo v es) (hg : w.grownBy w' v.ownBlock)
    (hown : w'.ownsRow lo 25 1 v' (es.length + 1) (rowCs es ++ [.slice A r.length c])) (hat : v'.ownBlock = v.ownBlock ∨ v'.ownBlock = some w.heap.size)
    (hR : Row w 2 A r g) (hgr : 0 < r.length → lo ≤ g ∧ some g ≠ v.ownBlock ∧ ∀ e ∈ es, 0 < e.r.length → e.g ≠ g) : ORows w' lo v' (es ++ [⟨r, n, A, c, g⟩]) := by
  have key : ∀ b, b < w.heap.size → some b ≠ v.ownBlock → some b ≠ v'.ownBlock := by
    intro b hb hne e
    rcases hat with ha | ha
    · exact hne (by rw [e, ha])
    · rw [ha] at e; injection e with e; omega
  refine ⟨?_, fun e he => ?_, ?_⟩
  · rw [rowCs_append]
    simpa [rowCs] using hown
  · rcases List.mem_append.1 he with he | he
    · obtain ⟨h1, h2⟩ := h.2.1 e he
      exact ⟨h1.kept hg fun hn => (h2 hn).2, fun hn => ⟨(h2 hn).1, key _ (h1.lt hn) (h2 hn).2⟩⟩
    · obtain rfl : e = ⟨r, n, A, c, g⟩ := by simpa using he
      exact ⟨hR.kept hg fun hn => (hgr hn).2.1, fun hn => ⟨(hgr hn).1, key _ (hR.lt hn) (hgr hn).2.1⟩⟩
  · rw [List.pairwise_append]
    refine ⟨h.2.2, List.pairwise_singleton _ _, fun a ha b hb hn hn' => ?_⟩
    obtain rfl : b = ⟨r, n, A, c, g⟩ := by simpa using hb
    exact (hgr hn').2.2 a ha hn
/-- With one more row, behind a copied one. -/
theorem ORows.pushRow {wr wd w1 w2 : World} {lo : Nat} {v v2 : Value} {es : List Ent} {r : List Int} {A1 : Option Addr} {cap1 g1 : Nat} {o : Obj} (hO : ORows wr lo v es) (hd : wd.heap = wr.heap) (hlo : lo ≤ wr.heap.size) (hg1 : wd.heap.size ≤ g1) (hR1 : Row w1 2 A1 r g1) (hO1 : ORows w1 lo v es)
    (hown2 : w2.ownsRow lo 25 1 v2 (es.length + 1) (rowCs es ++ [.slice A1 r.length cap1])) (hgrow2 : (w1.alloc o).grownBy w2 v.ownBlock)
    (hat2 : v2.ownBlock = v.ownBlock ∨ v2.ownBlock = some (w1.alloc o).heap.size) : ORows w2 lo v2 (es ++ [⟨r, 0, A1, cap1, g1⟩]) := by
  have b := (Below.refl w1.heap.size w1).alloc (Nat.le_refl _) o
  rw [hd] at hg1
  refine (hO1.on b).push hgrow2 hown2 hat2 (hR1.on b) fun hn => ⟨by omega, fun e => ?_, fun e he hn' => ?_⟩
  · have := hO.inside.1 g1 e.symm; omega
  · have := hO.inside.2 e he hn'; omega
theorem rr_map {es : List Ent} {j : Nat} (h : j < es.length) : rr (es.map Ent.r) j = es[j].r := by simp [rr, h]
/-- They read as their list. -/
theorem ORows.rws {w : World} {lo : Nat} {A : Option Addr} {cap : Nat} {es : List Ent} {n : Nat} (h : ORows w lo (.slice A n cap) es) (hl : ∀ e ∈ es, e.r.length ≤ 1099511627776) : Rws w w.heap.size A (es.map Ent.r) := fun hn => by
  simp only [List.length_map] at hn
  rcases h.1.2 with ⟨_, h0⟩ | ⟨g, cap', cur, hv, hg, hh, _, _, hs, ht⟩
  · omega
  · injection hv with hv _ _
    subst hv
    have hlt := Blk.lt (t := 25) (cs := cur) hh
    refine ⟨g, 0, rfl, hlt, fun j hj => ?_⟩
    simp only [List.length_map] at hj
    obtain ⟨h1, _⟩ := h.2.1 es[j] (List.getElem_mem hj)
    rw [rr_map hj]
    refine ⟨es[j].A, es[j].c, ?_, h1.ints, hl _ (List.getElem_mem hj)⟩
    rw [Nat.zero_add, Blk.cell (t := 25) (cs := cur) hh j, ← rowCs_get es j hj, ← ht, List.getElem?_take, if_pos (by omega), Array.getElem?_toList]
theorem ORows.formW {w : World} {lo : Nat} {v : Value} {es : List Ent} {rows : List (List Int)} (h : ORows w lo v es) (he : es.map Ent.r = rows) : ∃ A cap, v = .slice A rows.length cap := by
  obtain ⟨A, cap, rfl⟩ := h.form
  exact ⟨A, cap, by rw [← he, List.length_map]⟩
theorem ORows.rwsW {w : World} {lo n c : Nat} {A : Option Addr} {es : List Ent} {rows : List (List Int)} (h : ORows w lo (.slice A n c) es) (he : es.map Ent.r = rows) (hl : ∀ j, j < rows.length → (rr rows j).length ≤ 1099511627776) : Rws w w.heap.size A rows := by
  have hle : ∀ e ∈ es, e.r.length ≤ 1099511627776 := by
    intro e hm
    obtain ⟨j, hj, rfl⟩ := List.getElem_of_mem hm
    have := hl j (by rw [← he]; simpa using hj)
    rwa [← he, rr_map hj] at this
  rw [← he]; exact ORows.rws h hle
theorem Rws.here1 {w : World} {B : Nat} {A : Option Addr} {rows : List (List Int)} (h : Rws w B A rows) {j : Nat} (hj : j < rows.length) :
    ∃ b off Ar cap, A = some ⟨b, off, none⟩ ∧ b < B ∧ w.cell? ⟨b, off + j, none⟩ = some (.slice Ar (rr rows j).length cap) ∧ Ints w B Ar (rr rows j) ∧ (rr rows j).length ≤ 1099511627776 := by
  obtain ⟨b, off, e, hb, hc⟩ := h (by omega)
  obtain ⟨Ar, cap, h1, h2, h3⟩ := hc j hj
  exact ⟨b, off, Ar, cap, e, hb, h1, h2, h3⟩
theorem Rws.drewN {w : World} {B : Nat} {A : Option Addr} {rows : List (List Int)} (h : Rws w B A rows) (n : Nat) : Rws (w.drewN n) B A rows := h
theorem Rws.below {w w' : World} {B : Nat} {A : Option Addr} {rows : List (List Int)} (h : Rws w B A rows) (hb : Below B w w') : Rws w' B A rows := fun hn => by
  obtain ⟨b, off, e, hlt, hc⟩ := h hn
  refine ⟨b, off, e, hlt, fun j hj => ?_⟩
  obtain ⟨Ar, cap, h1, h2, h3⟩ := hc j hj
  exact ⟨Ar, cap, (hb.cell hlt).trans h1, h2.below hb, h3⟩
theorem Rws.more {w : World} {B B' : Nat} {A : Option Addr} {rows : List (List Int)} (h : Rws w B A rows) (hB : B ≤ B') : Rws w B' A rows := fun hn => by
  obtain ⟨b, off, e, hlt, hc⟩ := h hn
  refine ⟨b, off, e, by omega, fun j hj => ?_⟩
  obtain ⟨Ar, cap, h1, h2, h3⟩ := hc j hj
  exact ⟨Ar, cap, h1, h2.more hB, h3⟩
end Go.Proofs.Ytcfnbpofbcendab

/- Contracts of the model's l4Name and the program's nameOk: what the call returns; nothing that lay has turned. -/
namespace Go.Proofs.Ytcfnbpofbcendab
open Go.RowKit Go.Shelf
attribute [local go_sem] Oper.semAt_some

def azB (c : UInt8) : Bool := decide (97 ≤ c.toNat) && decide (c.toNat ≤ 122)
/-- A name: 1 to 6 bytes of a to z. -/
def nameB (s : ByteArray) : Bool := s.data.toList.all azB && inB (s.size : Int) 1 6
theorem name_step {s : ByteArray} {k : Nat} (h : k < s.size) : (s.data.toList.take (k + 1)).all azB = ((s.data.toList.take k).all azB && azB s[k]) := by
  have hk : k < s.data.toList.length := by rw [Array.length_toList]; exact h
  rw [List.take_succ_eq_append_getElem hk, List.all_append]
  simp
  rfl
theorem name_no {s : ByteArray} {k : Nat} (h : k < s.size) (ha : azB s[k] = false) : nameB s = false := by
  have hk : k < s.data.toList.length := by rw [Array.length_toList]; exact h
  unfold nameB
  rw [List.all_eq_false.2 ⟨s.data.toList[k], List.getElem_mem hk, by
    have e : s.data.toList[k] = s[k] := by simp; rfl
    rw [e, ha]; simp⟩]
  rfl
theorem name_short {s : ByteArray} (h : inB (s.size : Int) 1 6 = false) : nameB s = false := by unfold nameB; rw [h, Bool.and_false]
end Go.Proofs.Ytcfnbpofbcendab

/- Contracts of the model's reading of tables: l4Row, TableOk, l4Find: what the call returns; nothing that lay has turned. -/
namespace Go.Proofs.Ytcfnbpofbcendab
open Go.RowKit

theorem fit_no {wd : Int} {zs : List Int} {k : Nat} (h : k < zs.length) (hf : inB (ix zs k) (-1000) 1000 = false) : rowFit wd zs = false := by
  unfold rowFit
  rw [List.all_eq_false.2 ⟨zs[k], List.getElem_mem h, by rw [← ix_eq zs k h, hf]; simp⟩]; rfl
end Go.Proofs.Ytcfnbpofbcendab

/- Contracts of the model's TableOk and l4Find: what the call returns; nothing that lay has turned. -/
namespace Go.Proofs.Ytcfnbpofbcendab
open Go.RowKit

/-- A right table. -/
def tabB (s : ByteArray) (wd : Int) (rows : List (List Int)) : Bool := nameB s && rowsOkB wd rows
def prevK (rows : List (List Int)) : Nat → Option Int
  | 0 => none
  | k + 1 => some (ky (rr rows k))
theorem rows_drop {rows : List (List Int)} {k : Nat} (h : k < rows.length) : rows.drop k = rr rows k :: rows.drop (k + 1) := by
  rw [rr_eq h]; exact List.drop_eq_getElem_cons h
theorem tFrom_step {wd : Int} {rows : List (List Int)} {k : Nat} (h : k < rows.length) : tFrom wd (prevK rows k) (rows.drop k) = (rowFit wd (rr rows k) && (match prevK rows k with | none => true | some q => decide (q < ky (rr rows k))) && tFrom wd (prevK rows (k + 1)) (rows.drop (k + 1))) := by
  rw [rows_drop h]; rfl
/-- The first number of a row that has one. -/
theorem Ints.first {w : World} {B : Nat} {A : Option Addr} {zs : List Int} (h : Ints w B A zs) (h0 : 0 < zs.length) : ∃ b off, A = some ⟨b, off, none⟩ ∧ b < B ∧ w.cell? ⟨b, off, none⟩ = some (.int .i64 (ky zs)) := by
  obtain ⟨b, off, e, hb, hc⟩ := h h0
  exact ⟨b, off, e, hb, by simpa [ky] using hc 0 h0⟩
theorem fit_pos {wd : Int} {r : List Int} (h : rowFit wd r = true) (hw : inB wd 1 4 = true) : 0 < r.length := by
  have := fit_len h
  unfold inB at hw
  rw [Bool.and_eq_true, decide_eq_true_eq] at hw
  omega
/-- At which place; -1 where there is none. -/
def findK (rows : List (List Int)) (k : Int) : Int := if idxK rows k < rows.length then (idxK rows k : Int) else -1
theorem idx_yes {rows : List (List Int)} {k : Nat} {q : Int} (h : k < rows.length) (e : ky (rr rows k) = q) : idxK (rows.drop k) q = 0 := by rw [rows_drop h, idxK, if_pos e]
theorem idx_no {rows : List (List Int)} {k : Nat} {q : Int} (h : k < rows.length) (e : ¬ ky (rr rows k) = q) : idxK (rows.drop k) q = idxK (rows.drop (k + 1)) q + 1 := by rw [rows_drop h, idxK, if_neg e]
end Go.Proofs.Ytcfnbpofbcendab

/- Contracts of the model's RowAt and l4Copy: a row, a table of the call's own; nothing that lay has turned. -/
namespace Go.Proofs.Ytcfnbpofbcendab
open Go.RowKit

def thereB (s : ByteArray) (wd : Int) (rows : List (List Int)) (q : Int) : Bool := tabB s wd rows && decide (idxK rows q < rows.length)
def atL (s : ByteArray) (wd : Int) (rows : List (List Int)) (q : Int) : List Int := if thereB s wd rows q = true then rr rows (idxK rows q) else []
/-- A row of the call's own, and whether it is there. -/
def AtRow (zs : List Int) (b : Bool) (w : World) (e : Ending) (w' : World) : Prop :=
  ∃ v, e = .returned (.tuple #[v, .bool b]) ∧ w'.ownsRow w.heap.size 2 1 v zs.length (i64l zs) ∧ Below w.heap.size w w'
theorem tab_pos {s : ByteArray} {wd : Int} {rows : List (List Int)} (h : tabB s wd rows = true) : ∀ j, j < rows.length → 0 < (rr rows j).length := fun j hj => by
  unfold tabB at h
  rw [Bool.and_eq_true] at h
  obtain ⟨⟨h1, _⟩, _, h4⟩ := rowsOk_iff.1 h.2
  exact fit_pos (h4 (rr rows j) (by rw [rr_eq hj]; exact List.getElem_mem hj)) h1
theorem tab_len {s : ByteArray} {wd : Int} {rows : List (List Int)} (h : tabB s wd rows = true) : rows.length ≤ 30 := by
  unfold tabB at h
  rw [Bool.and_eq_true] at h
  exact (rowsOk_iff.1 h.2).1.2
theorem own_low {w : World} {base base' : Nat} {e : TypeId} {size : Nat} {v : Value} {n : Nat} {xs : List Value} (h : w.ownsRow base e size v n xs) (hl : base' ≤ base) : w.ownsRow base' e size v n xs := by
  refine ⟨h.1, ?_⟩
  rcases h.2 with h2 | ⟨g, cap, cur, rfl, h4, h5⟩
  · exact .inl h2
  · exact .inr ⟨g, cap, cur, rfl, by omega, h5⟩
theorem info_rowT : (Try.prog.info? 25).map (fun i => (i.zero, i.size, i.bytes)) = some (some (.slice none 0 0), 1, 24) := by kernel_rfl
theorem reads_newT (w : World) (t : TypeId) (u0 : Value) : Reads (w.alloc (.cells #[u0] t)) (w.heap.size + 1) 1 (some ⟨w.heap.size, 0, none⟩) 1 [u0] := by
  refine ⟨rfl, fun _ => ⟨_, rfl, Nat.lt_succ_self _, fun j u hu => ?_⟩⟩
  have hB := Blk.new w t #[u0]
  have ea : Addr.add ⟨w.heap.size, 0, none⟩ j = ⟨w.heap.size, 0 + j, none⟩ := by unfold Addr.add; split <;> simp_all
  rw [ea, Nat.zero_add, hB.cell j, ← hu]
  simp
/-- A table of the call's own: its name, its width, its rows. -/
def OwnTab (lo : Nat) (s : ByteArray) (wd : Int) (rows : List (List Int)) (v : Value) (w' : World) : Prop :=
  ∃ u es, v = .agg #[.string s, .int .i64 wd, u] ∧ ORows w' lo u es ∧ es.map Ent.r = rows
end Go.Proofs.Ytcfnbpofbcendab

/- Rows of the call's own that begin a block: cut, left out, put between. No condition; of the program only the types of rows and numbers are named. -/
namespace Go.Proofs.Ytcfnbpofbcendab
open Go.RowKit

/-- The same, not nil: the counts begin block g. -/
def OR (w : World) (lo g cap : Nat) (es : List Ent) : Prop := ORows w lo (.slice (some ⟨g, 0, none⟩) es.length cap) es
theorem OR.lt {w : World} {lo g cap : Nat} {es : List Ent} (h : OR w lo g cap es) : lo ≤ g ∧ g < w.heap.size := h.1.lt g rfl
theorem ORows.orr {w : World} {lo g : Nat} {v : Value} {es : List Ent} (h : ORows w lo v es) (hv : v.ownBlock = some g) : ∃ cap, v = .slice (some ⟨g, 0, none⟩) es.length cap ∧ OR w lo g cap es := by
  rcases h.1.2 with ⟨rfl, _⟩ | ⟨g', cap, cur, rfl, _⟩
  · cases hv
  · have e : g' = g := Option.some.inj hv
    subst e
    exact ⟨cap, rfl, h⟩
theorem OR.parts {w : World} {lo g cap : Nat} {es : List Ent} (h : OR w lo g cap es) : ∃ cur : Array Value, lo ≤ g ∧ w.heap[g]? = some (.cells cur 25 (0, 0)) ∧ es.length ≤ cap ∧ cap ≤ maxLen ∧ cur.size = cap * 1 ∧ cur.toList.take (es.length * 1) = rowCs es := by
  rcases h.1.2 with ⟨hv, _⟩ | ⟨g', cap', cur, hv, h2, h3, h4, h5, h6, h7⟩
  · cases hv
  · injection hv with h8 _ h10
    injection h8 with h8
    injection h8 with h8 _ _
    subst h8 h10
    exact ⟨cur, h2, h3, h4, h5, h6, h7⟩
/-- The first k of the counts, in place. -/
theorem OR.take {w : World} {lo g cap : Nat} {es : List Ent} (h : OR w lo g cap es) {k : Nat} (hk : k ≤ es.length) : w.ownsRow lo 25 1 (.slice (some ⟨g, 0, none⟩) k cap) k (rowCs (es.take k)) := by
  obtain ⟨cur, h2, h3, h4, h5, h6, h7⟩ := h.parts
  refine ⟨by rw [rowCs_length]; simp; omega, .inr ⟨g, cap, cur, rfl, h2, h3, by omega, h5, h6, ?_⟩⟩
  rw [← rowCs_take es k, ← h7, List.take_take, Nat.min_eq_left (by omega), Nat.mul_one]
theorem OR.reads {w : World} {lo g cap : Nat} {es : List Ent} (h : OR w lo g cap es) : Reads w (g + 1) 1 (some ⟨g, 0, none⟩) es.length (rowCs es) := by
  have := Reads.of_own h.1
  refine ⟨this.1, fun hn => ?_⟩
  obtain ⟨ad, e, _, hc⟩ := this.2 hn
  injection e with e
  subst e
  exact ⟨_, rfl, Nat.lt_succ_self _, hc⟩
/-- The counts from place k on. -/
theorem OR.readsFrom {w : World} {lo g cap : Nat} {es : List Ent} (h : OR w lo g cap es) {k : Nat} (hk : k ≤ es.length) : Reads w (g + 1) 1 (if cap = k then some ⟨g, 0, none⟩ else some ⟨g, k, none⟩) (es.length - k) (rowCs (es.drop k)) := by
  obtain ⟨_, _, _, h4, _⟩ := h.parts
  have := h.reads.cut hk h4
  have e : Addr.add ⟨g, 0, none⟩ k = ⟨g, k, none⟩ := by unfold Addr.add; split <;> simp_all
  rw [Nat.mul_one, rowCs_drop es k, Option.map_some, e] at this
  exact this
/-- Counts left out, the rest where they stand or moved: behind an append to the block itself. -/
theorem ORows.regrow {w w' : World} {lo : Nat} {v v' : Value} {es es' : List Ent} (h : ORows w lo v es) (hsub : es'.Sublist es) (hg : w.grownBy w' v.ownBlock) (hown : w'.ownsRow lo 25 1 v' es'.length (rowCs es')) (hat : v'.ownBlock = v.ownBlock ∨ v'.ownBlock = some w.heap.size) : ORows w' lo v' es' := by
  refine ⟨hown, fun e he => ?_, h.2.2.sublist hsub⟩
  obtain ⟨h1, h2⟩ := h.2.1 e (hsub.subset he)
  refine ⟨h1.kept hg fun hn => (h2 hn).2, fun hn => ⟨(h2 hn).1, fun e1 => ?_⟩⟩
  rcases hat with ha | ha
  · exact (h2 hn).2 (by rw [e1, ha])
  · rw [ha] at e1; injection e1 with e1; have := h1.lt hn; omega
/-- A count put between, behind two appends: to the cut block, and of what stood from there on. -/
theorem OR.insert {w9 wa w6 : World} {lo g cap k n9 : Nat} {es : List Ent} {row : List Int} {A9 : Option Addr} {cap9 g9 : Nat} {o : Obj} {va v6 : Value} (hO9 : OR w9 lo g cap es) (hk : k ≤ es.length) (hR9 : Row w9 2 A9 row g9) (h9 : n9 ≤ g9) (hg9 : g < n9) (hes : ∀ e ∈ es, 0 < e.r.length → e.g < n9)
    (hgA : (w9.alloc o).grownBy wa (some g)) (hatA : va.ownBlock = some g ∨ va.ownBlock = some (w9.alloc o).heap.size) (hg6 : wa.grownBy w6 va.ownBlock) (hat6 : v6.ownBlock = va.ownBlock ∨ v6.ownBlock = some wa.heap.size)
    (hown6 : w6.ownsRow lo 25 1 v6 (k + 1 + (es.length - k)) (rowCs (es.take k) ++ [.slice A9 row.length cap9] ++ rowCs (es.drop k))) :
    ∃ g6 cap6, v6 = .slice (some ⟨g6, 0, none⟩) (es.take k ++ (⟨row, 0, A9, cap9, g9⟩ : Ent) :: es.drop k).length cap6 ∧ OR w6 lo g6 cap6 (es.take k ++ (⟨row, 0, A9, cap9, g9⟩ : Ent) :: es.drop k) := by
  have hlo := hO9.lt
  have hsz : (w9.alloc o).heap.size = w9.heap.size + 1 := World.size_alloc _ _
  have hsA := hgA.size
  have hown : ∀ b, b < w9.heap.size → b ≠ g → some b ≠ va.ownBlock ∧ some b ≠ v6.ownBlock := by
    intro b hb hne
    have h1 : some b ≠ va.ownBlock := by
      intro e
      rcases hatA with h | h <;> rw [h] at e <;> injection e with e <;> omega
    refine ⟨h1, fun e => ?_⟩
    rcases hat6 with h | h
    · exact h1 (e.trans h)
    · rw [h] at e; injection e with e; omega
  have keep : ∀ (A : Option Addr) (r : List Int) (b : Nat), Row w9 2 A r b → (0 < r.length → b ≠ g) → Row w6 2 A r b := by
    intro A r b hR hne
    have h1 : Row (w9.alloc o) 2 A r b := hR.on ((Below.refl w9.heap.size w9).alloc (Nat.le_refl _) o)
    have h2 := h1.kept hgA fun hn e => hne hn (Option.some.inj e)
    exact h2.kept hg6 fun hn => (hown b (hR.lt hn) (hne hn)).1
  have hlen : (es.take k ++ (⟨row, 0, A9, cap9, g9⟩ : Ent) :: es.drop k).length = k + 1 + (es.length - k) := by simp; omega
  have hcells : rowCs (es.take k ++ (⟨row, 0, A9, cap9, g9⟩ : Ent) :: es.drop k) = rowCs (es.take k) ++ [.slice A9 row.length cap9] ++ rowCs (es.drop k) := by
    rw [rowCs_append]; simp [rowCs]
  have hO6 : ORows w6 lo v6 (es.take k ++ (⟨row, 0, A9, cap9, g9⟩ : Ent) :: es.drop k) := by
    refine ⟨by rw [hlen, hcells]; exact hown6, fun e he => ?_, ?_⟩
    · have hmem : e ∈ es ∨ e = ⟨row, 0, A9, cap9, g9⟩ := by
        rcases List.mem_append.1 he with h | h
        · exact .inl (List.mem_of_mem_take h)
        · rcases List.mem_cons.1 h with h | h
          · exact .inr h
          · exact .inl (List.mem_of_mem_drop h)
      rcases hmem with h | h
      · obtain ⟨h1, h2⟩ := hO9.2.1 e h
        have hne : 0 < e.r.length → e.g ≠ g := fun hn e1 => (h2 hn).2 (by rw [e1]; rfl)
        exact ⟨keep _ _ _ h1 hne, fun hn => ⟨(h2 hn).1, (hown _ (h1.lt hn) (hne hn)).2⟩⟩
      · subst h
        have hne : 0 < row.length → g9 ≠ g := fun _ => by omega
        exact ⟨keep _ _ _ hR9 hne, fun hn => ⟨by have := hlo.1; show lo ≤ g9; omega, (hown _ (hR9.lt hn) (hne hn)).2⟩⟩
    · have hperm : (es.take k ++ (⟨row, 0, A9, cap9, g9⟩ : Ent) :: es.drop k).Perm ((⟨row, 0, A9, cap9, g9⟩ : Ent) :: es) := by
        have := List.perm_middle (a := (⟨row, 0, A9, cap9, g9⟩ : Ent)) (l₁ := es.take k) (l₂ := es.drop k)
        rwa [List.take_append_drop] at this
      refine (hperm.pairwise_iff (fun hab hn hn' e => hab hn' hn e.symm)).2 (List.pairwise_cons.2 ⟨fun b hb _ hn' => ?_, hO9.2.2⟩)
      have := hes b hb hn'
      show g9 ≠ b.g
      omega
  have hv : ∃ g6, v6.ownBlock = some g6 := by
    rcases hat6 with h | h
    · rcases hatA with h' | h'
      · exact ⟨_, h.trans h'⟩
      · exact ⟨_, h.trans h'⟩
    · exact ⟨_, h⟩
  obtain ⟨g6, hg6'⟩ := hv
  obtain ⟨cap6, hv6, hOB⟩ := hO6.orr hg6'
  exact ⟨g6, cap6, hv6, hOB⟩
theorem ORows.far {w : World} {lo : Nat} {v : Value} {es : List Ent} (h : ORows w lo v es) (p : Addr) (u : Value) (hv : v.ownBlock ≠ some p.block) (hr : ∀ e ∈ es, 0 < e.r.length → e.g ≠ p.block) : ORows (w.setCell p u) lo v es := by
  refine ⟨own_keepB h.1 fun g hg => Below.heap_setCell w p u g (fun e => hv (by rw [hg, e])), fun e he => ?_, h.2.2⟩
  obtain ⟨h1, h2⟩ := h.2.1 e he
  exact ⟨h1.keepB fun hn => Below.heap_setCell w p u e.g (hr e he hn), h2⟩
theorem ORows.cases {w : World} {lo n c : Nat} {A : Option Addr} {es : List Ent} (h : ORows w lo (.slice A n c) es) : (A = none ∧ c = 0 ∧ es = []) ∨ ∃ g, A = some ⟨g, 0, none⟩ ∧ OR w lo g c es := by
  rcases h.1.2 with ⟨hv, h0⟩ | ⟨g, cap, cur, hv, _⟩
  · injection hv with h1 h2 h3
    exact .inl ⟨h1, h3, List.length_eq_zero_iff.1 (by omega)⟩
  · injection hv with h1 h2 h3
    subst h1 h2 h3
    exact .inr ⟨g, rfl, h⟩
theorem ORows.at0 {w : World} {lo : Nat} {v : Value} {es : List Ent} (h : ORows w lo v es) (hn : 0 < es.length) : ∃ g cap, v = .slice (some ⟨g, 0, none⟩) es.length cap ∧ OR w lo g cap es := by
  rcases h.1.2 with ⟨rfl, h0⟩ | ⟨g, cap, cur, rfl, _⟩
  · omega
  · exact ⟨g, cap, rfl, h⟩
end Go.Proofs.Ytcfnbpofbcendab

/- Rows in memory of the call's own, each in a block of its own, cut to any capacity: words and laws; a copy inside one block as a step. No condition; of the program only the types of rows and numbers are named. -/
namespace Go.Proofs.Ytcfnbpofbcendab
open Go.RowKit

section
variable {w w' : World} {lo : Nat} {no : Option Nat} {es : List Ent}
theorem EntsAt.keepB (h : EntsAt w lo no es) (hk : ∀ e ∈ es, 0 < e.r.length → w'.heap[e.g]? = w.heap[e.g]?) : EntsAt w' lo no es :=
  ⟨fun e he => ⟨(h.1 e he).1.keepB (hk e he), (h.1 e he).2⟩, h.2⟩
theorem EntsAt.lt (h : EntsAt w lo no es) : ∀ e ∈ es, 0 < e.r.length → e.g < w.heap.size := fun e he hn => (h.1 e he).1.lt hn
theorem EntsAt.on (h : EntsAt w lo no es) (hb : Below w.heap.size w w') : EntsAt w' lo no es := h.keepB fun e he hn => hb.block _ (h.lt e he hn)
theorem EntsAt.grown (h : EntsAt w lo no es) (hg : w.grownBy w' no) : EntsAt w' lo no es := h.keepB fun e he hn => hg.block _ (h.lt e he hn) ((h.1 e he).2 hn).2
theorem EntsAt.drewN (h : EntsAt w lo no es) (n : Nat) : EntsAt (w.drewN n) lo no es := h
theorem EntsAt.set_ {g : Nat} (h : EntsAt w lo (some g) es) (i : Nat) (u : Value) : EntsAt (w.setCell ⟨g, i, none⟩ u) lo (some g) es :=
  h.keepB fun e he hn => Below.heap_setCell w ⟨g, i, none⟩ u e.g (fun e1 => ((h.1 e he).2 hn).2 (congrArg some e1))
theorem EntsAt.far (h : EntsAt w lo no es) (p : Addr) (u : Value) (hr : ∀ e ∈ es, 0 < e.r.length → e.g ≠ p.block) : EntsAt (w.setCell p u) lo no es :=
  h.keepB fun e he hn => Below.heap_setCell w p u e.g (hr e he hn)
theorem EntsAt.renew {g : Nat} (h : EntsAt w lo no es) (hg : ∀ e ∈ es, 0 < e.r.length → e.g ≠ g) : EntsAt w lo (some g) es :=
  ⟨fun e he => ⟨(h.1 e he).1, fun hn => ⟨((h.1 e he).2 hn).1, fun e1 => hg e he hn (Option.some.inj e1)⟩⟩, h.2⟩
theorem EntsAt.sub {fs : List Ent} (h : EntsAt w lo no es) (hs : fs.Sublist es) : EntsAt w lo no fs := ⟨fun e he => h.1 e (hs.subset he), h.2.sublist hs⟩
theorem EntsAt.nil (w : World) (lo : Nat) (no : Option Nat) : EntsAt w lo no [] := ⟨(fun e he => by cases he), List.Pairwise.nil⟩
theorem EntsAt.lower {lo' : Nat} (h : EntsAt w lo no es) (hl : lo' ≤ lo) : EntsAt w lo' no es :=
  ⟨fun e he => ⟨(h.1 e he).1, fun hn => ⟨Nat.le_trans hl ((h.1 e he).2 hn).1, ((h.1 e he).2 hn).2⟩⟩, h.2⟩
/-- One more, put between at place k. -/
theorem EntsAt.ins {k : Nat} {e0 : Ent} (h : EntsAt w lo no es) (hR : Row w 2 e0.A e0.r e0.g) (hg : 0 < e0.r.length → lo ≤ e0.g ∧ some e0.g ≠ no ∧ ∀ e ∈ es, 0 < e.r.length → e.g ≠ e0.g) : EntsAt w lo no (es.take k ++ e0 :: es.drop k) := by
  refine ⟨fun e he => ?_, ?_⟩
  · have hmem : e ∈ es ∨ e = e0 := by
      rcases List.mem_append.1 he with h | h
      · exact .inl (List.mem_of_mem_take h)
      · rcases List.mem_cons.1 h with h | h
        · exact .inr h
        · exact .inl (List.mem_of_mem_drop h)
    rcases hmem with h1 | rfl
    · exact h.1 e h1
    · exact ⟨hR, fun hn => ⟨(hg hn).1, (hg hn).2.1⟩⟩
  · have hperm : (es.take k ++ e0 :: es.drop k).Perm (e0 :: es) := by
      have := List.perm_middle (a := e0) (l₁ := es.take k) (l₂ := es.drop k)
      rwa [List.take_append_drop] at this
    refine (hperm.pairwise_iff (fun hab hn hn' e => hab hn' hn e.symm)).2 (List.pairwise_cons.2 ⟨fun b hb hn hn' => ?_, h.2⟩)
    exact fun e => (hg hn).2.2 b hb hn' e.symm
end
theorem rowCs_ins (es : List Ent) (k : Nat) (e0 : Ent) : rowCs (es.take k ++ e0 :: es.drop k) = (rowCs es).take k ++ (.slice e0.A e0.r.length e0.c) :: (rowCs es).drop k := by
  rw [rowCs_append, rowCs_take, rowCs_drop]; simp [rowCs]

/-- The value v is a slice of rows of the call's own, whatever its capacity: its rows es. -/
def WRows (w : World) (lo : Nat) (v : Value) (es : List Ent) : Prop :=
  ((v = .slice none 0 0 ∧ es = []) ∨ ∃ g cap cur, v = .slice (some ⟨g, 0, none⟩) es.length cap ∧ lo ≤ g ∧ w.heap[g]? = some (.cells cur 25 (0, 0)) ∧ cur.toList.take es.length = rowCs es) ∧ EntsAt w lo v.ownBlock es
theorem ORows.weak {w : World} {lo : Nat} {v : Value} {es : List Ent} (h : ORows w lo v es) : WRows w lo v es := by
  refine ⟨?_, h.2⟩
  rcases h.1.2 with ⟨h1, h2⟩ | ⟨g, cap, cur, h1, h2, h3, _, _, _, h7⟩
  · exact .inl ⟨h1, List.length_eq_zero_iff.1 h2⟩
  · exact .inr ⟨g, cap, cur, h1, h2, h3, by rwa [Nat.mul_one] at h7⟩
theorem WRows.of_blk {w : World} {lo g cap : Nat} {cur : Array Value} {es : List Ent} (hB : Blk w g 25 cur) (ht : cur.toList.take es.length = rowCs es) (hE : EntsAt w lo (some g) es) (hlo : lo ≤ g) : WRows w lo (.slice (some ⟨g, 0, none⟩) es.length cap) es :=
  ⟨.inr ⟨g, cap, cur, rfl, hlo, hB, ht⟩, hE⟩
theorem WRows.lt {w : World} {lo : Nat} {v : Value} {es : List Ent} (h : WRows w lo v es) {g : Nat} (hg : v.ownBlock = some g) : lo ≤ g ∧ g < w.heap.size := by
  rcases h.1 with ⟨rfl, _⟩ | ⟨g', cap, cur, rfl, h2, h3, _⟩
  · cases hg
  · have e : g' = g := Option.some.inj hg
    subst e
    exact ⟨h2, Blk.lt (t := 25) (cs := cur) h3⟩
theorem WRows.inside {w : World} {lo : Nat} {v : Value} {es : List Ent} (h : WRows w lo v es) : Inside w.heap.size v es :=
  ⟨fun _ hg => (h.lt hg).2, fun e he hn => (h.2.1 e he).1.lt hn⟩
theorem WRows.keep {w w' : World} {lo hi : Nat} {v : Value} {es : List Ent} (h : WRows w lo v es) (hi' : Inside hi v es) (hk : ∀ b, lo ≤ b → b < hi → w'.heap[b]? = w.heap[b]?) : WRows w' lo v es := by
  refine ⟨?_, h.2.keepB fun e he hn => hk _ ((h.2.1 e he).2 hn).1 (hi'.2 e he hn)⟩
  rcases h.1 with h1 | ⟨g, cap, cur, rfl, h2, h3, h4⟩
  · exact .inl h1
  · exact .inr ⟨g, cap, cur, rfl, h2, (hk g h2 (hi'.1 g rfl)).trans h3, h4⟩
theorem WRows.on {w w' : World} {lo : Nat} {v : Value} {es : List Ent} (h : WRows w lo v es) (hb : Below w.heap.size w w') : WRows w' lo v es :=
  h.keep h.inside fun b _ hlt => hb.block b hlt
theorem WRows.form {w : World} {lo : Nat} {v : Value} {es : List Ent} (h : WRows w lo v es) : ∃ A cap, v = .slice A es.length cap := by
  rcases h.1 with ⟨rfl, rfl⟩ | ⟨g, cap, cur, rfl, _⟩
  · exact ⟨none, 0, rfl⟩
  · exact ⟨_, cap, rfl⟩
theorem WRows.lower {w : World} {lo lo' : Nat} {v : Value} {es : List Ent} (h : WRows w lo v es) (hl : lo' ≤ lo) : WRows w lo' v es := by
  refine ⟨?_, h.2.lower hl⟩
  rcases h.1 with h1 | ⟨g, cap, cur, h1, h2, h3⟩
  · exact .inl h1
  · exact .inr ⟨g, cap, cur, h1, by omega, h3⟩
theorem WRows.len {w : World} {lo n c : Nat} {A : Option Addr} {es : List Ent} (h : WRows w lo (.slice A n c) es) : n = es.length := by
  obtain ⟨A', cap, e⟩ := h.form
  injection e
theorem WRows.cellAt {w : World} {lo g n c : Nat} {es : List Ent} (h : WRows w lo (.slice (some ⟨g, 0, none⟩) n c) es) {i : Nat} (hi : i < es.length) : w.cell? ⟨g, i, none⟩ = some (.slice es[i].A es[i].r.length es[i].c) := by
  rcases h.1 with ⟨hv, _⟩ | ⟨g', cap', cur, hv, _, hh, ht⟩
  · cases hv
  · injection hv with hv _ _
    injection hv with hv
    injection hv with hv _ _
    subst hv
    rw [Blk.cell (t := 25) (cs := cur) hh i, ← rowCs_get es i hi, ← ht, List.getElem?_take, if_pos hi, Array.getElem?_toList]
theorem WRows.addr {w : World} {lo n c : Nat} {A : Option Addr} {es : List Ent} (h : WRows w lo (.slice A n c) es) (hn : 0 < n) : ∃ g, A = some ⟨g, 0, none⟩ := by
  rcases h.1 with ⟨hv, he⟩ | ⟨g, cap', cur, hv, _⟩
  · injection hv; omega
  · exact ⟨g, by injection hv⟩
theorem WRows.rws {w : World} {lo : Nat} {A : Option Addr} {cap : Nat} {es : List Ent} {n : Nat} (h : WRows w lo (.slice A n cap) es) (hl : ∀ e ∈ es, e.r.length ≤ 1099511627776) : Rws w w.heap.size A (es.map Ent.r) := fun hn => by
  simp only [List.length_map] at hn
  obtain ⟨g, rfl⟩ := h.addr (by rw [h.len]; exact hn)
  refine ⟨g, 0, rfl, (h.lt rfl).2, fun j hj => ?_⟩
  simp only [List.length_map] at hj
  obtain ⟨h1, _⟩ := h.2.1 es[j] (List.getElem_mem hj)
  rw [rr_map hj]
  exact ⟨es[j].A, es[j].c, by rw [Nat.zero_add]; exact h.cellAt hj, h1.ints, hl _ (List.getElem_mem hj)⟩
theorem WRows.formW {w : World} {lo : Nat} {v : Value} {es : List Ent} {rows : List (List Int)} (h : WRows w lo v es) (he : es.map Ent.r = rows) : ∃ A cap, v = .slice A rows.length cap := by
  obtain ⟨A, cap, rfl⟩ := h.form
  exact ⟨A, cap, by rw [← he, List.length_map]⟩
theorem ents_rr {es : List Ent} {rows : List (List Int)} {m : Nat} (he : es.map Ent.r = rows) (hl : ∀ j, j < rows.length → (rr rows j).length ≤ m) : ∀ e ∈ es, e.r.length ≤ m := fun e hm => by
  obtain ⟨j, hj, rfl⟩ := List.getElem_of_mem hm
  have := hl j (by rw [← he]; simpa using hj)
  rwa [← he, rr_map hj] at this
theorem WRows.rwsW {w : World} {lo n c : Nat} {A : Option Addr} {es : List Ent} {rows : List (List Int)} (h : WRows w lo (.slice A n c) es) (he : es.map Ent.r = rows) (hl : ∀ j, j < rows.length → (rr rows j).length ≤ 1099511627776) : Rws w w.heap.size A rows := by
  have := WRows.rws h (ents_rr he hl)
  rwa [he] at this
/-- A table of the call's own: its name, its width, its rows (whatever the capacity). -/
def WTab (lo : Nat) (s : ByteArray) (wd : Int) (rows : List (List Int)) (v : Value) (w' : World) : Prop :=
  ∃ u es, v = .agg #[.string s, .int .i64 wd, u] ∧ WRows w' lo u es ∧ es.map Ent.r = rows
def WAns (s : ByteArray) (wd : Int) (rows : List (List Int)) (b : Bool) (w : World) (e : Ending) (w' : World) : Prop :=
  ∃ v, e = .returned (.tuple #[v, .bool b]) ∧ WTab w.heap.size s wd rows v w' ∧ Below w.heap.size w w'

theorem grown_setRow (w : World) (g : Nat) (cs : Array Value) : w.grownBy (w.setRow g cs) (some g) :=
  ⟨rfl, rfl, rfl, by simp [World.setRow], fun k _ hne => setRow_other w g k cs (fun e => hne (by rw [e]))⟩
/-- copy into a block that is known whole, as a step of a region that draws its order: all else stays. -/
theorem step_copy_grown {P : Program} {ops : Array Oper} {o : Oper} {a : Act} {w : World} {K : Act → World → Prop} {Q : Exit → Act → World → Prop} {E : Prop} (hgd : o.guard = none) (d s : Operand) (dT sT : TypeId)
    (ho : o.op = .call { callee := .builtin .copy, args := #[d, s], argTypes := #[dT, sT] }) (elem : TypeId) (hu : P.underlying dT = some (.slice elem)) (hsz : (P.info? elem).map (·.size) = some 1)
    (dp sp : Option Addr) (dLen dCap sLen sCap : Nat) (hd : a.eval d = .slice dp dLen dCap) (hs : a.eval s = .slice sp sLen sCap)
    (g off : Nat) (cur : List Value) (t : TypeId) (hg : w.heap[g]? = some (.cells cur.toArray t (0, 0))) (cs : List Value) (hn : cs.length = Nat.min sLen dLen)
    (hpos : 0 < cs.length → dp = some ⟨g, off, none⟩ ∧ ∃ ad, sp = some ad ∧ ∀ j v, cs[j]? = some v → w.cell? (ad.add j) = some v)
    (hfit : off + cs.length ≤ cur.length) (h1 : ∀ v ∈ cs, v.oneCell' = true)
    (h : ∀ w', Hid (w'.heap[g]? = some (.cells (splice cur off cs).toArray t (0, 0))) → w.grownBy w' (some g) → w'.heap.size = w.heap.size → K (a.put o.dst (goInt cs.length)) w') :
    if Region.wanted o (yielded ops a.tmps) = true then Oper.wp P o a w K Q else E := by
  have hw : Region.wanted o (yielded ops a.tmps) = true := by simp [Region.wanted, hgd]
  rw [if_pos hw]
  by_cases h0 : cs.length = 0
  · obtain rfl : cs = [] := List.eq_nil_of_length_eq_zero h0
    have hrun := run_copy_none (P := P) w dT sT o.type elem dp sp dLen dCap sLen sCap hu hsz (by simpa using hn.symm)
    unfold Oper.wp
    simp [execOp, ho, resolve, invoke, builtin, hd, hs, hrun, Result.andThen]
    exact h w (show _ = _ by simpa [splice] using hg) ⟨rfl, rfl, rfl, Nat.le_refl _, fun _ _ _ => rfl⟩ rfl
  · obtain ⟨rfl, ad, rfl, hsrc⟩ := hpos (by omega)
    have hrun := run_copy_row (P := P) w dT sT o.type elem g off dLen dCap ad sLen sCap cur.toArray t cs hu hsz hg hn hsrc (by simpa using hfit) h1
    unfold Oper.wp
    simp [execOp, ho, resolve, invoke, builtin, hd, hs, hrun, Result.andThen]
    exact h _ (show _ = _ by simpa [splice] using setRow_heap w g _ _ t _ hg) (grown_setRow w g _) (by simp [World.setRow])
end Go.Proofs.Ytcfnbpofbcendab

/- The laws' marking of own rows and of own tables, and the asking whether they still hold: contracts; nothing else has turned. -/
namespace Go.Proofs.Ytcfnbpofbcendab
open Go.RowKit

theorem rowCs_setR (es : List Ent) (i : Nat) (h : i < es.length) (r : List Int) (hr : r.length = es[i].r.length) : rowCs (es.set i { es[i] with r := r }) = rowCs es := by
  unfold rowCs
  apply List.ext_getElem
  · simp
  · intro j h1 h2
    rw [List.getElem_map, List.getElem_map, List.getElem_set]
    split
    · rename_i e; subst e; simp [hr]
    · rfl
/-- A row of it written anew. -/
theorem WRows.setR {w w' : World} {lo : Nat} {v : Value} {es : List Ent} (h : WRows w lo v es) {i : Nat} (hi : i < es.length) (r : List Int) (hr : r.length = es[i].r.length) (hR : Row w' 2 es[i].A r es[i].g) (hg : 0 < es[i].r.length → w.grownBy w' (some es[i].g)) (hg0 : es[i].r.length = 0 → Below w.heap.size w w') : WRows w' lo v (es.set i { es[i] with r := r }) := by
  have hkeep : ∀ b, b < w.heap.size → (0 < es[i].r.length → b ≠ es[i].g) → w'.heap[b]? = w.heap[b]? := by
    intro b hb hne
    rcases Nat.eq_zero_or_pos es[i].r.length with h0 | h0
    · exact (hg0 h0).block b hb
    · exact (hg h0).block b hb (fun e => hne h0 (Option.some.inj e))
  obtain ⟨hRi, hni⟩ := h.2.1 es[i] (List.getElem_mem hi)
  have hpw := List.pairwise_iff_getElem.1 h.2.2
  refine ⟨?_, fun e he => ?_, ?_⟩
  · rcases h.1 with ⟨_, rfl⟩ | ⟨g, cap, cur, rfl, h2, h3, h4⟩
    · simp at hi
    · refine .inr ⟨g, cap, cur, by rw [List.length_set], h2, (hkeep g (Blk.lt (t := 25) (cs := cur) h3) fun h0 e => ?_).trans h3, by rw [rowCs_setR es i hi r hr, List.length_set]; exact h4⟩
      subst e
      exact (hni h0).2 rfl
  · obtain ⟨j, hj, rfl⟩ := List.getElem_of_mem he
    have hj' : j < es.length := by simpa using hj
    rw [List.getElem_set]
    by_cases e : i = j
    · subst e
      rw [if_pos rfl]
      exact ⟨hR, fun hn => hni (by rw [← hr]; exact hn)⟩
    · rw [if_neg e]
      obtain ⟨h1, h2⟩ := h.2.1 es[j] (List.getElem_mem hj')
      refine ⟨h1.keepB fun hn => hkeep _ (h1.lt hn) fun h0 => ?_, h2⟩
      rcases Nat.lt_or_ge i j with hij | hij
      · exact (hpw i j hi hj' hij h0 hn).symm
      · exact hpw j i hj' hi (by omega) hn h0
  · rw [List.pairwise_iff_getElem]
    intro a b ha hb hab
    have key : ∀ j (hj : j < es.length) (hj' : j < (es.set i { es[i] with r := r }).length), (es.set i { es[i] with r := r })[j].r.length = es[j].r.length ∧ (es.set i { es[i] with r := r })[j].g = es[j].g := by
      intro j hj hj'
      rw [List.getElem_set]
      split
      · rename_i e; subst e; exact ⟨hr, rfl⟩
      · exact ⟨rfl, rfl⟩
    have ha' : a < es.length := by simpa using ha
    have hb' : b < es.length := by simpa using hb
    rw [(key a ha' _).1, (key a ha' _).2, (key b hb' _).1, (key b hb' _).2]
    exact hpw a b ha' hb' hab
/-- Own rows that lie between lo and hi. -/
def RIn (w : World) (lo hi : Nat) (v : Value) (es : List Ent) : Prop := WRows w lo v es ∧ Inside hi v es ∧ hi ≤ w.heap.size
theorem WRows.rin {w : World} {lo : Nat} {v : Value} {es : List Ent} (h : WRows w lo v es) : RIn w lo w.heap.size v es := ⟨h, h.inside, Nat.le_refl _⟩
theorem RIn.on {w w' : World} {lo hi : Nat} {v : Value} {es : List Ent} (h : RIn w lo hi v es) (hb : Below w.heap.size w w') : RIn w' lo hi v es := ⟨h.1.on hb, h.2.1, Nat.le_trans h.2.2 hb.size⟩
theorem RIn.within {w w' : World} {lo hi lo' hi' : Nat} {v : Value} {es : List Ent} (h : RIn w lo hi v es) (hw : Within lo' hi' w w') (ha : hi ≤ lo' ∨ hi' ≤ lo) : RIn w' lo hi v es :=
  ⟨h.1.keep h.2.1 fun b h1 h2 => hw.block b (by have := h.2.2; omega) (by omega), h.2.1, Nat.le_trans h.2.2 hw.size⟩
/-- The mark that the row at place i begins with. -/
def kR (k : Int) (es : List Ent) : Nat → Int
  | 0 => k
  | i + 1 => kR k es i + (rl es i : Int)
theorem kR_bd {k : Int} {es : List Ent} {m : Nat} (hm : ∀ e ∈ es, e.r.length ≤ m) : ∀ i : Nat, k ≤ kR k es i ∧ kR k es i ≤ k + (i : Int) * (m : Int)
  | 0 => by simp [kR]
  | i + 1 => by
    have h1 := kR_bd (k := k) hm i
    have h2 := rl_le hm i
    simp only [kR]
    have e : ((i + 1 : Nat) : Int) * (m : Int) = (i : Int) * (m : Int) + (m : Int) := by
      rw [Int.natCast_add, Int.add_mul]; simp
    rw [e]; omega
theorem kR_fit {k : Int} {es : List Ent} (hk0 : 0 ≤ k) (hm : ∀ e ∈ es, e.r.length ≤ 2097152) (i : Nat) (hi : i ≤ 2097152) : 0 ≤ kR k es i ∧ kR k es i ≤ k + 4398046511104 := by
  have := kR_bd (k := k) hm i
  omega
def mkTo (k : Int) (es : List Ent) (i : Nat) : List Ent := es.mapIdx fun j e => if j < i then { e with r := marks (kR k es j) e.r.length } else e
theorem mkTo_length (k : Int) (es : List Ent) (i : Nat) : (mkTo k es i).length = es.length := by simp [mkTo]
theorem mkTo_get {k : Int} {es : List Ent} {i j : Nat} (h : j < es.length) (h' : j < (mkTo k es i).length) : (mkTo k es i)[j] = if j < i then { es[j] with r := marks (kR k es j) es[j].r.length } else es[j] := by simp [mkTo]
theorem mkTo_zero (k : Int) (es : List Ent) : mkTo k es 0 = es := by
  apply List.ext_getElem
  · simp [mkTo]
  · intro j h1 h2
    rw [mkTo_get h2]; simp
theorem mkTo_step {k : Int} {es : List Ent} {i : Nat} (h : i < es.length) (h' : i < (mkTo k es i).length) : mkTo k es (i + 1) = (mkTo k es i).set i { (mkTo k es i)[i] with r := marks (kR k es i) es[i].r.length } := by
  apply List.ext_getElem
  · simp [mkTo]
  · intro j h1 h2
    have hj : j < es.length := by simpa [mkTo] using h1
    rw [mkTo_get hj, List.getElem_set]
    by_cases e : i = j
    · subst e
      rw [if_pos (by omega), if_pos rfl, mkTo_get h h', if_neg (by omega)]
    · rw [if_neg e, mkTo_get hj (by simpa [mkTo] using hj)]
      by_cases hlt : j < i
      · rw [if_pos (by omega), if_pos hlt]
      · rw [if_neg (by omega), if_neg hlt]
theorem mkTo_gr {k : Int} {es : List Ent} {i j : Nat} (h : j < es.length) (h' : j < (mkTo k es i).length) : (mkTo k es i)[j].g = es[j].g ∧ (mkTo k es i)[j].r.length = es[j].r.length := by
  rw [mkTo_get h h']; split <;> simp [marks_length]
/-- One row marked. -/
theorem mk_step {wr w1 : World} {lo hi n c : Nat} {A : Option Addr} {k : Int} {es : List Ent} {i g' : Nat} (hO : RIn wr lo hi (.slice A n c) (mkTo k es i)) (hi' : i < es.length) (hg' : g' = if es[i].r.length = 0 then wr.heap.size else es[i].g)
    (hR1 : Row w1 2 es[i].A (marks (kR k es i) es[i].r.length) g') (hg1 : wr.grownBy w1 (some g')) : RIn w1 lo hi (.slice A n c) (mkTo k es (i + 1)) ∧ Within lo hi wr w1 := by
  have hil : i < (mkTo k es i).length := by rw [mkTo_length]; exact hi'
  have hei : (mkTo k es i)[i] = es[i] := by rw [mkTo_get hi' hil, if_neg (Nat.lt_irrefl _)]
  obtain ⟨hRo, hno⟩ := hO.1.2.1 (mkTo k es i)[i] (List.getElem_mem hil)
  have hin := hO.2.1.2 (mkTo k es i)[i] (List.getElem_mem hil)
  have hwin : Within lo hi wr w1 := by
    refine Within.of_grown hg1 ?_
    rw [hei] at hno hin
    rw [hg']
    split
    · exact .inr (Nat.le_refl _)
    · rename_i h0
      exact .inl ⟨(hno (by omega)).1, hin (by omega)⟩
  have hR2 : Row w1 2 (mkTo k es i)[i].A (marks (kR k es i) es[i].r.length) (mkTo k es i)[i].g := by
    rw [hei]
    intro hn
    rw [marks_length] at hn
    have e : g' = es[i].g := by rw [hg', if_neg (by omega)]
    rw [← e]
    exact hR1 (by rw [marks_length]; exact hn)
  have hO2 := hO.1.setR hil (marks (kR k es i) es[i].r.length) (by rw [marks_length, hei]) hR2 (fun h0 => by
    rw [hei] at h0 ⊢
    have e : g' = es[i].g := by rw [hg', if_neg (by omega)]
    rw [← e]; exact hg1) (fun h0 => by
    rw [hei] at h0
    have e : g' = wr.heap.size := by rw [hg', if_pos h0]
    rw [e] at hg1
    exact ⟨hg1.os, hg1.tape, hg1.output, hg1.size, fun b hb => hg1.block b hb (fun e => by injection e with e; omega)⟩)
  rw [← mkTo_step hi' hil] at hO2
  refine ⟨⟨hO2, ⟨hO.2.1.1, fun e he hn => ?_⟩, Nat.le_trans hO.2.2 hwin.size⟩, hwin⟩
  obtain ⟨j, hj, rfl⟩ := List.getElem_of_mem he
  have hj' : j < es.length := by rw [mkTo_length] at hj; exact hj
  have hjl : j < (mkTo k es i).length := by rw [mkTo_length]; exact hj'
  rw [(mkTo_gr hj' hj).2] at hn
  rw [(mkTo_gr hj' hj).1]
  have := hO.2.1.2 (mkTo k es i)[j] (List.getElem_mem hjl) (by rw [(mkTo_gr hj' hjl).2]; exact hn)
  rwa [(mkTo_gr hj' hjl).1] at this
theorem heldR_rr {k : Int} {es : List Ent} {j : Nat} (h : j < es.length) : rr ((mkTo k es es.length).map Ent.r) j = marks (kR k es j) es[j].r.length := by
  have hj : j < (mkTo k es es.length).length := by rw [mkTo_length]; exact h
  rw [rr_map hj, mkTo_get h hj, if_pos h]
end Go.Proofs.Ytcfnbpofbcendab

/- A table that came in: its name, its width, its rows. -/
namespace Go.Proofs.Ytcfnbpofbcendab
open Go.ChangeShapes Go.WideShapes Go.ChangeAt Go.RowKit Go.Deep Go.Joins

end Go.Proofs.Ytcfnbpofbcendab

/- The laws' copies of rows and of tables are the call's own; nothing that lay has turned. -/
namespace Go.Proofs.Ytcfnbpofbcendab
open Go.RowKit

theorem RCop.own {G lo : Nat} {gs : Nat → Nat} {rows : List (List Int)} {w : World} (h : RCop G gs rows rows.length w) (hlo : lo ≤ G) (hm : rows.length ≤ maxLen) : ∃ es, ORows w lo (.slice (some ⟨G, 0, none⟩) rows.length rows.length) es ∧ es.map Ent.r = rows := by
  obtain ⟨cells, hB, hs, hc, hn⟩ := h
  obtain ⟨es, hes⟩ : ∃ es : List Ent, es = (List.range rows.length).map fun j => ⟨rr rows j, 0, some ⟨gs j, 0, none⟩, (rr rows j).length, gs j⟩ := ⟨_, rfl⟩
  have hl : es.length = rows.length := by simp [hes]
  have hg : ∀ j (hj : j < es.length), es[j] = ⟨rr rows j, 0, some ⟨gs j, 0, none⟩, (rr rows j).length, gs j⟩ := fun j hj => by simp [hes]
  refine ⟨es, ⟨⟨by rw [rowCs_length]; omega, .inr ⟨G, rows.length, cells, by rw [hl], hlo, hB, by omega, hm, by omega, ?_⟩⟩, fun e he => ?_, ?_⟩, ?_⟩
  · apply List.ext_getElem?
    intro j
    by_cases hj : j < es.length
    · rw [List.getElem?_take, if_pos (by omega), Array.getElem?_toList, (hc j (by omega)).1, rowCs_get es j hj, hg j hj]
    · rw [List.getElem?_eq_none (by rw [List.length_take]; exact Nat.le_trans (Nat.min_le_left _ _) (by omega)), List.getElem?_eq_none (by rw [rowCs_length]; omega)]
  · obtain ⟨j, hj, rfl⟩ := List.getElem_of_mem he
    rw [hg j hj]
    obtain ⟨_, h2, h3⟩ := hc j (by omega)
    refine ⟨Row.of_blk h2, fun _ => ⟨?_, fun e => ?_⟩⟩
    · show lo ≤ gs j; omega
    · have e' : gs j = G := Option.some.inj e
      omega
  · rw [List.pairwise_iff_getElem]
    intro i j hi hj hij _ _
    rw [hg i hi, hg j hj]
    exact hn i j hij (by omega)
  · apply List.ext_getElem
    · simp [hl]
    · intro j h1 h2
      rw [List.getElem_map, hg j (by simpa using h1), ← rr_eq h2]
/-- What is left of a size, and what is known where it is not below 0. -/
def SzR (rows : List (List Int)) (w : World) (e : Ending) (w' : World) : Prop :=
  ∃ x, e = .returned (.int .i64 x) ∧ x ≤ 1048576 ∧ (0 ≤ x → rows.length ≤ 1048576 ∧ ∀ j, j < rows.length → (rr rows j).length ≤ 1048576) ∧ w = w'
def SzT (s : ByteArray) (rows : List (List Int)) (w : World) (e : Ending) (w' : World) : Prop :=
  ∃ x, e = .returned (.int .i64 x) ∧ (0 ≤ x → s.size ≤ 1048576 ∧ rows.length ≤ 1048576 ∧ ∀ j, j < rows.length → (rr rows j).length ≤ 1048576) ∧ Below w.heap.size w w'
end Go.Proofs.Ytcfnbpofbcendab

/- Words for the walks of chapter 4's laws: a table in a variable's block; its own rows; all of it behind calls that make memory only. -/
namespace Go.Proofs.Ytcfnbpofbcendab
open Go.RowKit

theorem ORows.wrin {w : World} {lo : Nat} {v : Value} {es : List Ent} (h : ORows w lo v es) : RIn w lo w.heap.size v es := h.weak.rin
theorem Row.within {w w' : World} {t : TypeId} {A : Option Addr} {zs : List Int} {g lo hi : Nat} (h : Row w t A zs g) (hw : Within lo hi w w') (ha : 0 < zs.length → g < lo ∨ hi ≤ g) : Row w' t A zs g := fun hn => by
  obtain ⟨hA, cur, hc, hj⟩ := h hn
  exact ⟨hA, cur, (hw.block g (h.lt hn) (by have := ha hn; omega)).trans hc, hj⟩
/-- Own rows that are marked read as the marks. -/
theorem RIn.rwsK {w : World} {lo hi n c : Nat} {A : Option Addr} {es : List Ent} {k : Int} (h : RIn w lo hi (.slice A n c) (mkTo k es n)) (hl : ∀ e ∈ es, e.r.length ≤ 1099511627776) : Rws w w.heap.size A ((mkTo k es n).map Ent.r) := by
  refine WRows.rws h.1 fun e he => ?_
  obtain ⟨j, hj, rfl⟩ := List.getElem_of_mem he
  have hj' : j < es.length := by rw [mkTo_length] at hj; exact hj
  rw [(mkTo_gr hj' hj).2]
  exact hl _ (List.getElem_mem hj')
end Go.Proofs.Ytcfnbpofbcendab

/- Contracts of the program's fitsTable and TableOk: what each returns; nothing that lay has turned. -/
namespace Go.Proofs.Ytcfnbpofbcendab
open Go.RowKit Go.Shelf
attribute [local go_sem] Oper.semAt_some

theorem in1000_no {x : Int} (h : x < -1000 ∨ 1000 < x) : inB x (-1000) 1000 = false := by
  unfold inB
  rcases h with h | h
  · rw [decide_eq_false (by omega : ¬ (-1000 : Int) ≤ x)]; rfl
  · rw [decide_eq_false (by omega : ¬ x ≤ (1000 : Int))]; simp
theorem in1000_yes {x : Int} (h1 : ¬ x < -1000) (h2 : ¬ 1000 < x) : inB x (-1000) 1000 = true := by
  unfold inB
  rw [decide_eq_true (by omega : (-1000 : Int) ≤ x), decide_eq_true (by omega : x ≤ (1000 : Int))]; rfl
theorem fit_true {wd : Int} {zs : List Int} (h : ∀ y ∈ zs, inB y (-1000) 1000 = true) (hl : (zs.length : Int) = wd) : rowFit wd zs = true := by
  unfold rowFit
  rw [List.all_eq_true.2 h, decide_eq_true hl]; rfl
theorem fit_false {wd : Int} {zs : List Int} {y : Int} (hy : y ∈ zs) (h : inB y (-1000) 1000 = false) : rowFit wd zs = false := by
  unfold rowFit
  rw [List.all_eq_false.2 ⟨y, hy, by simp [h]⟩]; rfl
theorem fit_other {wd : Int} {zs : List Int} (hl : ¬ (zs.length : Int) = wd) : rowFit wd zs = false := by
  unfold rowFit
  rw [decide_eq_false hl, Bool.and_false]

end Go.Proofs.Ytcfnbpofbcendab
