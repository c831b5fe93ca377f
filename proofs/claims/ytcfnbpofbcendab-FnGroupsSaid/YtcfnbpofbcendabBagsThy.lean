/- Plain facts for the law of bags: the total of a bag of rows, its counts, when it is in order. -/
import Derived.Test.YtcfnbpofbcendabJD
namespace Go.Proofs.Ytcfnbpofbcendab
open Go.RowKit

def totL : List (List Int × Int) → Int
  | [] => 0
  | p :: bs => p.2 + totL bs
theorem tot_snoc (a : List (List Int × Int)) (p : List Int × Int) : totL (a ++ [p]) = totL a + p.2 := by
  induction a with
  | nil => simp [totL]
  | cons x a ih => simp only [List.cons_append, totL]; rw [ih]; omega
theorem tot_step {bag : List (List Int × Int)} {k : Nat} (h : k < bag.length) : totL (bag.take (k + 1)) = totL (bag.take k) + nx bag k := by
  rw [List.take_succ_eq_append_getElem h, tot_snoc]
  simp [nx, h]
theorem tot_nonneg : ∀ {bag : List (List Int × Int)}, (∀ p ∈ bag, 0 < p.2) → 0 ≤ totL bag
  | [], _ => by simp [totL]
  | p :: bs, h => by
    have h1 := h p (by simp)
    have h2 := tot_nonneg (bag := bs) fun q hq => h q (by simp [hq])
    simp only [totL]; omega
theorem tot_app (a b : List (List Int × Int)) : totL (a ++ b) = totL a + totL b := by
  induction a with
  | nil => simp [totL]
  | cons x a ih => simp only [List.cons_append, totL]; rw [ih]; omega
theorem tot_take {bag : List (List Int × Int)} (h : ∀ p ∈ bag, 0 < p.2) (k : Nat) : 0 ≤ totL (bag.take k) ∧ totL (bag.take k) ≤ totL bag := by
  refine ⟨tot_nonneg fun p hp => h p (List.mem_of_mem_take hp), ?_⟩
  have h1 := tot_app (bag.take k) (bag.drop k)
  rw [List.take_append_drop] at h1
  have h2 := tot_nonneg (bag := bag.drop k) fun p hp => h p (List.mem_of_mem_drop hp)
  omega
theorem ins_tot (r : List Int) (M : Int) (hM : M ≤ 1000000000) : ∀ {bag : List (List Int × Int)}, (∀ p ∈ bag, 0 < p.2 ∧ p.2 ≤ M) → totL (insL r 1 bag) = totL bag + 1 ∧ ∀ p ∈ insL r 1 bag, 0 < p.2 ∧ (p.2 ≤ M + 1 ∨ p.2 = 1)
  | [], _ => by simp [insL, totL]
  | (s, m) :: bs, h => by
    have h1 := h (s, m) (by simp)
    have h2 := ins_tot r M hM (bag := bs) fun q hq => h q (by simp [hq])
    have h3 : ∀ p ∈ bs, 0 < p.2 ∧ (p.2 ≤ M + 1 ∨ p.2 = 1) := fun q hq => by have := h q (by simp [hq]); omega
    simp only at h1
    simp only [insL]
    by_cases c1 : lessB s r = true
    · simp only [if_pos c1, totL]
      refine ⟨by rw [h2.1]; omega, fun p hp => ?_⟩
      rcases List.mem_cons.1 hp with e | hp
      · rw [e]; simp only; omega
      · exact h2.2 p hp
    · simp only [if_neg c1]
      by_cases c2 : s = r
      · have e1 : addW m 1 = m + 1 := addW_small (by omega) (by omega) (by omega) (by omega)
        have e2 : ¬ (m + 1 = 0) := by omega
        simp only [if_pos c2, e1, if_neg e2, totL]
        refine ⟨by omega, fun p hp => ?_⟩
        rcases List.mem_cons.1 hp with e | hp
        · rw [e]; simp only; omega
        · exact h3 p hp
      · simp only [if_neg c2, totL]
        rw [if_neg (by omega : ¬ ((1 : Int) = 0))]
        simp only [totL]
        refine ⟨by omega, fun p hp => ?_⟩
        rcases List.mem_cons.1 hp with e | hp
        · rw [e]; simp
        · rcases List.mem_cons.1 hp with e | hp
          · rw [e]; simp only; omega
          · exact h3 p hp
theorem bagOf_tot : ∀ rows : List (List Int), rows.length ≤ 1000000 → totL (bagOfL rows) = rows.length ∧ ∀ p ∈ bagOfL rows, 0 < p.2 ∧ p.2 ≤ rows.length + 1 := by
  refine snoc_ind ?_ ?_
  · intro _; exact ⟨rfl, fun p hp => by cases hp⟩
  · intro rows r ih hl
    rw [List.length_append, List.length_singleton] at hl
    obtain ⟨h1, h2⟩ := ih (by omega)
    obtain ⟨h3, h4⟩ := ins_tot r (rows.length + 1) (by omega) h2
    rw [bagOf_snoc, withL_ins, List.length_append, List.length_singleton]
    refine ⟨by rw [h3, h1]; omega, fun p hp => ?_⟩
    have := h4 p hp
    omega
theorem occ_step {rows : List (List Int)} {k : Nat} (h : k < rows.length) (s : List Int) : occ (rows.take (k + 1)) s = occ (rows.take k) s + if rr rows k = s then 1 else 0 := by
  rw [List.take_succ_eq_append_getElem h, rr_eq h]
  unfold occ
  rw [List.count_append, List.count_singleton]
  by_cases e : rows[k] = s
  · simp [e]
  · have : (rows[k] == s) = false := by simpa using e
    rw [this, if_neg e]; simp
theorem okFrom_none (r : List Int) (n : Int) (bs : List (List Int × Int)) : okFrom none ((r, n) :: bs) = (rowOkB r && (n != 0) && inB n (-1000000) 1000000 && true && okFrom (some r) bs) := rfl
theorem okFrom_some (q r : List Int) (n : Int) (bs : List (List Int × Int)) : okFrom (some q) ((r, n) :: bs) = (rowOkB r && (n != 0) && inB n (-1000000) 1000000 && lessB q r && okFrom (some r) bs) := rfl
theorem ok_all : ∀ {bag : List (List Int × Int)} {p : Option (List Int)}, SB bag → (∀ q ∈ bag, 0 < q.2 ∧ q.2 ≤ 1000000) → (∀ q, p = some q → ∀ x ∈ bag, lessB q x.1 = true) → okFrom p bag = bag.all fun x => rowOkB x.1
  | [], _, _, _, _ => rfl
  | (r, n) :: bs, p, hs, hb, hp => by
    obtain ⟨h1, h2⟩ := List.pairwise_cons.1 hs
    have hn := hb (r, n) (by simp)
    simp only at hn
    have ih := ok_all (bag := bs) (p := some r) h2 (fun q hq => hb q (by simp [hq])) (fun q e x hx => by injection e with e; subst e; exact h1 x hx)
    have e1 : (n != 0) = true := by simp; omega
    have e2 : inB n (-1000000) 1000000 = true := by unfold inB; rw [decide_eq_true (by omega), decide_eq_true (by omega)]; rfl
    cases p with
    | none => rw [okFrom_none, ih, e1, e2]; simp
    | some q => rw [okFrom_some, ih, e1, e2, show lessB q r = true from hp q rfl (r, n) (by simp)]; simp
theorem bagOf_ok {rows : List (List Int)} (hl : rows.length ≤ 300) : bagOkB (bagOfL rows) = rows.all rowOkB := by
  obtain ⟨h1, _, h3⟩ := bagOf_facts rows (by omega)
  obtain ⟨_, h5⟩ := bagOf_tot rows (by omega)
  have h6 := bagOf_length rows
  unfold bagOkB
  rw [ok_all h1 (fun q hq => by have := h5 q hq; omega) (fun q e => by cases e), decide_eq_true (by omega), Bool.and_true]
  rw [Bool.eq_iff_iff, List.all_eq_true, List.all_eq_true]
  constructor
  · intro h r hr
    obtain ⟨p, hp, hpr⟩ : ∃ p ∈ bagOfL rows, p.1 = r := by
      by_cases e : ∃ p ∈ bagOfL rows, p.1 = r
      · exact e
      · have h7 := timesL_zero (bag := bagOfL rows) (s := r) fun p hp he => e ⟨p, hp, he⟩
        rw [h3] at h7
        unfold occ at h7
        have := List.count_pos_iff.2 hr
        omega
    rw [← hpr]; exact h p hp
  · intro h p hp
    have hmem : ∀ rows : List (List Int), ∀ p ∈ bagOfL rows, p.1 ∈ rows := by
      refine snoc_ind ?_ ?_
      · intro p hp; cases hp
      · intro rows r ih p hp
        rw [bagOf_snoc, withL_ins] at hp
        rcases ins_mem hp with hp | hp
        · exact List.mem_append.2 (.inl (ih p hp))
        · rw [hp]; simp
    exact h _ (hmem rows p hp)
theorem all_step {rows : List (List Int)} {k : Nat} (h : k < rows.length) : (rows.take (k + 1)).all rowOkB = ((rows.take k).all rowOkB && rowOkB (rr rows k)) := by
  rw [List.take_succ_eq_append_getElem h, List.all_append, rr_eq h]
  simp only [List.all_cons, List.all_nil, Bool.and_true]
theorem OwnBag.form2 {lo : Nat} {bag : List (List Int × Int)} {w w' : World} {e : Ending} (h : OwnBag lo bag w e w') : ∃ A cap es, e = .returned (.slice A bag.length cap) ∧ OBag w' lo (.slice A bag.length cap) es ∧ es.map Ent.pair = bag ∧ Below lo w w' := by
  obtain ⟨g, cap, es, rfl, hO, he, hb⟩ := h
  have hl : es.length = bag.length := by rw [← he, List.length_map]
  refine ⟨_, cap, es, by rw [hl], ?_, he, hb⟩
  rw [← hl]; exact hO
end Go.Proofs.Ytcfnbpofbcendab
