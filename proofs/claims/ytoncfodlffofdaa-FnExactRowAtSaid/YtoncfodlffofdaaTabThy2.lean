/- Plain facts for stage 4: where a key stands among rising keys, as it is searched by halves; how many are not more; the bag of a part cut out. No program is spoken of. -/
import Derived.Test.YtoncfodlffofdaaTabThy
import Derived.Test.YtoncfodlffofdaaBagOf1
namespace Go.Proofs.Ytoncfodlffofdaa
open Go.RowKit

theorem sk_lt {rows : List (List Int)} (h : SK rows) {i j : Nat} (hij : i < j) (hj : j < rows.length) : ky (rr rows i) < ky (rr rows j) := by
  rw [rr_eq hj, rr_eq (by omega : i < rows.length)]
  exact List.pairwise_iff_getElem.1 h i j (by omega) hj hij
theorem plc_of {rows : List (List Int)} {k : Int} : ∀ {i : Nat}, i ≤ rows.length → (∀ j, j < i → ky (rr rows j) < k) → (i < rows.length → k ≤ ky (rr rows i)) → plcK rows k = i := by
  induction rows with
  | nil => intro i hi _ _; simp at hi; simp [plcK, hi]
  | cons r rs ih =>
    intro i hi h1 h2
    cases i with
    | zero =>
      have := h2 (by simp)
      simp only [rr, List.getElem?_cons_zero, Option.getD_some] at this
      simp only [plcK]; rw [if_neg (by omega)]
    | succ i =>
      have h0 := h1 0 (by omega)
      simp only [rr, List.getElem?_cons_zero, Option.getD_some] at h0
      simp only [plcK]
      rw [if_pos h0, ih (i := i) (by simpa using hi) (fun j hj => by simpa [rr] using h1 (j + 1) (by omega)) (fun hlt => by simpa [rr] using h2 (by simpa using hlt))]
/-- A row of that key stands where it belongs. -/
def fndB (rows : List (List Int)) (k : Int) : Bool := decide (plcK rows k < rows.length) && decide (ky (rr rows (plcK rows k)) = k)
theorem idx_fnd {rows : List (List Int)} (h : SK rows) (k : Int) : decide (idxK rows k < rows.length) = fndB rows k ∧ (fndB rows k = true → idxK rows k = plcK rows k) := by
  have hp := plc_le rows k
  have hnone : (∀ j, j < rows.length → ky (rr rows j) ≠ k) → fndB rows k = false := by
    intro hn
    unfold fndB
    by_cases hlt : plcK rows k < rows.length
    · rw [decide_eq_false (hn _ hlt), Bool.and_false]
    · rw [decide_eq_false hlt]; rfl
  by_cases hi : idxK rows k < rows.length
  · obtain ⟨r, h1, h2, h3, h4⟩ := idx_split hi
    have hr : rr rows (idxK rows k) = r := by
      have := congrArg List.head? h1
      rw [List.head?_drop] at this
      simp only [List.head?_cons] at this
      unfold rr; rw [this]; rfl
    have hpl : plcK rows k = idxK rows k := plc_of (by omega) (fun j hj => by have := sk_lt h hj hi; rw [hr, h2] at this; exact this) (fun _ => by rw [hr, h2]; exact Int.le_refl _)
    have hf : fndB rows k = true := by
      unfold fndB
      rw [hpl, decide_eq_true hi, hr, decide_eq_true h2]; rfl
    exact ⟨by rw [decide_eq_true hi, hf], fun _ => hpl.symm⟩
  · have hn := idx_none.1 (show idxK rows k = rows.length by have := idx_le rows k; omega)
    have hf := hnone fun j hj => hn _ (by rw [rr_eq hj]; exact List.getElem_mem hj)
    exact ⟨by rw [decide_eq_false hi, hf], fun e => by rw [hf] at e; cases e⟩
/-- How many have a key that is not more. -/
def upK : List (List Int) → Int → Nat
  | [], _ => 0
  | r :: rs, k => if ky r ≤ k then upK rs k + 1 else 0
theorem up_le : ∀ (rows : List (List Int)) (k : Int), upK rows k ≤ rows.length
  | [], _ => Nat.le_refl _
  | r :: rs, k => by
    have := up_le rs k
    simp only [upK, List.length_cons]; split <;> omega
theorem up_zero {rows : List (List Int)} {k : Int} (h : ∀ r ∈ rows, k < ky r) : upK rows k = 0 := by
  cases rows with
  | nil => rfl
  | cons r rs =>
    have := h r (by simp)
    simp only [upK]; rw [if_neg (by omega)]
theorem up_plc {rows : List (List Int)} {k : Int} : SK rows → upK rows k = plcK rows k + (if fndB rows k = true then 1 else 0) := by
  induction rows with
  | nil => intro _; simp [upK, plcK, fndB]
  | cons r rs ih =>
    intro h
    obtain ⟨ha, hb⟩ := List.pairwise_cons.1 h
    have ih' := ih hb
    rcases Int.lt_trichotomy (ky r) k with hlt | heq | hgt
    · have e1 : plcK (r :: rs) k = plcK rs k + 1 := by simp only [plcK]; rw [if_pos hlt]
      have e2 : upK (r :: rs) k = upK rs k + 1 := by simp only [upK]; rw [if_pos (by omega)]
      have e3 : fndB (r :: rs) k = fndB rs k := by
        unfold fndB
        rw [e1]
        have er : rr (r :: rs) (plcK rs k + 1) = rr rs (plcK rs k) := by simp [rr]
        rw [er, List.length_cons]
        by_cases hc : plcK rs k < rs.length
        · rw [decide_eq_true hc, decide_eq_true (by omega)]
        · rw [decide_eq_false hc, decide_eq_false (by omega)]
      rw [e1, e2, e3, ih']; omega
    · have e1 : plcK (r :: rs) k = 0 := by simp only [plcK]; rw [if_neg (by omega)]
      have e2 : upK (r :: rs) k = upK rs k + 1 := by simp only [upK]; rw [if_pos (by omega)]
      have e3 : fndB (r :: rs) k = true := by
        unfold fndB
        rw [e1]
        simp [rr, heq]
      have e4 : upK rs k = 0 := up_zero fun x hx => by have := ha x hx; omega
      rw [e1, e2, e3, e4]; rfl
    · have e1 : plcK (r :: rs) k = 0 := by simp only [plcK]; rw [if_neg (by omega)]
      have e2 : upK (r :: rs) k = 0 := by simp only [upK]; rw [if_neg (by omega)]
      have e3 : fndB (r :: rs) k = false := by
        unfold fndB
        rw [e1]
        simp [rr]
        omega
      rw [e1, e2, e3]; rfl
/-- The part that is cut out. -/
def cutL (rows : List (List Int)) (f t : Int) : List (List Int) := (rows.take (upK rows t)).drop (min (upK rows f) (upK rows t))
theorem filter_cut {rows : List (List Int)} {f t : Int} : SK rows → (rows.filter fun r => decide (f < ky r) && decide (ky r ≤ t)) = cutL rows f t := by
  induction rows with
  | nil => intro _; simp [cutL, upK]
  | cons r rs ih =>
    intro h
    obtain ⟨ha, hb⟩ := List.pairwise_cons.1 h
    have ih' := ih hb
    unfold cutL at ih' ⊢
    by_cases ht : ky r ≤ t
    · have et : upK (r :: rs) t = upK rs t + 1 := by simp only [upK]; rw [if_pos ht]
      by_cases hf : ky r ≤ f
      · have ef : upK (r :: rs) f = upK rs f + 1 := by simp only [upK]; rw [if_pos hf]
        rw [List.filter_cons, if_neg (by simp; omega), et, ef, Nat.add_min_add_right, List.take_succ_cons, List.drop_succ_cons, ih']
      · have ef : upK (r :: rs) f = 0 := by simp only [upK]; rw [if_neg hf]
        have e0 : upK rs f = 0 := up_zero fun x hx => by have := ha x hx; omega
        rw [List.filter_cons, if_pos (by simp; omega), et, ef, Nat.zero_min, List.take_succ_cons, List.drop_zero, ih', e0, Nat.zero_min, List.drop_zero]
    · have et : upK (r :: rs) t = 0 := by simp only [upK]; rw [if_neg ht]
      rw [et]
      simp only [List.take_zero, List.drop_nil, List.filter_eq_nil_iff]
      intro x hx
      rcases List.mem_cons.1 hx with rfl | hx
      · simp; omega
      · have := ha x hx
        simp; omega
theorem sk_count {rows : List (List Int)} (s : List Int) : SK rows → rows.count s = if s ∈ rows then 1 else 0 := by
  induction rows with
  | nil => intro _; simp
  | cons r rs ih =>
    intro h
    obtain ⟨ha, hb⟩ := List.pairwise_cons.1 h
    rw [List.count_cons, ih hb]
    by_cases e : r = s
    · subst e
      have hn : r ∉ rs := fun hm => by have := ha r hm; omega
      simp [hn]
    · have : (r == s) = false := by simpa using e
      simp [this, Ne.symm e]
/-- The bag of the part, row after row, is the bag of the rows between. -/
theorem bagOf_cut {wd : Int} {rows : List (List Int)} {f t : Int} (h : rowsOkB wd rows = true) : bagOfL (cutL rows f t) = bagIn rows f t := by
  obtain ⟨q1, q2⟩ := bagIn_sb (f := f) (t := t) h
  obtain ⟨⟨h1, h2⟩, h3, h4⟩ := rowsOk_iff.1 h
  rw [← filter_cut h3]
  have hl : (rows.filter fun r => decide (f < ky r) && decide (ky r ≤ t)).length ≤ 1099511627776 := by
    have := List.length_filter_le (fun r => decide (f < ky r) && decide (ky r ≤ t)) rows
    omega
  obtain ⟨p1, p2, p3⟩ := bagOf_facts _ hl
  refine canon p1 q1 p2 q2 fun s => ?_
  rw [p3, bagIn_times]
  unfold occ
  rw [sk_count s (List.Pairwise.sublist List.filter_sublist h3)]
  simp only [List.mem_filter, Bool.and_eq_true, decide_eq_true_eq]
  split <;> rfl
theorem cut_mem {rows : List (List Int)} {f t : Int} {r : List Int} (h : r ∈ cutL rows f t) : r ∈ rows := List.mem_of_mem_take (List.mem_of_mem_drop h)
theorem cut_length (rows : List (List Int)) (f t : Int) : (cutL rows f t).length = upK rows t - min (upK rows f) (upK rows t) := by
  have := up_le rows t
  unfold cutL
  rw [List.length_drop, List.length_take, Nat.min_eq_left this]
end Go.Proofs.Ytoncfodlffofdaa
