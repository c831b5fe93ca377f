/- Texts joined: Bag7, BagCopy, BagOf1, TabThy2, TabI2, Tab6: contracts and plain facts; each says its own below. -/
import Derived.Test.YtejgofhpjkebbaaDoorJB
import Derived.Test.YtejgofhpjkebbaaDoorJC
/- The contract of the model's l2With: in an own bag, n more of a row; what lay below has not turned. For bags and rows of at most 2^40. -/
namespace Go.Proofs.YtejgofhpjkebbaaDoor
open Go.RowKit

end Go.Proofs.YtejgofhpjkebbaaDoor

/- Contracts of the copying of bags: the model's l2Copy, the program's appendCopies: a bag of the call's own that reads as told; nothing that lay below has turned. For bags and rows of at most 2^40. -/
namespace Go.Proofs.YtejgofhpjkebbaaDoor
open Go.RowKit

end Go.Proofs.YtejgofhpjkebbaaDoor

/- The contract of the model's BagOf: each row once more, one after the other, in an own bag; and plain facts: in whatever order they come the bag is the same. For slices and rows of at most 2^20. -/
namespace Go.Proofs.YtejgofhpjkebbaaDoor
open Go.RowKit

theorem snoc_ind {P : List (List Int) → Prop} (h0 : P []) (h1 : ∀ l x, P l → P (l ++ [x])) (l : List (List Int)) : P l := by
  have key : ∀ m : List (List Int), P m.reverse := by
    intro m
    induction m with
    | nil => exact h0
    | cons x m ih => rw [List.reverse_cons]; exact h1 _ _ ih
  have := key l.reverse
  rwa [List.reverse_reverse] at this
/-- The bag of rows that came one after the other. -/
def bagOfL (rows : List (List Int)) : List (List Int × Int) := rows.foldl (fun b r => withL b r 1) []
theorem bagOf_snoc (rows : List (List Int)) (r : List Int) : bagOfL (rows ++ [r]) = withL (bagOfL rows) r 1 := by simp [bagOfL]
theorem bagOf_take {rows : List (List Int)} {k : Nat} (h : k < rows.length) : bagOfL (rows.take (k + 1)) = withL (bagOfL (rows.take k)) (rr rows k) 1 := by
  rw [List.take_succ_eq_append_getElem h, bagOf_snoc, rr_eq h]
/-- How often a row is in the list. -/
def occ (rows : List (List Int)) (s : List Int) : Int := (rows.count s : Nat)
theorem occ_bd (rows : List (List Int)) (s : List Int) : 0 ≤ occ rows s ∧ occ rows s ≤ rows.length := by
  unfold occ; have := List.count_le_length (a := s) (l := rows); omega
theorem bagOf_facts : ∀ rows : List (List Int), rows.length ≤ 1099511627776 → SB (bagOfL rows) ∧ NZ (bagOfL rows) ∧ ∀ s, timesL (bagOfL rows) s = occ rows s := by
  refine snoc_ind ?_ ?_
  · intro _; exact ⟨List.Pairwise.nil, (fun p hp => by cases hp), fun s => rfl⟩
  · intro rows r ih hl
    rw [List.length_append, List.length_singleton] at hl
    obtain ⟨h1, h2, h3⟩ := ih (by omega)
    have e0 : addW 0 1 = 1 := by rw [addW_small (by omega) (by omega) (by omega) (by omega)]; rfl
    rw [bagOf_snoc, withL_ins]
    refine ⟨ins_sb h1, ins_nz h2, fun s => ?_⟩
    rw [ins_times e0 h1, h3, h3]
    have hb := occ_bd rows r
    unfold occ at *
    rw [List.count_append, List.count_singleton]
    by_cases e : s = r
    · subst e
      rw [if_pos rfl, addW_small (by omega) (by omega) (by omega) (by omega)]
      simp
    · rw [if_neg e]
      have : (r == s) = false := by simpa using Ne.symm e
      rw [this]; simp
theorem bagOf_perm {r1 r2 : List (List Int)} (h : r1.Perm r2) (hl : r1.length ≤ 1099511627776) : bagOfL r1 = bagOfL r2 := by
  obtain ⟨a1, a2, a3⟩ := bagOf_facts r1 hl
  obtain ⟨b1, b2, b3⟩ := bagOf_facts r2 (by rw [← h.length_eq]; exact hl)
  refine canon a1 b1 a2 b2 fun s => ?_
  rw [a3, b3]
  unfold occ
  rw [h.count_eq]
theorem bagOf_length (rows : List (List Int)) : (bagOfL rows).length ≤ rows.length := by
  refine snoc_ind (P := fun rows => (bagOfL rows).length ≤ rows.length) ?_ ?_ rows
  · simp [bagOfL]
  · intro rows r ih
    rw [bagOf_snoc, List.length_append, List.length_singleton]
    have := withL_length (bag := bagOfL rows) (row := r) (n := 1)
    omega
theorem bagOf_rows {rows : List (List Int)} {m : Nat} (h : ∀ r ∈ rows, r.length ≤ m) : ∀ p ∈ bagOfL rows, p.1.length ≤ m := by
  refine snoc_ind (P := fun rows => (∀ r ∈ rows, r.length ≤ m) → ∀ p ∈ bagOfL rows, p.1.length ≤ m) ?_ ?_ rows h
  · intro _ p hp; cases hp
  · intro rows r ih h p hp
    rw [bagOf_snoc, withL_ins] at hp
    rcases ins_mem hp with hp | hp
    · exact ih (fun q hq => h q (List.mem_append.2 (.inl hq))) p hp
    · rw [hp]; exact h r (by simp)

end Go.Proofs.YtejgofhpjkebbaaDoor

/- Plain facts for stage 4: where a key stands among rising keys, as it is searched by halves; how many are not more; the bag of a part cut out. No program is spoken of. -/
namespace Go.Proofs.YtejgofhpjkebbaaDoor
open Go.RowKit

theorem sk_lt {rows : List (List Int)} (h : SK rows) {i j : Nat} (hij : i < j) (hj : j < rows.length) : ky (rr rows i) < ky (rr rows j) := by
  rw [rr_eq hj, rr_eq (by omega : i < rows.length)]
  exact List.pairwise_iff_getElem.1 h i j (by omega) hj hij
theorem plc_of {rows : List (List Int)} {k : Int} : ∀ {i : Nat}, i ≤ rows.length → (∀ j, j < i → ky (rr rows j) < k) → (i < rows.length → k ≤ ky (rr rows i)) → plcK rows k = i := by
  induction rows with
  | nil => intro i hi _ _; simp at hi; simp [plcK, hi]
  | cons r rs ih =>
    intro i hi h1 h2
    cases i with
    | zero =>
      have := h2 (by simp)
      simp only [rr, List.getElem?_cons_zero, Option.getD_some] at this
      simp only [plcK]; rw [if_neg (by omega)]
    | succ i =>
      have h0 := h1 0 (by omega)
      simp only [rr, List.getElem?_cons_zero, Option.getD_some] at h0
      simp only [plcK]
      rw [if_pos h0, ih (i := i) (by simpa using hi) (fun j hj => by simpa [rr] using h1 (j + 1) (by omega)) (fun hlt => by simpa [rr] using h2 (by simpa using hlt))]
/-- A row of that key stands where it belongs. -/
def fndB (rows : List (List Int)) (k : Int) : Bool := decide (plcK rows k < rows.length) && decide (ky (rr rows (plcK rows k)) = k)
theorem idx_fnd {rows : List (List Int)} (h : SK rows) (k : Int) : decide (idxK rows k < rows.length) = fndB rows k ∧ (fndB rows k = true → idxK rows k = plcK rows k) := by
  have hp := plc_le rows k
  have hnone : (∀ j, j < rows.length → ky (rr rows j) ≠ k) → fndB rows k = false := by
    intro hn
    unfold fndB
    by_cases hlt : plcK rows k < rows.length
    · rw [decide_eq_false (hn _ hlt), Bool.and_false]
    · rw [decide_eq_false hlt]; rfl
  by_cases hi : idxK rows k < rows.length
  · obtain ⟨r, h1, h2, h3, h4⟩ := idx_split hi
    have hr : rr rows (idxK rows k) = r := by
      have := congrArg List.head? h1
      rw [List.head?_drop] at this
      simp only [List.head?_cons] at this
      unfold rr; rw [this]; rfl
    have hpl : plcK rows k = idxK rows k := plc_of (by omega) (fun j hj => by have := sk_lt h hj hi; rw [hr, h2] at this; exact this) (fun _ => by rw [hr, h2]; exact Int.le_refl _)
    have hf : fndB rows k = true := by
      unfold fndB
      rw [hpl, decide_eq_true hi, hr, decide_eq_true h2]; rfl
    exact ⟨by rw [decide_eq_true hi, hf], fun _ => hpl.symm⟩
  · have hn := idx_none.1 (show idxK rows k = rows.length by have := idx_le rows k; omega)
    have hf := hnone fun j hj => hn _ (by rw [rr_eq hj]; exact List.getElem_mem hj)
    exact ⟨by rw [decide_eq_false hi, hf], fun e => by rw [hf] at e; cases e⟩
/-- How many have a key that is not more. -/
def upK : List (List Int) → Int → Nat
  | [], _ => 0
  | r :: rs, k => if ky r ≤ k then upK rs k + 1 else 0
theorem up_le : ∀ (rows : List (List Int)) (k : Int), upK rows k ≤ rows.length
  | [], _ => Nat.le_refl _
  | r :: rs, k => by
    have := up_le rs k
    simp only [upK, List.length_cons]; split <;> omega
theorem up_zero {rows : List (List Int)} {k : Int} (h : ∀ r ∈ rows, k < ky r) : upK rows k = 0 := by
  cases rows with
  | nil => rfl
  | cons r rs =>
    have := h r (by simp)
    simp only [upK]; rw [if_neg (by omega)]
theorem up_plc {rows : List (List Int)} {k : Int} : SK rows → upK rows k = plcK rows k + (if fndB rows k = true then 1 else 0) := by
  induction rows with
  | nil => intro _; simp [upK, plcK, fndB]
  | cons r rs ih =>
    intro h
    obtain ⟨ha, hb⟩ := List.pairwise_cons.1 h
    have ih' := ih hb
    rcases Int.lt_trichotomy (ky r) k with hlt | heq | hgt
    · have e1 : plcK (r :: rs) k = plcK rs k + 1 := by simp only [plcK]; rw [if_pos hlt]
      have e2 : upK (r :: rs) k = upK rs k + 1 := by simp only [upK]; rw [if_pos (by omega)]
      have e3 : fndB (r :: rs) k = fndB rs k := by
        unfold fndB
        rw [e1]
        have er : rr (r :: rs) (plcK rs k + 1) = rr rs (plcK rs k) := by simp [rr]
        rw [er, List.length_cons]
        by_cases hc : plcK rs k < rs.length
        · rw [decide_eq_true hc, decide_eq_true (by omega)]
        · rw [decide_eq_false hc, decide_eq_false (by omega)]
      rw [e1, e2, e3, ih']; omega
    · have e1 : plcK (r :: rs) k = 0 := by simp only [plcK]; rw [if_neg (by omega)]
      have e2 : upK (r :: rs) k = upK rs k + 1 := by simp only [upK]; rw [if_pos (by omega)]
      have e3 : fndB (r :: rs) k = true := by
        unfold fndB
        rw [e1]
        simp [rr, heq]
      have e4 : upK rs k = 0 := up_zero fun x hx => by have := ha x hx; omega
      rw [e1, e2, e3, e4]; rfl
    · have e1 : plcK (r :: rs) k = 0 := by simp only [plcK]; rw [if_neg (by omega)]
      have e2 : upK (r :: rs) k = 0 := by simp only [upK]; rw [if_neg (by omega)]
      have e3 : fndB (r :: rs) k = false := by
        unfold fndB
        rw [e1]
        simp [rr]
        omega
      rw [e1, e2, e3]; rfl
/-- The part that is cut out. -/
def cutL (rows : List (List Int)) (f t : Int) : List (List Int) := (rows.take (upK rows t)).drop (min (upK rows f) (upK rows t))
theorem filter_cut {rows : List (List Int)} {f t : Int} : SK rows → (rows.filter fun r => decide (f < ky r) && decide (ky r ≤ t)) = cutL rows f t := by
  induction rows with
  | nil => intro _; simp [cutL, upK]
  | cons r rs ih =>
    intro h
    obtain ⟨ha, hb⟩ := List.pairwise_cons.1 h
    have ih' := ih hb
    unfold cutL at ih' ⊢
    by_cases ht : ky r ≤ t
    · have et : upK (r :: rs) t = upK rs t + 1 := by simp only [upK]; rw [if_pos ht]
      by_cases hf : ky r ≤ f
      · have ef : upK (r :: rs) f = upK rs f + 1 := by simp only [upK]; rw [if_pos hf]
        rw [List.filter_cons, if_neg (by simp; omega), et, ef, Nat.add_min_add_right, List.take_succ_cons, List.drop_succ_cons, ih']
      · have ef : upK (r :: rs) f = 0 := by simp only [upK]; rw [if_neg hf]
        have e0 : upK rs f = 0 := up_zero fun x hx => by have := ha x hx; omega
        rw [List.filter_cons, if_pos (by simp; omega), et, ef, Nat.zero_min, List.take_succ_cons, List.drop_zero, ih', e0, Nat.zero_min, List.drop_zero]
    · have et : upK (r :: rs) t = 0 := by simp only [upK]; rw [if_neg ht]
      rw [et]
      simp only [List.take_zero, List.drop_nil, List.filter_eq_nil_iff]
      intro x hx
      rcases List.mem_cons.1 hx with rfl | hx
      · simp; omega
      · have := ha x hx
        simp; omega
theorem sk_count {rows : List (List Int)} (s : List Int) : SK rows → rows.count s = if s ∈ rows then 1 else 0 := by
  induction rows with
  | nil => intro _; simp
  | cons r rs ih =>
    intro h
    obtain ⟨ha, hb⟩ := List.pairwise_cons.1 h
    rw [List.count_cons, ih hb]
    by_cases e : r = s
    · subst e
      have hn : r ∉ rs := fun hm => by have := ha r hm; omega
      simp [hn]
    · have : (r == s) = false := by simpa using e
      simp [this, Ne.symm e]
/-- The bag of the part, row after row, is the bag of the rows between. -/
theorem bagOf_cut {wd : Int} {rows : List (List Int)} {f t : Int} (h : rowsOkB wd rows = true) : bagOfL (cutL rows f t) = bagIn rows f t := by
  obtain ⟨q1, q2⟩ := bagIn_sb (f := f) (t := t) h
  obtain ⟨⟨h1, h2⟩, h3, h4⟩ := rowsOk_iff.1 h
  rw [← filter_cut h3]
  have hl : (rows.filter fun r => decide (f < ky r) && decide (ky r ≤ t)).length ≤ 1099511627776 := by
    have := List.length_filter_le (fun r => decide (f < ky r) && decide (ky r ≤ t)) rows
    omega
  obtain ⟨p1, p2, p3⟩ := bagOf_facts _ hl
  refine canon p1 q1 p2 q2 fun s => ?_
  rw [p3, bagIn_times]
  unfold occ
  rw [sk_count s (List.Pairwise.sublist List.filter_sublist h3)]
  simp only [List.mem_filter, Bool.and_eq_true, decide_eq_true_eq]
  split <;> rfl
theorem cut_mem {rows : List (List Int)} {f t : Int} {r : List Int} (h : r ∈ cutL rows f t) : r ∈ rows := List.mem_of_mem_take (List.mem_of_mem_drop h)
theorem cut_length (rows : List (List Int)) (f t : Int) : (cutL rows f t).length = upK rows t - min (upK rows f) (upK rows t) := by
  have := up_le rows t
  unfold cutL
  rw [List.length_drop, List.length_take, Nat.min_eq_left this]
end Go.Proofs.YtejgofhpjkebbaaDoor

/- Contracts of cmp.Compare at int64, of the search by halves (slices.BinarySearchFunc, as it is translated), and of the program's placeOfKey and rowsUpTo: what each returns; nothing has turned. -/
namespace Go.Proofs.YtejgofhpjkebbaaDoor
open Go.RowKit

def cmpI (x y : Int) : Int := if x < y then -1 else if y < x then 1 else 0
end Go.Proofs.YtejgofhpjkebbaaDoor

/- The contract of the model's BagIn: a bag of the call's own; nothing that lay has turned. -/
namespace Go.Proofs.YtejgofhpjkebbaaDoor
open Go.RowKit

def bagInB (s : ByteArray) (wd : Int) (rows : List (List Int)) (f t : Int) : List (List Int × Int) := if tabB s wd rows = true then bagIn rows f t else []
theorem bagIn_yes {rows : List (List Int)} {f t : Int} {k : Nat} (h : k < rows.length) (h1 : f < ky (rr rows k)) (h2 : ky (rr rows k) ≤ t) : bagIn (rows.take (k + 1)) f t = bagIn (rows.take k) f t ++ [(rr rows k, 1)] := by
  unfold bagIn
  rw [List.take_succ_eq_append_getElem h, ← rr_eq h, List.filter_append, List.map_append]
  simp [h1, h2]
theorem bagIn_no {rows : List (List Int)} {f t : Int} {k : Nat} (h : k < rows.length) (h1 : ¬ (f < ky (rr rows k) ∧ ky (rr rows k) ≤ t)) : bagIn (rows.take (k + 1)) f t = bagIn (rows.take k) f t := by
  unfold bagIn
  rw [List.take_succ_eq_append_getElem h, ← rr_eq h, List.filter_append, List.map_append]
  have : (decide (f < ky (rr rows k)) && decide (ky (rr rows k) ≤ t)) = false := by
    rw [Bool.and_eq_false_iff, decide_eq_false_iff_not, decide_eq_false_iff_not]
    omega
  simp [this]
end Go.Proofs.YtejgofhpjkebbaaDoor
