/- Plain facts for stage 4: tables of rows by their first number: one placed, one taken; the bag of a part. No program is spoken of. -/
import Derived.Test.YtoncfodlffofdaaSumThy
import Derived.Test.YtoncfodlffofdaaRowsRws
namespace Go.Proofs.Ytoncfodlffofdaa
open Go.RowKit

/-- The key of a row. -/
def ky (r : List Int) : Int := ix r 0
def rowFit (wd : Int) (r : List Int) : Bool := (r.all fun z => inB z (-1000) 1000) && decide ((r.length : Int) = wd)
/-- Rows of that width, their keys rising, behind a key. -/
def tFrom (wd : Int) : Option Int → List (List Int) → Bool
  | _, [] => true
  | p, r :: rs => rowFit wd r && (match p with | none => true | some k => decide (k < ky r)) && tFrom wd (some (ky r)) rs
def rowsOkB (wd : Int) (rows : List (List Int)) : Bool := inB wd 1 4 && decide (rows.length ≤ 30) && tFrom wd none rows
/-- At which place a row of that key stands first (as many as there are: nowhere). -/
def idxK : List (List Int) → Int → Nat
  | [], _ => 0
  | r :: rs, k => if ky r = k then 0 else idxK rs k + 1
/-- How many stand ahead that are less. -/
def plcK : List (List Int) → Int → Nat
  | [], _ => 0
  | r :: rs, k => if ky r < k then plcK rs k + 1 else 0
def placedL (rows : List (List Int)) (row : List Int) : List (List Int) := rows.take (plcK rows (ky row)) ++ row :: rows.drop (plcK rows (ky row))
def takenL (rows : List (List Int)) (k : Int) : List (List Int) := rows.take (idxK rows k) ++ rows.drop (idxK rows k + 1)
theorem idx_le : ∀ (rows : List (List Int)) (k : Int), idxK rows k ≤ rows.length
  | [], _ => Nat.le_refl _
  | r :: rs, k => by
    have := idx_le rs k
    simp only [idxK, List.length_cons]; split <;> omega
theorem plc_le : ∀ (rows : List (List Int)) (k : Int), plcK rows k ≤ rows.length
  | [], _ => Nat.le_refl _
  | r :: rs, k => by
    have := plc_le rs k
    simp only [plcK, List.length_cons]; split <;> omega
/-- Keys rising. -/
def SK (rows : List (List Int)) : Prop := rows.Pairwise fun a b => ky a < ky b
theorem tFrom_sk {wd : Int} : ∀ {rows : List (List Int)} {p : Option Int}, tFrom wd p rows = true → SK rows ∧ (∀ r ∈ rows, rowFit wd r = true) ∧ ∀ q, p = some q → ∀ r ∈ rows, q < ky r
  | [], _, _ => ⟨List.Pairwise.nil, (fun r hr => by cases hr), fun q _ r hr => by cases hr⟩
  | r :: rs, p, h => by
    simp only [tFrom, Bool.and_eq_true] at h
    obtain ⟨i1, i2, i3⟩ := tFrom_sk h.2
    refine ⟨List.pairwise_cons.2 ⟨fun x hx => i3 _ rfl x hx, i1⟩, fun x hx => ?_, fun q hq x hx => ?_⟩
    · rcases List.mem_cons.1 hx with rfl | hx
      · exact h.1.1
      · exact i2 x hx
    · subst hq
      have h1 := of_decide_eq_true h.1.2
      rcases List.mem_cons.1 hx with rfl | hx
      · exact h1
      · have := i3 _ rfl x hx; omega
theorem sk_tFrom {wd : Int} : ∀ {rows : List (List Int)} {p : Option Int}, SK rows → (∀ r ∈ rows, rowFit wd r = true) → (∀ q, p = some q → ∀ r ∈ rows, q < ky r) → tFrom wd p rows = true
  | [], _, _, _, _ => rfl
  | r :: rs, p, h1, h2, h3 => by
    obtain ⟨ha, hb⟩ := List.pairwise_cons.1 h1
    simp only [tFrom, Bool.and_eq_true]
    refine ⟨⟨h2 r (by simp), ?_⟩, sk_tFrom hb (fun x hx => h2 x (List.mem_cons_of_mem _ hx)) fun q hq x hx => ?_⟩
    · cases p with
      | none => rfl
      | some q => exact decide_eq_true (h3 q rfl r (by simp))
    · cases hq; exact ha x hx
theorem rowsOk_iff {wd : Int} {rows : List (List Int)} : rowsOkB wd rows = true ↔ (inB wd 1 4 = true ∧ rows.length ≤ 30) ∧ SK rows ∧ ∀ r ∈ rows, rowFit wd r = true := by
  unfold rowsOkB
  rw [Bool.and_eq_true, Bool.and_eq_true, decide_eq_true_eq]
  constructor
  · rintro ⟨h1, h2⟩
    obtain ⟨a, b, _⟩ := tFrom_sk h2
    exact ⟨h1, a, b⟩
  · rintro ⟨h1, h2, h3⟩
    exact ⟨h1, sk_tFrom h2 h3 (fun q hq => by cases hq)⟩
theorem fit_len {wd : Int} {r : List Int} (h : rowFit wd r = true) : (r.length : Int) = wd := by
  unfold rowFit at h
  rw [Bool.and_eq_true, decide_eq_true_eq] at h
  exact h.2
/-- A key that is not there. -/
theorem idx_none : ∀ {rows : List (List Int)} {k : Int}, idxK rows k = rows.length ↔ ∀ r ∈ rows, ky r ≠ k
  | [], k => ⟨(fun _ r hr => by cases hr), fun _ => rfl⟩
  | r :: rs, k => by
    have ih := idx_none (rows := rs) (k := k)
    simp only [idxK, List.length_cons, List.forall_mem_cons]
    split
    · rename_i h; constructor
      · intro e; omega
      · intro e; exact absurd h e.1
    · rename_i h
      rw [Nat.add_right_cancel_iff, ih]
      exact ⟨fun e => ⟨h, e⟩, fun e => e.2⟩
theorem idx_split : ∀ {rows : List (List Int)} {k : Int}, idxK rows k < rows.length → ∃ r, rows.drop (idxK rows k) = r :: rows.drop (idxK rows k + 1) ∧ ky r = k ∧ r ∈ rows ∧ ∀ x ∈ rows.take (idxK rows k), ky x ≠ k
  | r :: rs, k, h => by
    by_cases e : ky r = k
    · refine ⟨r, ?_, e, by simp, ?_⟩
      · simp [idxK, e]
      · simp [idxK, e]
    · have h' : idxK rs k < rs.length := by simpa [idxK, e] using h
      obtain ⟨x, h1, h2, h3, h4⟩ := idx_split h'
      refine ⟨x, ?_, h2, List.mem_cons_of_mem _ h3, ?_⟩
      · simpa [idxK, e] using h1
      · intro y hy
        simp only [idxK, if_neg e, List.take_succ_cons] at hy
        rcases List.mem_cons.1 hy with rfl | hy
        · exact e
        · exact h4 y hy
theorem plc_take : ∀ (rows : List (List Int)) (k : Int), ∀ r ∈ rows.take (plcK rows k), ky r < k
  | [], _, r, h => by simp at h
  | x :: xs, k, r, h => by
    simp only [plcK] at h
    split at h
    · rename_i hx
      rw [List.take_succ_cons] at h
      rcases List.mem_cons.1 h with rfl | h
      · exact hx
      · exact plc_take xs k r h
    · simp at h
theorem plc_drop : ∀ {rows : List (List Int)} {k : Int}, SK rows → ∀ r ∈ rows.drop (plcK rows k), k ≤ ky r
  | [], _, _, r, h => by simp at h
  | x :: xs, k, hs, r, h => by
    obtain ⟨ha, hb⟩ := List.pairwise_cons.1 hs
    simp only [plcK] at h
    split at h
    · rw [List.drop_succ_cons] at h
      exact plc_drop hb r h
    · rename_i hx
      simp only [List.drop_zero] at h
      rcases List.mem_cons.1 h with rfl | h
      · omega
      · have := ha r h; omega
theorem placed_sk {rows : List (List Int)} {row : List Int} (h : SK rows) (hn : ∀ r ∈ rows, ky r ≠ ky row) : SK (placedL rows row) := by
  have e := List.take_append_drop (plcK rows (ky row)) rows
  have h' : SK (rows.take (plcK rows (ky row)) ++ rows.drop (plcK rows (ky row))) := by rw [e]; exact h
  obtain ⟨h1, h2, h3⟩ := List.pairwise_append.1 h'
  refine List.pairwise_append.2 ⟨h1, List.pairwise_cons.2 ⟨fun r hr => ?_, h2⟩, fun a ha b hb => ?_⟩
  · have k1 := plc_drop h r hr
    have k2 := hn r (List.mem_of_mem_drop hr)
    omega
  · rcases List.mem_cons.1 hb with rfl | hb
    · exact plc_take rows _ a ha
    · exact h3 a ha b hb
theorem idx_append_none : ∀ {xs ys : List (List Int)} {k : Int}, (∀ r ∈ xs, ky r ≠ k) → idxK (xs ++ ys) k = xs.length + idxK ys k
  | [], ys, k, _ => by simp
  | x :: xs, ys, k, h => by
    have := idx_append_none (xs := xs) (ys := ys) (k := k) (fun r hr => h r (List.mem_cons_of_mem _ hr))
    simp only [List.cons_append, idxK, if_neg (h x (by simp)), this, List.length_cons]; omega
theorem idx_placed {rows : List (List Int)} {row : List Int} : idxK (placedL rows row) (ky row) = plcK rows (ky row) ∧ (placedL rows row).length = rows.length + 1 := by
  have hp := plc_le rows (ky row)
  refine ⟨?_, ?_⟩
  · unfold placedL
    rw [idx_append_none (fun r hr => by have := plc_take rows _ r hr; omega)]
    simp [idxK]; omega
  · unfold placedL; simp; omega
theorem taken_placed (rows : List (List Int)) (row : List Int) : takenL (placedL rows row) (ky row) = rows := by
  have hp := plc_le rows (ky row)
  have hl : (rows.take (plcK rows (ky row))).length = plcK rows (ky row) := by rw [List.length_take]; omega
  unfold takenL
  rw [idx_placed.1]
  unfold placedL
  rw [List.take_append_of_le_length (by omega), List.take_of_length_le (by omega), List.drop_append, hl, List.drop_of_length_le (by omega), List.nil_append, show plcK rows (ky row) + 1 - plcK rows (ky row) = 1 by omega]
  simp
theorem placed_at (rows : List (List Int)) (row : List Int) : rr (placedL rows row) (plcK rows (ky row)) = row := by
  have hp := plc_le rows (ky row)
  unfold rr placedL
  rw [List.getElem?_append_right (by rw [List.length_take]; omega), List.length_take, Nat.min_eq_left hp, Nat.sub_self]; rfl
theorem placed_ok {wd : Int} {rows : List (List Int)} {row : List Int} (h : rowsOkB wd rows = true) (hr : rowFit wd row = true) (hn : idxK rows (ky row) = rows.length) (hl : rows.length ≠ 30) : rowsOkB wd (placedL rows row) = true := by
  obtain ⟨⟨h1, h2⟩, h3, h4⟩ := rowsOk_iff.1 h
  refine rowsOk_iff.2 ⟨⟨h1, by rw [idx_placed.2]; omega⟩, placed_sk h3 (idx_none.1 hn), fun r hm => ?_⟩
  unfold placedL at hm
  rcases List.mem_append.1 hm with hm | hm
  · exact h4 r (List.mem_of_mem_take hm)
  · rcases List.mem_cons.1 hm with rfl | hm
    · exact hr
    · exact h4 r (List.mem_of_mem_drop hm)
theorem taken_mem {rows : List (List Int)} {k : Int} {r : List Int} (h : r ∈ takenL rows k) : r ∈ rows := by
  unfold takenL at h
  rcases List.mem_append.1 h with h | h
  · exact List.mem_of_mem_take h
  · exact List.mem_of_mem_drop h
theorem taken_sub (rows : List (List Int)) (k : Int) : (takenL rows k).Sublist rows := by
  unfold takenL
  have e := List.take_append_drop (idxK rows k) rows
  conv => rhs; rw [← e]
  refine List.Sublist.append (List.Sublist.refl _) ?_
  rw [← List.drop_drop]
  exact List.drop_sublist _ _
theorem taken_ok {wd : Int} {rows : List (List Int)} {k : Int} (h : rowsOkB wd rows = true) : rowsOkB wd (takenL rows k) = true := by
  obtain ⟨⟨h1, h2⟩, h3, h4⟩ := rowsOk_iff.1 h
  have hs := taken_sub rows k
  exact rowsOk_iff.2 ⟨⟨h1, Nat.le_trans hs.length_le h2⟩, List.Pairwise.sublist hs h3, fun r hm => h4 r (taken_mem hm)⟩
theorem taken_none {rows : List (List Int)} {k : Int} (h : SK rows) (ht : idxK rows k < rows.length) : idxK (takenL rows k) k = (takenL rows k).length ∧ (takenL rows k).length + 1 = rows.length := by
  obtain ⟨r, h1, h2, _, h4⟩ := idx_split ht
  have hi := idx_le rows k
  refine ⟨idx_none.2 fun x hx => ?_, ?_⟩
  · unfold takenL at hx
    rcases List.mem_append.1 hx with hx | hx
    · exact h4 x hx
    · have hp : SK (rows.drop (idxK rows k)) := List.Pairwise.sublist (List.drop_sublist _ _) h
      rw [h1] at hp
      have := (List.pairwise_cons.1 hp).1 x hx
      omega
  · unfold takenL; simp; omega
/-- The rows whose key is more than f and not more than t, once each. -/
def bagIn (rows : List (List Int)) (f t : Int) : List (List Int × Int) := (rows.filter fun r => decide (f < ky r) && decide (ky r ≤ t)).map fun r => (r, 1)
theorem less_of_key {wd : Int} {a b : List Int} (ha : rowFit wd a = true) (hb : rowFit wd b = true) (hw : 1 ≤ wd) (h : ky a < ky b) : lessB a b = true := by
  have la := fit_len ha
  have lb := fit_len hb
  cases a with
  | nil => simp at la; omega
  | cons x xs =>
    cases b with
    | nil => simp at lb; omega
    | cons y ys =>
      have h' : x < y := by simpa [ky, ix] using h
      simp only [lessB]
      rw [if_neg (by omega)]
      exact decide_eq_true h'
theorem bagIn_sb {wd : Int} {rows : List (List Int)} {f t : Int} (h : rowsOkB wd rows = true) : SB (bagIn rows f t) ∧ NZ (bagIn rows f t) := by
  obtain ⟨⟨h1, h2⟩, h3, h4⟩ := rowsOk_iff.1 h
  have hw : 1 ≤ wd := by
    unfold inB at h1
    rw [Bool.and_eq_true, decide_eq_true_eq] at h1
    exact h1.1
  refine ⟨?_, fun p hp => ?_⟩
  · unfold SB bagIn
    rw [List.pairwise_map]
    have hs : SK (rows.filter fun r => decide (f < ky r) && decide (ky r ≤ t)) := List.Pairwise.sublist List.filter_sublist h3
    refine List.Pairwise.imp_of_mem (fun {a b} ha hb hab => ?_) hs
    exact less_of_key (h4 a (List.mem_filter.1 ha).1) (h4 b (List.mem_filter.1 hb).1) hw hab
  · obtain ⟨r, _, rfl⟩ := List.mem_map.1 hp
    simp
theorem bagIn_times {rows : List (List Int)} {f t : Int} (s : List Int) : timesL (bagIn rows f t) s = if s ∈ rows ∧ f < ky s ∧ ky s ≤ t then 1 else 0 := by
  induction rows with
  | nil => simp [bagIn, timesL]
  | cons r rs ih =>
    unfold bagIn at ih ⊢
    rw [List.filter_cons]
    by_cases hc : (decide (f < ky r) && decide (ky r ≤ t)) = true
    · rw [if_pos hc, List.map_cons, timesL]
      have hc' : f < ky r ∧ ky r ≤ t := by simpa using hc
      by_cases e : r = s
      · subst e
        rw [if_pos rfl, if_pos ⟨by simp, hc'⟩]
      · rw [if_neg e, ih]
        have : (s ∈ r :: rs) ↔ s ∈ rs := by
          rw [List.mem_cons]
          exact ⟨fun h => h.elim (fun h => absurd h.symm e) id, .inr⟩
        simp only [this]
    · rw [if_neg hc, ih]
      have hc' : ¬ (f < ky r ∧ ky r ≤ t) := by simpa using hc
      by_cases e : s = r
      · subst e
        rw [if_neg (fun h => hc' h.2), if_neg (fun h => hc' h.2)]
      · have : (s ∈ r :: rs) ↔ s ∈ rs := by
          rw [List.mem_cons]
          exact ⟨fun h => h.elim (fun h => absurd h e) id, .inr⟩
        simp only [this]
theorem fit_ok {wd : Int} {r : List Int} (h : rowFit wd r = true) (hw : wd ≤ 4) : rowOkB r = true := by
  have hl := fit_len h
  unfold rowFit at h
  rw [Bool.and_eq_true, List.all_eq_true] at h
  unfold rowOkB
  rw [Bool.and_eq_true]
  refine ⟨List.all_eq_true.2 fun z hz => ?_, decide_eq_true (by omega)⟩
  have := h.1 z hz
  unfold inB at this
  rw [Bool.and_eq_true, decide_eq_true_eq, decide_eq_true_eq] at this
  unfold cellB inB
  rw [decide_eq_true (by omega), decide_eq_true (by omega)]; rfl
theorem sb_ok : ∀ {b : List (List Int × Int)} {p : Option (List Int)}, SB b → (∀ q ∈ b, rowOkB q.1 = true ∧ q.2 ≠ 0 ∧ -1000000 ≤ q.2 ∧ q.2 ≤ 1000000) → (∀ r, p = some r → ∀ q ∈ b, lessB r q.1 = true) → okFrom p b = true
  | [], _, _, _, _ => rfl
  | (r, n) :: bs, p, h1, h2, h3 => by
    obtain ⟨ha, hb⟩ := List.pairwise_cons.1 h1
    obtain ⟨k1, k2, k3, k4⟩ := h2 (r, n) (by simp)
    simp only at k1 k2 k3 k4
    simp only [okFrom, Bool.and_eq_true]
    refine ⟨⟨⟨⟨k1, by simpa using k2⟩, ?_⟩, ?_⟩, sb_ok hb (fun x hx => h2 x (List.mem_cons_of_mem _ hx)) fun q hq x hx => ?_⟩
    · unfold inB; rw [decide_eq_true k3, decide_eq_true k4]; rfl
    · cases p with
      | none => rfl
      | some q => exact h3 q rfl (r, n) (by simp)
    · cases hq; exact ha x hx
theorem bagIn_ok {wd : Int} {rows : List (List Int)} {f t : Int} (h : rowsOkB wd rows = true) : bagOkB (bagIn rows f t) = true := by
  obtain ⟨hs, hz⟩ := bagIn_sb (f := f) (t := t) h
  obtain ⟨⟨h1, h2⟩, h3, h4⟩ := rowsOk_iff.1 h
  have hw : wd ≤ 4 := by
    unfold inB at h1
    rw [Bool.and_eq_true, decide_eq_true_eq, decide_eq_true_eq] at h1
    exact h1.2
  unfold bagOkB
  rw [Bool.and_eq_true, decide_eq_true_eq]
  refine ⟨sb_ok hs (fun q hq => ?_) (fun r hr => by cases hr), ?_⟩
  · obtain ⟨r, hr, rfl⟩ := List.mem_map.1 hq
    exact ⟨fit_ok (h4 r (List.mem_filter.1 hr).1) hw, by simp, by simp, by simp⟩
  · unfold bagIn
    rw [List.length_map]
    have := List.length_filter_le (fun r => decide (f < ky r) && decide (ky r ≤ t)) rows
    omega
theorem bagIn_plus {wd : Int} {rows : List (List Int)} {lo f t : Int} (h : rowsOkB wd rows = true) (h1 : lo ≤ f) (h2 : f ≤ t) : plusL (bagIn rows lo f) (bagIn rows f t) = bagIn rows lo t := by
  obtain ⟨fa, la⟩ := bagOk_fit (bagIn_ok (f := lo) (t := f) h)
  obtain ⟨fb, lb⟩ := bagOk_fit (bagIn_ok (f := f) (t := t) h)
  obtain ⟨p1, p2, p3⟩ := Fit.plus (by omega) (by omega) fa fb (by omega)
  obtain ⟨q1, q2⟩ := bagIn_sb (f := lo) (t := t) h
  refine canon p1 q1 p2 q2 fun s => ?_
  rw [p3, bagIn_times, bagIn_times, bagIn_times]
  by_cases hm : s ∈ rows
  · by_cases a1 : lo < ky s <;> by_cases a2 : ky s ≤ f <;> by_cases a3 : ky s ≤ t
    all_goals
      simp only [hm, a1, a2, a3, true_and, and_true, if_true, if_false, and_false]
      first | rfl | (rw [if_neg (by omega)]; rfl) | (rw [if_pos (by omega)]; rfl) | omega | skip
  · simp [hm]
end Go.Proofs.Ytoncfodlffofdaa
