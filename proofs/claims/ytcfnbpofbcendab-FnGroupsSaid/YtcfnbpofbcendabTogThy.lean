/- Plain facts: counts of any N brought together, in whatever order; and the walk along sorted counts. No condition. -/
import Derived.Test.YtcfnbpofbcendabJC
namespace Go.Proofs.Ytcfnbpofbcendab

/-- All counts together. -/
def togL (ps : List (List Int × Int)) : List (List Int × Int) := ps.foldl (fun b p => withL b p.1 p.2) []
theorem tog_snoc (ps : List (List Int × Int)) (p : List Int × Int) : togL (ps ++ [p]) = withL (togL ps) p.1 p.2 := by simp [togL]
theorem tog_append (ps qs : List (List Int × Int)) : togL (ps ++ qs) = qs.foldl (fun b p => withL b p.1 p.2) (togL ps) := by simp [togL]
/-- All N of a row. -/
def sumZ (ps : List (List Int × Int)) (s : List Int) : Int := ((ps.filter fun p => decide (p.1 = s)).map Prod.snd).sum
theorem sumZ_nil (s : List Int) : sumZ [] s = 0 := rfl
theorem sumZ_append (ps qs : List (List Int × Int)) (s : List Int) : sumZ (ps ++ qs) s = sumZ ps s + sumZ qs s := by
  unfold sumZ; rw [List.filter_append, List.map_append, List.sum_append]
theorem sumZ_one (p : List Int × Int) (s : List Int) : sumZ [p] s = if s = p.1 then p.2 else 0 := by
  unfold sumZ
  by_cases e : s = p.1
  · rw [if_pos e, List.filter_cons_of_pos (by simpa using e.symm)]; simp
  · rw [if_neg e, List.filter_cons_of_neg (by simpa using Ne.symm e)]; simp
theorem sumZ_snoc (ps : List (List Int × Int)) (p : List Int × Int) (s : List Int) : sumZ (ps ++ [p]) s = sumZ ps s + if s = p.1 then p.2 else 0 := by
  rw [sumZ_append, sumZ_one]
theorem int_perm_sum {a b : List Int} (h : a.Perm b) : a.sum = b.sum := by
  induction h with
  | nil => rfl
  | cons x _ ih => rw [List.sum_cons, List.sum_cons, ih]
  | swap x y l => rw [List.sum_cons, List.sum_cons, List.sum_cons, List.sum_cons]; omega
  | trans _ _ i1 i2 => rw [i1, i2]
theorem sumZ_perm {ps qs : List (List Int × Int)} (h : ps.Perm qs) (s : List Int) : sumZ ps s = sumZ qs s := int_perm_sum ((h.filter _).map _)
theorem sumZ_none {ps : List (List Int × Int)} {s : List Int} (h : ∀ p ∈ ps, p.1 ≠ s) : sumZ ps s = 0 := by
  unfold sumZ
  rw [List.filter_eq_nil_iff.2 (fun p hp => by simpa using h p hp)]; rfl
def W64 (x : Int) : Int := addW 0 x
theorem W64_add (x y : Int) : addW (W64 x) y = W64 (x + y) := by
  unfold W64 addW; rw [IntKind.wrap_i64, IntKind.wrap_i64, IntKind.wrap_i64]; omega
theorem W64_W64 (x : Int) : W64 (W64 x) = W64 x := by
  unfold W64 addW; rw [IntKind.wrap_i64, IntKind.wrap_i64]; omega
theorem W64_zero : W64 0 = 0 := by unfold W64 addW; rw [IntKind.wrap_i64]; omega
theorem W64_small {x : Int} (h0 : -4611686018427387904 ≤ x) (h1 : x ≤ 4611686018427387903) : W64 x = x := by
  unfold W64; rw [addW_small (by omega) (by omega) h0 h1]; omega
/-- Numbers as the machine holds them. -/
def N64 (ps : List (List Int × Int)) : Prop := ∀ p ∈ ps, addW 0 p.2 = p.2
theorem list_snoc_ind {α : Type} {P : List α → Prop} (h0 : P []) (h1 : ∀ l x, P l → P (l ++ [x])) (l : List α) : P l := by
  have key : ∀ m : List α, P m.reverse := by
    intro m
    induction m with
    | nil => exact h0
    | cons x m ih => rw [List.reverse_cons]; exact h1 _ _ ih
  have := key l.reverse
  rwa [List.reverse_reverse] at this
theorem tog_facts : ∀ ps : List (List Int × Int), N64 ps → SB (togL ps) ∧ NZ (togL ps) ∧ ∀ s, timesL (togL ps) s = W64 (sumZ ps s) := by
  refine list_snoc_ind ?_ ?_
  · intro _
    exact ⟨List.Pairwise.nil, (fun p hp => by cases hp), fun s => by rw [sumZ_nil, W64_zero]; rfl⟩
  · intro ps p ih hN
    obtain ⟨h1, h2, h3⟩ := ih fun q hq => hN q (List.mem_append.2 (.inl hq))
    have hn := hN p (by simp)
    rw [tog_snoc, withL_ins]
    refine ⟨ins_sb h1, ins_nz h2, fun s => ?_⟩
    rw [ins_times hn h1, h3, h3, sumZ_snoc]
    by_cases e : s = p.1
    · rw [if_pos e, if_pos e, e, W64_add]
    · rw [if_neg e, if_neg e, Int.add_zero]
theorem tog_perm {ps qs : List (List Int × Int)} (h : ps.Perm qs) (hN : N64 ps) : togL ps = togL qs := by
  obtain ⟨a1, a2, a3⟩ := tog_facts ps hN
  obtain ⟨b1, b2, b3⟩ := tog_facts qs fun q hq => hN q (h.symm.subset hq)
  exact canon a1 b1 a2 b2 fun s => by rw [a3, b3, sumZ_perm h]
theorem tog_length (ps : List (List Int × Int)) : (togL ps).length ≤ ps.length := by
  refine list_snoc_ind (P := fun ps => (togL ps).length ≤ ps.length) (by simp [togL]) ?_ ps
  intro ps p ih
  rw [tog_snoc, List.length_append, List.length_singleton]
  have := withL_length (bag := togL ps) (row := p.1) (n := p.2)
  omega
theorem tog_mem {ps : List (List Int × Int)} : ∀ p ∈ togL ps, ∃ q ∈ ps, p.1 = q.1 := by
  refine list_snoc_ind (P := fun ps => ∀ p ∈ togL ps, ∃ q ∈ ps, p.1 = q.1) (fun p hp => by cases hp) ?_ ps
  intro ps p ih r hr
  rw [tog_snoc, withL_ins] at hr
  rcases ins_mem hr with h | h
  · obtain ⟨q, hq, e⟩ := ih r h
    exact ⟨q, List.mem_append.2 (.inl hq), e⟩
  · exact ⟨p, by simp, h⟩
theorem tog_rows {ps : List (List Int × Int)} {m : Nat} (h : ∀ p ∈ ps, p.1.length ≤ m) : ∀ p ∈ togL ps, p.1.length ≤ m := fun p hp => by
  obtain ⟨q, hq, e⟩ := tog_mem p hp
  rw [e]; exact h q hq

/-- Sorted counts, those of a row in one: how they stand while the heap is emptied. -/
def CL (bs pre : List (List Int × Int)) : Prop := SB bs ∧ (∀ s, timesL bs s = W64 (sumZ pre s)) ∧ (∀ p ∈ bs, ∃ q ∈ pre, p.1 = q.1) ∧ bs.length ≤ pre.length
theorem CL.nil : CL [] [] := ⟨List.Pairwise.nil, fun s => by rw [sumZ_nil, W64_zero]; rfl, (fun p hp => by cases hp), Nat.le_refl _⟩
theorem last_less {bs : List (List Int × Int)} (hs : SB bs) {m : Nat} (hm : bs.length = m + 1) : ∀ p ∈ bs, p.1 = rx bs m ∨ lessB p.1 (rx bs m) = true := by
  intro p hp
  obtain ⟨k, hk, rfl⟩ := List.getElem_of_mem hp
  by_cases e : k = m
  · subst e; left; simp [rx, hk]
  · right
    have := List.pairwise_iff_getElem.1 hs k m hk (by omega) (by omega)
    have e2 : rx bs m = (bs[m]'(by omega)).1 := by simp [rx, show m < bs.length by omega]
    rw [e2]; exact this
theorem times_snoc {bs : List (List Int × Int)} {r : List Int} {n : Int} (h : ∀ p ∈ bs, p.1 ≠ r) (s : List Int) : timesL (bs ++ [(r, n)]) s = if s = r then n else timesL bs s := by
  induction bs with
  | nil =>
    show (if r = s then n else 0) = if s = r then n else 0
    by_cases e : s = r
    · rw [if_pos e.symm, if_pos e]
    · rw [if_neg (Ne.symm e), if_neg e]
  | cons p bs ih =>
    obtain ⟨q, m⟩ := p
    rw [List.cons_append, timesL, timesL, ih fun p hp => h p (List.mem_cons_of_mem _ hp)]
    by_cases e : q = s
    · rw [if_pos e, if_pos e]
      have : q ≠ r := h (q, m) (by simp)
      rw [if_neg (by rw [← e]; exact this)]
    · rw [if_neg e, if_neg e]
theorem CL.last {bs pre : List (List Int × Int)} (h : CL bs pre) {m : Nat} (hm : bs.length = m + 1) {r : List Int} {n : Int} (he : rx bs m = r) : CL (bs.set m (r, addW (nx bs m) n)) (pre ++ [(r, n)]) := by
  obtain ⟨h1, h2, h3, h4⟩ := h
  have hml : m < bs.length := by omega
  have hd : bs = bs.dropLast ++ [(r, nx bs m)] := by
    have h5 := List.take_succ_eq_append_getElem hml
    rw [List.take_of_length_le (by omega), bag_ix hml, he] at h5
    rw [List.dropLast_eq_take, show bs.length - 1 = m by omega]
    exact h5
  obtain ⟨ds, hds⟩ : ∃ ds, bs.dropLast = ds := ⟨_, rfl⟩
  rw [hds] at hd
  have hdl : ds.length = m := by rw [← hds]; simp; omega
  have hset : bs.set m (r, addW (nx bs m) n) = ds ++ [(r, addW (nx bs m) n)] := by
    rw [hd, ← hdl, List.set_append_right _ _ (Nat.le_refl _), Nat.sub_self]
    have : nx (ds ++ [(r, nx bs ds.length)]) ds.length = nx bs ds.length := by simp [nx]
    rw [this]; rfl
  rw [hset]
  have h1' : SB (ds ++ [(r, nx bs m)]) := by rw [← hd]; exact h1
  have hne : ∀ p ∈ ds, lessB p.1 r = true := fun p hp => (List.pairwise_append.1 h1').2.2 p hp (r, nx bs m) (by simp)
  have hne' : ∀ p ∈ ds, p.1 ≠ r := fun p hp => less_ne (hne p hp)
  have ht : ∀ s, timesL bs s = if s = r then nx bs m else timesL ds s := fun s => by
    have := times_snoc (n := nx bs m) hne' s
    rw [← hd] at this
    exact this
  refine ⟨List.pairwise_append.2 ⟨(List.pairwise_append.1 h1').1, List.pairwise_singleton _ _, fun p hp q hq => by rw [List.mem_singleton.1 hq]; exact hne p hp⟩, fun s => ?_, fun p hp => ?_, by simp only [List.length_append, List.length_cons, List.length_nil]; omega⟩
  · rw [times_snoc hne', sumZ_snoc]
    have hs := h2 s
    rw [ht] at hs
    by_cases e : s = r
    · rw [if_pos e] at hs
      rw [if_pos e, if_pos e, hs, W64_add]
    · rw [if_neg e] at hs
      rw [if_neg e, if_neg e, Int.add_zero, hs]
  · rcases List.mem_append.1 hp with hp | hp
    · obtain ⟨q, hq, e⟩ := h3 p (by rw [hd]; exact List.mem_append.2 (.inl hp))
      exact ⟨q, List.mem_append.2 (.inl hq), e⟩
    · rw [List.mem_singleton.1 hp]; exact ⟨(r, n), by simp, rfl⟩
theorem CL.new {bs pre : List (List Int × Int)} (h : CL bs pre) {r : List Int} {n : Int} (hn : addW 0 n = n) (hle : ∀ p ∈ bs, lessB r p.1 = false) (hne : ∀ m, bs.length = m + 1 → ¬ rx bs m = r) : CL (bs ++ [(r, n)]) (pre ++ [(r, n)]) := by
  obtain ⟨h1, h2, h3, h4⟩ := h
  have hlt : ∀ p ∈ bs, lessB p.1 r = true := by
    intro p hp
    obtain ⟨m, hm⟩ : ∃ m, bs.length = m + 1 := ⟨bs.length - 1, by have := List.length_pos_of_mem hp; omega⟩
    have hml : m < bs.length := by omega
    have hlast : lessB (rx bs m) r = true := by
      rcases less_tri (rx bs m) r with e | e | e
      · exact e
      · exact absurd e (hne m hm)
      · have := hle bs[m] (List.getElem_mem hml)
        rw [bag_ix hml] at this
        simp only at this
        rw [e] at this; cases this
    rcases last_less h1 hm p hp with e | e
    · rw [e]; exact hlast
    · exact less_trans e hlast
  have hne' : ∀ p ∈ bs, p.1 ≠ r := fun p hp => less_ne (hlt p hp)
  refine ⟨List.pairwise_append.2 ⟨h1, List.pairwise_singleton _ _, fun p hp q hq => by rw [List.mem_singleton.1 hq]; exact hlt p hp⟩, fun s => ?_, fun p hp => ?_, by simp only [List.length_append, List.length_cons, List.length_nil]; omega⟩
  · rw [times_snoc hne', sumZ_snoc]
    by_cases e : s = r
    · have h0 := h2 r
      rw [timesL_zero hne'] at h0
      subst e
      rw [if_pos rfl, if_pos rfl, ← W64_add, ← h0, hn]
    · rw [if_neg e, if_neg e, Int.add_zero, h2]
  · rcases List.mem_append.1 hp with hp | hp
    · obtain ⟨q, hq, e⟩ := h3 p hp
      exact ⟨q, List.mem_append.2 (.inl hq), e⟩
    · rw [List.mem_singleton.1 hp]; exact ⟨(r, n), by simp, rfl⟩
theorem times_filter : ∀ {bs : List (List Int × Int)}, SB bs → ∀ s, timesL (bs.filter fun p => !decide (p.2 = 0)) s = timesL bs s
  | [], _, _ => rfl
  | (r, n) :: bs, h, s => by
    have ih := times_filter (List.pairwise_cons.1 h).2 s
    by_cases e : n = 0
    · rw [List.filter_cons_of_neg (by simpa using e), ih, timesL]
      by_cases er : r = s
      · rw [if_pos er, e]
        exact timesL_zero fun p hp => by rw [← er]; exact (less_ne ((List.pairwise_cons.1 h).1 p hp)).symm
      · rw [if_neg er]
    · rw [List.filter_cons_of_pos (by simpa using e), timesL, timesL, ih]
theorem CL.done {bs pre ps : List (List Int × Int)} (h : CL bs pre) (hp : pre.Perm ps) (hN : N64 ps) : (bs.filter fun p => !decide (p.2 = 0)) = togL ps := by
  obtain ⟨b1, b2, b3⟩ := tog_facts ps hN
  refine canon (h.1.filter _) b1 (fun p hp => by simpa using (List.mem_filter.1 hp).2) b2 fun s => ?_
  rw [times_filter h.1, h.2.1, b3, sumZ_perm hp]
end Go.Proofs.Ytcfnbpofbcendab
