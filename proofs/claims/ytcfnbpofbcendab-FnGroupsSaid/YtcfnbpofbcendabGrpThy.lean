/- Plain facts on groups: the model's list of groups while it grows, and that both ways come to the same bag. -/
import Derived.Test.YtcfnbpofbcendabGrp0
namespace Go.Proofs.Ytcfnbpofbcendab

abbrev Tr := List Int × Int × Int
def keyIn (tr : List Tr) (s : List Int) : Prop := ∃ t ∈ tr, t.1 = s
/-- The groups of the first rows. -/
structure GT (b : List (List Int × Int)) (ps : List Int) (p : Int) (tr : List Tr) (i : Nat) : Prop where
  nodup : (tr.map Prod.fst).Nodup
  val : ∀ t ∈ tr, t.2.1 = sumZ (keptL (b.take i) ps) t.1 ∧ (0 ≤ p → t.2.2 = sumZ (sumsL (b.take i) ps p) t.1)
  all : ∀ j, j < i → j < b.length → keyIn tr (pickedL (rx b j) ps)
  len : tr.length ≤ i
theorem GT.start (b : List (List Int × Int)) (ps : List Int) (p : Int) : GT b ps p [] 0 := ⟨List.Pairwise.nil, (fun t ht => by cases ht), fun j h => absurd h (by omega), Nat.le_refl _⟩
theorem sumZ_nokey {b : List (List Int × Int)} {ps : List Int} {p : Int} {tr : List Tr} {i : Nat} (h : GT b ps p tr i) (hi : i ≤ b.length) {s : List Int} (hs : ¬ keyIn tr s) : sumZ (keptL (b.take i) ps) s = 0 ∧ sumZ (sumsL (b.take i) ps p) s = 0 := by
  have key : ∀ x ∈ b.take i, pickedL x.1 ps ≠ s := by
    intro x hx e
    obtain ⟨j, hj, rfl⟩ := List.getElem_of_mem hx
    rw [List.length_take] at hj
    have h1 := h.all j (by omega) (by omega)
    rw [List.getElem_take, bag_ix (by omega)] at e
    simp only at e
    rw [e] at h1
    exact hs h1
  constructor
  · refine sumZ_none fun q hq => ?_
    unfold keptL at hq
    obtain ⟨x, hx, rfl⟩ := List.mem_map.1 hq
    exact key x hx
  · refine sumZ_none fun q hq => ?_
    unfold sumsL at hq
    obtain ⟨x, hx, rfl⟩ := List.mem_map.1 hq
    exact key x hx
theorem GT.new {b : List (List Int × Int)} {ps : List Int} {p : Int} {tr : List Tr} {i : Nat} (h : GT b ps p tr i) (hi : i ≤ b.length) {s : List Int} (hs : ¬ keyIn tr s) :
    ((tr ++ [(s, 0, 0)]).map Prod.fst).Nodup ∧ ∀ t ∈ tr ++ [(s, 0, 0)], t.2.1 = sumZ (keptL (b.take i) ps) t.1 ∧ (0 ≤ p → t.2.2 = sumZ (sumsL (b.take i) ps p) t.1) := by
  obtain ⟨z1, z2⟩ := sumZ_nokey h hi hs
  refine ⟨?_, fun t ht => ?_⟩
  · rw [List.map_append]
    refine List.pairwise_append.2 ⟨h.nodup, List.pairwise_singleton _ _, fun a ha c hc => ?_⟩
    obtain ⟨t, ht, rfl⟩ := List.mem_map.1 ha
    rw [List.map_singleton, List.mem_singleton] at hc
    subst hc
    exact fun e => hs ⟨t, ht, e⟩
  · rcases List.mem_append.1 ht with ht | ht
    · exact h.val t ht
    · rw [List.mem_singleton.1 ht]
      exact ⟨z1.symm, fun _ => z2.symm⟩
/-- One row more: n and the sum of its group. -/
theorem GT.step {b : List (List Int × Int)} {ps : List Int} {p : Int} {tr tr' : List Tr} {i k : Nat} (h : GT b ps p tr i) (hi : i < b.length) (hnd : (tr'.map Prod.fst).Nodup) (hval : ∀ t ∈ tr', t.2.1 = sumZ (keptL (b.take i) ps) t.1 ∧ (0 ≤ p → t.2.2 = sumZ (sumsL (b.take i) ps p) t.1))
    (hsub : ∀ t ∈ tr, keyIn tr' t.1) (hl : tr'.length ≤ i + 1) (hk : k < tr'.length) (hkr : tr'[k].1 = pickedL (rx b i) ps) {m' : Int} (hm : 0 ≤ p → m' = tr'[k].2.2 + nx b i * ix (rx b i) p.toNat) :
    GT b ps p (tr'.set k (tr'[k].1, tr'[k].2.1 + nx b i, m')) (i + 1) := by
  have hmap : (tr'.set k (tr'[k].1, tr'[k].2.1 + nx b i, m')).map Prod.fst = tr'.map Prod.fst := by
    rw [List.map_set]
    refine List.ext_getElem (by simp) fun j h1 h2 => ?_
    rw [List.getElem_set]
    split
    · rename_i e; subst e; simp
    · rfl
  refine ⟨by rw [hmap]; exact hnd, fun t ht => ?_, fun j hj hjb => ?_, by rw [List.length_set]; exact hl⟩
  · rw [kept_step hi, sums_step hi, sumZ_snoc, sumZ_snoc]
    obtain ⟨j, hj, rfl⟩ := List.getElem_of_mem ht
    rw [List.length_set] at hj
    rw [List.getElem_set]
    by_cases e : k = j
    · subst e
      rw [if_pos rfl]
      simp only
      rw [if_pos hkr, if_pos hkr]
      have hv := hval tr'[k] (List.getElem_mem hk)
      exact ⟨by rw [hv.1], fun hp => by rw [hm hp, hv.2 hp]⟩
    · rw [if_neg e]
      have hv := hval tr'[j] (List.getElem_mem hj)
      have hne : tr'[j].1 ≠ pickedL (rx b i) ps := fun e2 => by
        rw [← hkr] at e2
        have h3 := List.pairwise_iff_getElem.1 hnd
        rcases Nat.lt_or_ge j k with h4 | h4
        · exact h3 j k (by simpa using hj) (by simpa using hk) h4 (by simpa using e2)
        · exact h3 k j (by simpa using hk) (by simpa using hj) (by omega) (by simpa using e2.symm)
      rw [if_neg hne, if_neg hne, Int.add_zero, Int.add_zero]
      exact hv
  · have hkey : keyIn tr' (pickedL (rx b j) ps) := by
      by_cases e : j = i
      · subst e; exact ⟨tr'[k], List.getElem_mem hk, hkr⟩
      · obtain ⟨t, ht, e2⟩ := h.all j (by omega) hjb
        obtain ⟨t2, h2, e3⟩ := hsub t ht
        exact ⟨t2, h2, e3.trans e2⟩
    obtain ⟨t, ht, e⟩ := hkey
    have h1 : t.1 ∈ (tr'.set k (tr'[k].1, tr'[k].2.1 + nx b i, m')).map Prod.fst := by rw [hmap]; exact List.mem_map_of_mem ht
    obtain ⟨t2, h2, e2⟩ := List.mem_map.1 h1
    exact ⟨t2, h2, e2.trans e⟩

def rowM (p : Int) (t : Tr) : List Int := t.1 ++ t.2.1 :: (if 0 ≤ p then [t.2.2] else [])
def grpM (p : Int) (tr : List Tr) : List (List Int × Int) := (tr.filter fun t => decide (0 < t.2.1)).map fun t => (rowM p t, 1)
theorem grpM_step {p : Int} {tr : List Tr} {k : Nat} (h : k < tr.length) : grpM p (tr.take (k + 1)) = grpM p (tr.take k) ++ if 0 < tr[k].2.1 then [(rowM p tr[k], 1)] else [] := by
  unfold grpM
  rw [List.take_succ_eq_append_getElem h, List.filter_append, List.map_append]
  congr 1
  by_cases e : 0 < tr[k].2.1
  · rw [if_pos e, List.filter_cons_of_pos (by simpa using e)]; simp
  · rw [if_neg e, List.filter_cons_of_neg (by simpa using e)]; simp
theorem less_append {a b : List Int} (h : lessB a b = true) (hl : a.length = b.length) (u v : List Int) : lessB (a ++ u) (b ++ v) = true := by
  induction a generalizing b with
  | nil =>
    cases b with
    | nil => rw [less_irrefl] at h; cases h
    | cons y b => simp at hl
  | cons x a ih =>
    cases b with
    | nil => simp at hl
    | cons y b =>
      have hl' : a.length = b.length := by simpa using hl
      simp only [List.cons_append, lessB] at h ⊢
      by_cases e : x = y
      · rw [if_pos e] at h ⊢
        exact ih h hl'
      · rw [if_neg e] at h ⊢
        exact h
theorem times_in : ∀ {bs : List (List Int × Int)} {s : List Int}, timesL bs s ≠ 0 → (s, timesL bs s) ∈ bs
  | [], s, h => absurd rfl h
  | (r, n) :: bs, s, h => by
    rw [timesL] at h ⊢
    by_cases e : r = s
    · rw [if_pos e] at h ⊢
      rw [e]; exact List.mem_cons_self
    · rw [if_neg e] at h ⊢
      exact List.mem_cons_of_mem _ (times_in h)
theorem sumZ_bd {M : Int} (hM : 0 ≤ M) (s : List Int) (ps : List (List Int × Int)) : (∀ p ∈ ps, -M ≤ p.2 ∧ p.2 ≤ M) → -((ps.length : Int) * M) ≤ sumZ ps s ∧ sumZ ps s ≤ (ps.length : Int) * M := by
  refine list_snoc_ind (P := fun ps => (∀ p ∈ ps, -M ≤ p.2 ∧ p.2 ≤ M) → -((ps.length : Int) * M) ≤ sumZ ps s ∧ sumZ ps s ≤ (ps.length : Int) * M) (fun _ => by simp [sumZ_nil]) ?_ ps
  intro ps p ih h
  obtain ⟨h1, h2⟩ := ih fun q hq => h q (List.mem_append.2 (.inl hq))
  have h3 := h p (by simp)
  have e : ((ps ++ [p]).length : Int) * M = (ps.length : Int) * M + M := by
    rw [List.length_append, List.length_singleton, Int.natCast_add, Int.add_mul]; simp
  rw [sumZ_snoc, e]
  by_cases c : s = p.1
  · rw [if_pos c]; omega
  · rw [if_neg c]; omega
theorem sumZ_ones {α : Type} (f : α → List Int) (r : List Int) : ∀ (X : List α), X.Pairwise (fun t u => f t ≠ f u) → ((∃ t ∈ X, f t = r) → sumZ (X.map fun t => (f t, 1)) r = 1) ∧ ((¬ ∃ t ∈ X, f t = r) → sumZ (X.map fun t => (f t, 1)) r = 0)
  | [], _ => ⟨(fun ⟨t, ht, _⟩ => by cases ht), fun _ => rfl⟩
  | x :: X, h => by
    obtain ⟨h1, h2⟩ := List.pairwise_cons.1 h
    obtain ⟨i1, i2⟩ := sumZ_ones f r X h2
    have e : sumZ ((x :: X).map fun t => (f t, (1 : Int))) r = (if r = f x then 1 else 0) + sumZ (X.map fun t => (f t, 1)) r := by
      rw [List.map_cons, show ((f x, (1 : Int)) :: X.map fun t => (f t, (1 : Int))) = [(f x, 1)] ++ X.map fun t => (f t, 1) from rfl, sumZ_append, sumZ_one]
    rw [e]
    by_cases c : r = f x
    · have hno : ¬ ∃ t ∈ X, f t = r := fun ⟨t, ht, e2⟩ => h1 t ht (by rw [e2, c])
      rw [if_pos c, i2 hno]
      exact ⟨fun _ => by omega, fun hn => absurd ⟨x, by simp, c.symm⟩ hn⟩
    · rw [if_neg c]
      refine ⟨fun ⟨t, ht, e2⟩ => ?_, fun hn => ?_⟩
      · rcases List.mem_cons.1 ht with rfl | ht
        · exact absurd e2.symm c
        · rw [i1 ⟨t, ht, e2⟩]; omega
      · rw [i2 fun ⟨t, ht, e2⟩ => hn ⟨t, by simp [ht], e2⟩]; omega
theorem grp_same {b : List (List Int × Int)} {ps : List Int} {p : Int} {tr : List Tr} (h : GT b ps p tr b.length) (hR : Right b) (hps : hasB b ps = true) (hp : p ≠ -1 → ∀ j, j < b.length → 0 ≤ p ∧ p < ((rx b j).length : Int)) :
    togL (grpM p tr) = grpL (togL (keptL b ps)) p (sumsB b ps p) := by
  rcases Nat.eq_zero_or_pos b.length with h0 | h0
  · obtain rfl : b = [] := List.length_eq_zero_iff.1 h0
    have htr : tr = [] := List.length_eq_zero_iff.1 (Nat.le_zero.1 h.len)
    subst htr
    rfl
  have hpp : p = -1 ∨ 0 ≤ p := by
    by_cases e : p = -1
    · exact .inl e
    · exact .inr (hp e 0 h0).1
  -- bounds
  have bk : ∀ q ∈ keptL b ps, -1000000 ≤ q.2 ∧ q.2 ≤ 1000000 := fun q hq => by
    unfold keptL at hq
    obtain ⟨x, hx, rfl⟩ := List.mem_map.1 hq
    obtain ⟨j, hj, rfl⟩ := List.getElem_of_mem hx
    have := hR.2 j hj
    rw [bag_ix hj]; exact ⟨this.2.1, this.2.2.1⟩
  have bs : 0 ≤ p → ∀ q ∈ sumsL b ps p, -1000000000000000 ≤ q.2 ∧ q.2 ≤ 1000000000000000 := fun hp0 q hq => by
    unfold sumsL at hq
    obtain ⟨x, hx, rfl⟩ := List.mem_map.1 hq
    obtain ⟨j, hj, rfl⟩ := List.getElem_of_mem hx
    obtain ⟨_, n0, n1, hc⟩ := hR.2 j hj
    have h1 := hp (by omega) j hj
    have h2 := hc p.toNat (by omega)
    rw [bag_ix hj]
    exact mul_bd9 n0 n1 h2.1 h2.2
  have kl : ((keptL b ps).length : Int) ≤ 300 := by have := hR.1; simp [keptL]; omega
  have sl : ((sumsL b ps p).length : Int) ≤ 300 := by have := hR.1; simp [sumsL]; omega
  have NK : N64 (keptL b ps) := fun q hq => W64_small (by have := bk q hq; omega) (by have := bk q hq; omega)
  obtain ⟨k1, k2, k3⟩ := tog_facts (keptL b ps) NK
  have ktimes : ∀ s, timesL (togL (keptL b ps)) s = sumZ (keptL b ps) s := fun s => by
    rw [k3]
    have := sumZ_bd (M := 1000000) (by omega) s (keptL b ps) bk
    exact W64_small (by omega) (by omega)
  have stimes : 0 ≤ p → ∀ s, timesL (sumsB b ps p) s = sumZ (sumsL b ps p) s := fun hp0 s => by
    unfold sumsB
    rw [if_neg (by omega)]
    have NS : N64 (sumsL b ps p) := fun q hq => W64_small (by have := bs hp0 q hq; omega) (by have := bs hp0 q hq; omega)
    rw [(tog_facts (sumsL b ps p) NS).2.2]
    have := sumZ_bd (M := 1000000000000000) (by omega) s (sumsL b ps p) (bs hp0)
    exact W64_small (by omega) (by omega)
  -- lists are as long as the places
  have klen : ∀ q ∈ keptL b ps, q.1.length = ps.length := fun q hq => by
    unfold keptL at hq
    obtain ⟨x, hx, rfl⟩ := List.mem_map.1 hq
    obtain ⟨j, hj, rfl⟩ := List.getElem_of_mem hx
    have := has_at hps hj
    rw [bag_ix hj]; exact picked_yes this
  have Klen : ∀ t ∈ togL (keptL b ps), t.1.length = ps.length := fun t ht => by
    obtain ⟨q, hq, e⟩ := tog_mem t ht
    rw [e]; exact klen q hq
  have hvalT : ∀ t ∈ tr, t.2.1 = sumZ (keptL b ps) t.1 ∧ (0 ≤ p → t.2.2 = sumZ (sumsL b ps p) t.1) := fun t ht => by
    have := h.val t ht
    rwa [List.take_of_length_le (Nat.le_refl _)] at this
  have tin : ∀ t ∈ tr, 0 < t.2.1 → (t.1, t.2.1) ∈ togL (keptL b ps) := fun t ht hn => by
    have h1 := (hvalT t ht).1
    have h2 := ktimes t.1
    have h3 := times_in (bs := togL (keptL b ps)) (s := t.1) (by omega)
    rw [h2, ← h1] at h3
    exact h3
  have rows : ∀ t ∈ tr, 0 < t.2.1 → rowM p t = rowG p (sumsB b ps p) (t.1, t.2.1) := fun t ht hn => by
    unfold rowM rowG tailG
    rcases hpp with e | e
    · rw [if_pos e, if_neg (by omega)]
    · rw [if_pos e, if_neg (show ¬ p = -1 by omega), stimes e, ← (hvalT t ht).2 e]
  -- both sides
  have hSB : SB (grpL (togL (keptL b ps)) p (sumsB b ps p)) := by
    unfold grpL SB
    rw [List.pairwise_map]
    refine (k1.filter _).imp_of_mem fun {a c} ha hc hl => ?_
    exact less_append hl (by rw [Klen a (List.mem_filter.1 ha).1, Klen c (List.mem_filter.1 hc).1]) _ _
  have hones : ∀ t ∈ grpL (togL (keptL b ps)) p (sumsB b ps p), t.2 = 1 := fun t ht => by
    unfold grpL at ht
    obtain ⟨q, _, rfl⟩ := List.mem_map.1 ht; rfl
  have NM : N64 (grpM p tr) := fun q hq => by
    unfold grpM at hq
    obtain ⟨x, _, rfl⟩ := List.mem_map.1 hq
    exact W64_small (by simp only; omega) (by simp only; omega)
  obtain ⟨m1, m2, m3⟩ := tog_facts (grpM p tr) NM
  refine canon m1 hSB m2 (fun t ht => by rw [hones t ht]; omega) fun r => ?_
  rw [m3]
  have hpw : (tr.filter fun t => decide (0 < t.2.1)).Pairwise (fun t u => rowM p t ≠ rowM p u) := by
    have h1 : tr.Pairwise fun t u => t.1 ≠ u.1 := by have := h.nodup; unfold List.Nodup at this; rwa [List.pairwise_map] at this
    refine (h1.filter _).imp_of_mem fun {a c} ha hc hl e => hl ?_
    obtain ⟨a1, a2⟩ := List.mem_filter.1 ha
    obtain ⟨c1, c2⟩ := List.mem_filter.1 hc
    have la := Klen _ (tin a a1 (by simpa using a2))
    have lc := Klen _ (tin c c1 (by simpa using c2))
    have := congrArg (List.take ps.length) e
    unfold rowM at this
    rw [List.take_append_of_le_length (by simp only at la; omega), List.take_append_of_le_length (by simp only at lc; omega), List.take_of_length_le (by simp only at la; omega), List.take_of_length_le (by simp only at lc; omega)] at this
    exact this
  obtain ⟨o1, o2⟩ := sumZ_ones (rowM p) r (tr.filter fun t => decide (0 < t.2.1)) hpw
  by_cases c : ∃ t ∈ tr.filter fun t => decide (0 < t.2.1), rowM p t = r
  · have e1 : sumZ (grpM p tr) r = 1 := o1 c
    rw [e1, W64_small (by omega) (by omega)]
    obtain ⟨t, ht, rfl⟩ := c
    obtain ⟨h1, h2⟩ := List.mem_filter.1 ht
    have hn : 0 < t.2.1 := by simpa using h2
    have hm : (rowM p t, (1 : Int)) ∈ grpL (togL (keptL b ps)) p (sumsB b ps p) := by
      unfold grpL
      exact List.mem_map.2 ⟨(t.1, t.2.1), List.mem_filter.2 ⟨tin t h1 hn, by simpa using hn⟩, by rw [rows t h1 hn]⟩
    exact (times_mem hSB _ hm).symm
  · have e1 : sumZ (grpM p tr) r = 0 := o2 c
    rw [e1, W64_zero]
    refine (timesL_zero fun q hq e => c ?_).symm
    unfold grpL at hq
    obtain ⟨u, hu, rfl⟩ := List.mem_map.1 hq
    obtain ⟨h1, h2⟩ := List.mem_filter.1 hu
    have hn : 0 < u.2 := by simpa using h2
    have h3 := times_mem k1 u h1
    rw [ktimes] at h3
    obtain ⟨q, hq2, e2⟩ := tog_mem u h1
    unfold keptL at hq2
    obtain ⟨x, hx, rfl⟩ := List.mem_map.1 hq2
    obtain ⟨j, hj, rfl⟩ := List.getElem_of_mem hx
    obtain ⟨t, ht, e3⟩ := h.all j hj hj
    rw [bag_ix hj] at e2
    simp only at e2
    have e4 : t.1 = u.1 := e3.trans e2.symm
    have e5 : t.2.1 = u.2 := by rw [(hvalT t ht).1, e4, h3]
    refine ⟨t, List.mem_filter.2 ⟨ht, by rw [e5]; simpa using hn⟩, ?_⟩
    rw [rows t ht (by rw [e5]; exact hn), e4, e5]
    exact e
end Go.Proofs.Ytcfnbpofbcendab
