/- Plain facts on groups: what stands in a group's row; how many rows all groups have together, and what they sum to. -/
import Derived.Test.YtcfnbpofbcendabGrp4
import Derived.Test.YtcfnbpofbcendabJonThy
namespace Go.Proofs.Ytcfnbpofbcendab

theorem W64_sub (x y : Int) : IntKind.i64.wrap (W64 x - y) = W64 (x - y) := by
  unfold W64 addW; rw [IntKind.wrap_i64, IntKind.wrap_i64, IntKind.wrap_i64]; omega
theorem W64_plus (x y : Int) : IntKind.i64.wrap (W64 x + y) = W64 (x + y) := W64_add x y
theorem W64_small' {x : Int} (h : -1000000000000000 ≤ x ∧ x ≤ 1000000000000000) : IntKind.i64.wrap x = x := by
  rw [IntKind.wrap_i64]; omega
theorem sumZ_cons (q : List Int × Int) (qs : List (List Int × Int)) (s : List Int) : sumZ (q :: qs) s = (if q.1 = s then q.2 else 0) + sumZ qs s := by
  rw [show q :: qs = [q] ++ qs from rfl, sumZ_append, sumZ_one]
  by_cases h : q.1 = s
  · rw [if_pos h, if_pos h.symm]
  · rw [if_neg h, if_neg fun e => h e.symm]
theorem sumZ_nonneg (s : List Int) : ∀ {qs : List (List Int × Int)}, (∀ q ∈ qs, 0 ≤ q.2) → 0 ≤ sumZ qs s
  | [], _ => Int.le_refl _
  | q :: qs, h => by
    have h1 := h q (by simp)
    have h2 := sumZ_nonneg s (qs := qs) fun x hx => h x (List.mem_cons_of_mem _ hx)
    rw [sumZ_cons]; split <;> omega
theorem sumZ_ge : ∀ {qs : List (List Int × Int)}, (∀ q ∈ qs, 0 ≤ q.2) → ∀ q ∈ qs, q.2 ≤ sumZ qs q.1
  | x :: qs, h, q, hq => by
    have h1 := h x (by simp)
    have h2 := fun y hy => h y (List.mem_cons_of_mem x hy)
    rw [sumZ_cons]
    rcases List.mem_cons.1 hq with rfl | hq
    · have := sumZ_nonneg q.1 (qs := qs) h2
      rw [if_pos rfl]; omega
    · have := sumZ_ge (qs := qs) h2 q hq
      split <;> omega
theorem map_add_sum {α : Type} (f g : α → Int) : ∀ X : List α, (X.map fun t => f t + g t).sum = (X.map f).sum + (X.map g).sum
  | [] => rfl
  | x :: X => by
    have := map_add_sum f g X
    simp only [List.map_cons, List.sum_cons]; omega
theorem sum_none {s : List Int} {v : Int} : ∀ {X : List (List Int × Int)}, (∀ t ∈ X, s ≠ t.1) → (X.map fun t => if s = t.1 then v else 0).sum = 0
  | [], _ => rfl
  | x :: X, h => by
    have h1 := sum_none (v := v) (X := X) fun t ht => h t (List.mem_cons_of_mem _ ht)
    simp only [List.map_cons, List.sum_cons]
    rw [if_neg (h x (by simp)), h1]; rfl
theorem sum_once {s : List Int} {v : Int} : ∀ {X : List (List Int × Int)}, X.Pairwise (fun t u => t.1 ≠ u.1) → (v = 0 ∨ ∃ t ∈ X, t.1 = s) → (X.map fun t => if s = t.1 then v else 0).sum = v
  | [], _, h => by
    rcases h with h | ⟨t, ht, _⟩
    · rw [h]; rfl
    · cases ht
  | x :: X, hp, h => by
    obtain ⟨h1, h2⟩ := List.pairwise_cons.1 hp
    simp only [List.map_cons, List.sum_cons]
    by_cases e : s = x.1
    · rw [if_pos e, sum_none (X := X) fun t ht e2 => h1 t ht (e.symm.trans e2)]; omega
    · rw [if_neg e, sum_once (X := X) h2 (h.imp id fun ⟨t, ht, e2⟩ => by
        rcases List.mem_cons.1 ht with rfl | ht
        · exact absurd e2.symm e
        · exact ⟨t, ht, e2⟩)]
      omega
theorem sum_cover {X : List (List Int × Int)} (hX : X.Pairwise fun t u => t.1 ≠ u.1) : ∀ qs : List (List Int × Int), (∀ q ∈ qs, q.2 = 0 ∨ ∃ t ∈ X, t.1 = q.1) → (X.map fun t => sumZ qs t.1).sum = totL qs
  | [], _ => by
    have : ∀ Y : List (List Int × Int), (Y.map fun t => sumZ [] t.1).sum = 0 := fun Y => by
      induction Y with
      | nil => rfl
      | cons y Y ih => simp only [List.map_cons, List.sum_cons]; rw [ih]; rfl
    exact this X
  | q :: qs, h => by
    have h1 := sum_cover hX qs fun x hx => h x (List.mem_cons_of_mem _ hx)
    have h2 := sum_once (s := q.1) (v := q.2) hX (h q (by simp))
    have h3 := map_add_sum (fun t : List Int × Int => if q.1 = t.1 then q.2 else 0) (fun t => sumZ qs t.1) X
    simp only [sumZ_cons]
    rw [h3, h2, h1]; rfl
theorem sum_cong64 {α : Type} {f g : α → Int} : ∀ {X : List α}, (∀ t ∈ X, ∃ k : Int, f t = g t + k * 18446744073709551616) → ∃ k : Int, (X.map f).sum = (X.map g).sum + k * 18446744073709551616
  | [], _ => ⟨0, rfl⟩
  | x :: X, h => by
    obtain ⟨k1, h1⟩ := h x (by simp)
    obtain ⟨k2, h2⟩ := sum_cong64 (X := X) fun t ht => h t (List.mem_cons_of_mem _ ht)
    exact ⟨k1 + k2, by simp only [List.map_cons, List.sum_cons]; omega⟩
theorem tot_sum : ∀ T : List (List Int × Int), totL T = (T.map Prod.snd).sum
  | [] => rfl
  | x :: T => by simp only [totL, List.map_cons, List.sum_cons]; rw [tot_sum T]
/-- What stands at place n of all rows, together. -/
def colL (X : List (List Int × Int)) (n : Nat) : Int := (X.map fun t => ix t.1 n).sum
theorem col_step {X : List (List Int × Int)} {k : Nat} (h : k < X.length) (n : Nat) : colL (X.take (k + 1)) n = colL (X.take k) n + ix (rx X k) n := by
  unfold colL; rw [List.take_succ_eq_append_getElem h, List.map_append, List.sum_append, bag_ix h]; simp
/-- The lists that are there, and how many times. -/
def GK (b : List (List Int × Int)) (ps : List Int) : List (List Int × Int) := (togL (keptL b ps)).filter fun t => decide (0 < t.2)
theorem grp_gk {b : List (List Int × Int)} {ps : List Int} {p : Int} (h : grpOk b ps p = true) : grpB b ps p = (GK b ps).map fun t => (rowG p (sumsB b ps p) t, 1) := by unfold grpB; rw [h]; rfl
theorem ok_parts {b : List (List Int × Int)} {ps : List Int} {p : Int} (h : grpOk b ps p = true) : Right b ∧ hasB b ps = true ∧ (p ≠ -1 → ∀ j, j < b.length → 0 ≤ p ∧ p < ((rx b j).length : Int)) := by
  unfold grpOk at h
  simp only [Bool.and_eq_true, Bool.or_eq_true] at h
  refine ⟨right_bag h.1, h.2.1, fun hn j hj => ?_⟩
  rcases h.2.2 with h | h
  · exact absurd (by simpa using h) hn
  · exact places_one (has_at h hj)
theorem kept_mem {b : List (List Int × Int)} {ps : List Int} {q : List Int × Int} (hq : q ∈ keptL b ps) : ∃ j, j < b.length ∧ q = (pickedL (rx b j) ps, nx b j) := by
  unfold keptL at hq
  obtain ⟨x, hx, rfl⟩ := List.mem_map.1 hq
  obtain ⟨j, hj, rfl⟩ := List.getElem_of_mem hx
  exact ⟨j, hj, by rw [bag_ix hj]⟩
theorem kept_at {b : List (List Int × Int)} {ps : List Int} {j : Nat} (hj : j < b.length) : (pickedL (rx b j) ps, nx b j) ∈ keptL b ps := by
  unfold keptL
  exact List.mem_map.2 ⟨b[j], List.getElem_mem hj, by rw [bag_ix hj]⟩
theorem sums_mem {b : List (List Int × Int)} {ps : List Int} {p : Int} {q : List Int × Int} (hq : q ∈ sumsL b ps p) : ∃ j, j < b.length ∧ q = (pickedL (rx b j) ps, nx b j * ix (rx b j) p.toNat) := by
  unfold sumsL at hq
  obtain ⟨x, hx, rfl⟩ := List.mem_map.1 hq
  obtain ⟨j, hj, rfl⟩ := List.getElem_of_mem hx
  exact ⟨j, hj, by rw [bag_ix hj]⟩
theorem kept_n64 {b : List (List Int × Int)} {ps : List Int} (hR : Right b) : N64 (keptL b ps) := fun q hq => by
  obtain ⟨j, hj, rfl⟩ := kept_mem hq
  have := (hR.2 j hj).2
  exact W64_small (by simp only; omega) (by simp only; omega)
theorem kept_times {b : List (List Int × Int)} {ps : List Int} (hR : Right b) (s : List Int) : timesL (togL (keptL b ps)) s = sumZ (keptL b ps) s := by
  have kl : ((keptL b ps).length : Int) ≤ 300 := by have := hR.1; simp [keptL]; omega
  rw [(tog_facts (keptL b ps) (kept_n64 hR)).2.2]
  have := sumZ_bd (M := 1000000) (by omega) s (keptL b ps) fun q hq => by
    obtain ⟨j, hj, rfl⟩ := kept_mem hq
    have := (hR.2 j hj).2
    exact ⟨this.1, this.2.1⟩
  exact W64_small (by omega) (by omega)
theorem kept_len {b : List (List Int × Int)} {ps : List Int} (h : hasB b ps = true) : ∀ t ∈ togL (keptL b ps), t.1.length = ps.length := fun t ht => by
  obtain ⟨q, hq, e⟩ := tog_mem t ht
  obtain ⟨j, hj, rfl⟩ := kept_mem hq
  rw [e]; exact picked_yes (has_at h hj)
theorem cell_mul {b : List (List Int × Int)} {p : Int} (hR : Right b) {j : Nat} (hj : j < b.length) (hp : 0 ≤ p ∧ p < ((rx b j).length : Int)) : -1000000000000000 ≤ nx b j * ix (rx b j) p.toNat ∧ nx b j * ix (rx b j) p.toNat ≤ 1000000000000000 := by
  obtain ⟨_, n0, n1, hc⟩ := hR.2 j hj
  have h2 := hc p.toNat (by omega)
  exact mul_bd9 n0 n1 h2.1 h2.2
theorem gk_pair {b : List (List Int × Int)} {ps : List Int} (hR : Right b) : (GK b ps).Pairwise fun t u => t.1 ≠ u.1 := by
  have h := (tog_facts (keptL b ps) (kept_n64 hR)).1
  unfold GK
  refine (h.filter _).imp fun {a c} hl e => ?_
  rw [e, less_irrefl] at hl; cases hl
theorem ix_mid (a : List Int) (x : Int) (t : List Int) : ix (a ++ x :: t) a.length = x := by simp [ix]
theorem ix_next (a : List Int) (x y : Int) : ix (a ++ [x, y]) (a.length + 1) = y := by simp [ix]
theorem rowG_facts (p : Int) (S : List (List Int × Int)) {t : List Int × Int} {n : Nat} (hl : t.1.length = n) (h0 : 0 < t.2) : (rowG p S t).length = n + 1 + (if p = -1 then 0 else 1) ∧ 1 ≤ ix (rowG p S t) n ∧ (rowG p S t).take n = t.1 := by
  unfold rowG tailG
  refine ⟨?_, ?_, ?_⟩
  · rw [List.length_append, List.length_cons, hl]
    split <;> simp <;> omega
  · rw [← hl, ix_mid]; omega
  · rw [List.take_append_of_le_length (by omega), List.take_of_length_le (by omega)]
/-- A group's row. -/
theorem grp_row {b : List (List Int × Int)} {ps : List Int} {p : Int} (h : grpOk b ps p = true) {k : Nat} (hk : k < (grpB b ps p).length) :
    nx (grpB b ps p) k = 1 ∧ (rx (grpB b ps p) k).length = ps.length + 1 + (if p = -1 then 0 else 1) ∧ 1 ≤ ix (rx (grpB b ps p) k) ps.length ∧ ∃ hk2 : k < (GK b ps).length, (rx (grpB b ps p) k).take ps.length = ((GK b ps)[k]).1 := by
  rw [grp_gk h] at hk ⊢
  have hk2 : k < (GK b ps).length := by simpa using hk
  obtain ⟨hR, hh, _⟩ := ok_parts h
  have hm : (GK b ps)[k] ∈ (togL (keptL b ps)).filter fun t => decide (0 < t.2) := List.getElem_mem hk2
  obtain ⟨m1, m2⟩ := List.mem_filter.1 hm
  have hl := kept_len hh _ m1
  have h0 : 0 < ((GK b ps)[k]).2 := by simpa using m2
  have e := bag_ix hk
  rw [List.getElem_map, Prod.mk.injEq] at e
  rw [← e.1, ← e.2]
  obtain ⟨r1, r2, r3⟩ := rowG_facts p (sumsB b ps p) hl h0
  exact ⟨rfl, r1, r2, hk2, r3⟩
theorem grp_apart {b : List (List Int × Int)} {ps : List Int} {p : Int} (h : grpOk b ps p = true) {k : Nat} (hk : k + 1 < (grpB b ps p).length) : (rx (grpB b ps p) (k + 1)).take ps.length ≠ (rx (grpB b ps p) k).take ps.length := by
  obtain ⟨_, _, _, h1, e1⟩ := grp_row h hk
  obtain ⟨_, _, _, h2, e2⟩ := grp_row h (k := k) (by omega)
  rw [e1, e2]
  exact fun e => List.pairwise_iff_getElem.1 (gk_pair (ok_parts h).1) k (k + 1) h2 h1 (by omega) e.symm
theorem grp_col {b : List (List Int × Int)} {ps : List Int} {p : Int} (h : grpOk b ps p = true) : colL (grpB b ps p) ps.length = totL (GK b ps) ∧ (p ≠ -1 → colL (grpB b ps p) (ps.length + 1) = ((GK b ps).map fun t => timesL (sumsB b ps p) t.1).sum) := by
  obtain ⟨_, hh, _⟩ := ok_parts h
  have hl : ∀ t ∈ GK b ps, t.1.length = ps.length := fun t ht => by
    unfold GK at ht
    exact kept_len hh _ (List.mem_filter.1 ht).1
  rw [grp_gk h]
  unfold colL
  rw [List.map_map, List.map_map, tot_sum]
  refine ⟨congrArg List.sum (List.map_congr_left fun t ht => ?_), fun hp => congrArg List.sum (List.map_congr_left fun t ht => ?_)⟩
  · show ix (rowG p (sumsB b ps p) t) ps.length = t.2
    unfold rowG; rw [← hl t ht, ix_mid]
  · show ix (rowG p (sumsB b ps p) t) (ps.length + 1) = _
    unfold rowG tailG; rw [if_neg hp, ← hl t ht, ix_next]
/-- Where none goes below 0: as many as there are rows, and their sum. -/
theorem grp_all {b : List (List Int × Int)} {ps : List Int} {p : Int} (h : grpOk b ps p = true) (hn : ∀ j, j < b.length → 0 ≤ nx b j) : (∃ k : Int, colL (grpB b ps p) ps.length = totL b + k * 18446744073709551616) ∧ (p ≠ -1 → ∃ k : Int, colL (grpB b ps p) (ps.length + 1) = totL (sumsL b ps p) + k * 18446744073709551616) := by
  obtain ⟨hR, hh, hp⟩ := ok_parts h
  obtain ⟨c1, c2⟩ := grp_col h
  obtain ⟨f1, f2, _⟩ := tog_facts (keptL b ps) (kept_n64 hR)
  have hnn : ∀ q ∈ keptL b ps, 0 ≤ q.2 := fun q hq => by
    obtain ⟨j, hj, rfl⟩ := kept_mem hq
    exact hn j hj
  have hGK : GK b ps = togL (keptL b ps) := by
    unfold GK
    refine List.filter_eq_self.2 fun t ht => ?_
    have h1 := times_mem f1 t ht
    rw [kept_times hR] at h1
    have h2 := sumZ_nonneg t.1 hnn
    have h3 := f2 t ht
    simp; omega
  have hb : totL (keptL b ps) = totL b := by
    rw [tot_sum, tot_sum]; unfold keptL; rw [List.map_map]; rfl
  constructor
  · obtain ⟨k, hk⟩ := tog_tot64 (keptL b ps)
    exact ⟨k, by rw [c1, hGK, hk, hb]⟩
  · intro hp1
    have NS : N64 (sumsL b ps p) := fun q hq => by
      obtain ⟨j, hj, rfl⟩ := sums_mem hq
      have := cell_mul hR hj (hp hp1 j hj)
      exact W64_small (by simp only; omega) (by simp only; omega)
    have hS : sumsB b ps p = togL (sumsL b ps p) := by unfold sumsB; rw [if_neg hp1]
    have h3 := (tog_facts (sumsL b ps p) NS).2.2
    have hcov : ∀ q ∈ sumsL b ps p, q.2 = 0 ∨ ∃ t ∈ GK b ps, t.1 = q.1 := fun q hq => by
      obtain ⟨j, hj, rfl⟩ := sums_mem hq
      rcases Int.lt_or_eq_of_le (hn j hj) with h0 | h0
      · right
        have h4 := sumZ_ge hnn _ (kept_at (ps := ps) hj)
        rw [← kept_times hR] at h4
        refine ⟨(pickedL (rx b j) ps, timesL (togL (keptL b ps)) (pickedL (rx b j) ps)), ?_, rfl⟩
        rw [hGK]
        exact times_in (by simp only at h4; omega)
      · left; simp only; rw [← h0]; simp
    have h5 := sum_cover (gk_pair (ps := ps) hR) (sumsL b ps p) hcov
    obtain ⟨k, hk⟩ := sum_cong64 (X := GK b ps) (f := fun t => timesL (sumsB b ps p) t.1) (g := fun t => sumZ (sumsL b ps p) t.1) fun t _ => by
      rw [hS, h3]; exact W64_of
    exact ⟨k, by rw [c2 hp1, hk, h5]⟩
/-- What the law counts. -/
theorem grp_walk {b : List (List Int × Int)} {ps : List Int} {p : Int} (h : grpOk b ps p = true) : ∃ F1 F2 G1 G2 : Nat → Int, F1 0 = 0 ∧ F2 0 = 0 ∧ F1 (grpB b ps p).length = G1 0 ∧ F2 (grpB b ps p).length = G2 0 ∧
    (∀ k, k < (grpB b ps p).length → IntKind.i64.wrap (F1 k + ix (rx (grpB b ps p) k) ps.length) = F1 (k + 1) ∧ (p ≠ -1 → IntKind.i64.wrap (F2 k + ix (rx (grpB b ps p) k) (ps.length + 1)) = F2 (k + 1))) ∧ (p = -1 → ∀ k, F2 k = 0 ∧ G2 k = 0) ∧
    (∀ j, j < b.length → IntKind.i64.wrap (G1 j - nx b j) = G1 (j + 1) ∧ (p ≠ -1 → ∃ m : Int, IntKind.i64.wrap (nx b j * ix (rx b j) p.toNat) = m ∧ IntKind.i64.wrap (G2 j - m) = G2 (j + 1))) ∧ ((∀ j, j < b.length → 0 ≤ nx b j) → G1 b.length = 0 ∧ G2 b.length = 0) := by
  obtain ⟨hR, hh, hp⟩ := ok_parts h
  refine ⟨fun k => W64 (colL ((grpB b ps p).take k) ps.length), fun k => if p = -1 then 0 else W64 (colL ((grpB b ps p).take k) (ps.length + 1)), fun j => W64 (colL (grpB b ps p) ps.length - totL (b.take j)), fun j => if p = -1 then 0 else W64 (colL (grpB b ps p) (ps.length + 1) - totL (sumsL (b.take j) ps p)), ?_, ?_, ?_, ?_, ?_, ?_, ?_, ?_⟩
  · exact W64_zero
  · show (if p = -1 then (0 : Int) else W64 0) = 0
    rw [W64_zero]; split <;> rfl
  · show W64 (colL ((grpB b ps p).take (grpB b ps p).length) ps.length) = W64 (colL (grpB b ps p) ps.length - 0)
    rw [List.take_of_length_le (Nat.le_refl _), Int.sub_zero]
  · show (if p = -1 then (0 : Int) else W64 (colL ((grpB b ps p).take (grpB b ps p).length) (ps.length + 1))) = if p = -1 then 0 else W64 (colL (grpB b ps p) (ps.length + 1) - 0)
    rw [List.take_of_length_le (Nat.le_refl _), Int.sub_zero]
  · intro k hk
    refine ⟨?_, fun hp1 => ?_⟩
    · simp only
      rw [W64_plus, col_step hk]
    · simp only
      rw [if_neg hp1, if_neg hp1, W64_plus, col_step hk]
  · intro hp1 k
    simp only
    rw [if_pos hp1, if_pos hp1]; exact ⟨rfl, rfl⟩
  · intro j hj
    refine ⟨?_, fun hp1 => ⟨_, W64_small' (cell_mul hR hj (hp hp1 j hj)), ?_⟩⟩
    · simp only
      rw [W64_sub, tot_step hj, show ∀ a c d : Int, a - c - d = a - (c + d) from fun a c d => by omega]
    · simp only
      rw [if_neg hp1, if_neg hp1, W64_sub, sums_step hj, tot_snoc, show ∀ a c d : Int, a - c - d = a - (c + d) from fun a c d => by omega]
  · intro hn
    obtain ⟨⟨k1, a1⟩, a2⟩ := grp_all h hn
    simp only
    rw [List.take_of_length_le (Nat.le_refl _)]
    constructor
    · rw [← W64_zero]
      exact W64_congr ⟨k1, by omega⟩
    · split
      · rfl
      · rename_i hp1
        obtain ⟨k2, h2⟩ := a2 hp1
        rw [← W64_zero]
        exact W64_congr ⟨k2, by omega⟩
end Go.Proofs.Ytcfnbpofbcendab
