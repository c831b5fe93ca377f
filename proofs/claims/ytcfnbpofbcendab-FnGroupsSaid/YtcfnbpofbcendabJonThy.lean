/- Plain facts on joined bags: how many there are, together; of one row at a time. No condition. -/
import Derived.Test.YtcfnbpofbcendabJon1
import Derived.Test.YtcfnbpofbcendabBagsThy
import Derived.Test.YtcfnbpofbcendabBagI2
namespace Go.Proofs.Ytcfnbpofbcendab

theorem W64_congr {x y : Int} (h : ∃ k : Int, x = y + k * 18446744073709551616) : W64 x = W64 y := by
  obtain ⟨k, rfl⟩ := h
  unfold W64 addW; rw [IntKind.wrap_i64, IntKind.wrap_i64]; omega
theorem W64_of {x : Int} : ∃ k : Int, W64 x = x + k * 18446744073709551616 := by
  unfold W64 addW; rw [IntKind.wrap_i64]
  exact ⟨-((0 + x + 9223372036854775808) / 18446744073709551616), by omega⟩
theorem addW_of (m n : Int) : ∃ k : Int, addW m n = m + n + k * 18446744073709551616 := by
  unfold addW; rw [IntKind.wrap_i64]
  exact ⟨-((m + n + 9223372036854775808) / 18446744073709551616), by omega⟩
theorem ins_tot64 (r : List Int) (n : Int) : ∀ bag : List (List Int × Int), ∃ k : Int, totL (insL r n bag) = totL bag + n + k * 18446744073709551616
  | [] => by
    unfold insL
    by_cases h : n = 0
    · rw [if_pos h]; exact ⟨0, by rw [h]; simp [totL]⟩
    · rw [if_neg h]; exact ⟨0, by simp [totL]⟩
  | (q, m) :: bs => by
    unfold insL
    by_cases h1 : lessB q r = true
    · rw [if_pos h1]
      obtain ⟨k, hk⟩ := ins_tot64 r n bs
      exact ⟨k, by simp only [totL]; rw [hk]; omega⟩
    · rw [if_neg h1]
      by_cases h2 : q = r
      · rw [if_pos h2]
        obtain ⟨k, hk⟩ := addW_of m n
        by_cases h3 : addW m n = 0
        · rw [if_pos h3]
          exact ⟨k, by simp only [totL]; omega⟩
        · rw [if_neg h3]
          exact ⟨k, by simp only [totL]; omega⟩
      · rw [if_neg h2]
        by_cases h3 : n = 0
        · rw [if_pos h3]; exact ⟨0, by omega⟩
        · rw [if_neg h3]; exact ⟨0, by simp only [totL]; omega⟩
theorem tog_tot64 (ps : List (List Int × Int)) : ∃ k : Int, totL (togL ps) = totL ps + k * 18446744073709551616 := by
  refine list_snoc_ind (P := fun ps => ∃ k : Int, totL (togL ps) = totL ps + k * 18446744073709551616) ⟨0, by simp [togL, totL]⟩ ?_ ps
  intro ps p ⟨k, hk⟩
  rw [tog_snoc, withL_ins, tot_snoc]
  obtain ⟨k2, hk2⟩ := ins_tot64 p.1 p.2 (togL ps)
  exact ⟨k + k2, by rw [hk2, hk]; omega⟩
/-- The one count at k. -/
def oneOf (a : List (List Int × Int)) (k : Nat) : List (List Int × Int) := [(rx a k, nx a k)]
theorem one_ok {a : List (List Int × Int)} (h : bagOkB a = true) {k : Nat} (hk : k < a.length) : bagOkB (oneOf a k) = true := by
  have key : ∀ (bs : List (List Int × Int)) (q : Option (List Int)), okFrom q bs = true → ∀ x ∈ bs, okFrom none [x] = true := by
    intro bs
    induction bs with
    | nil => intro _ _ x hx; cases hx
    | cons y bs ih =>
      obtain ⟨r, n⟩ := y
      intro q hq x hx
      replace hq : (rowOkB r && (n != 0) && inB n (-1000000) 1000000 && (match q with | none => true | some t => lessB t r) && okFrom (some r) bs) = true := by cases q <;> exact hq
      rw [Bool.and_eq_true, Bool.and_eq_true] at hq
      rcases List.mem_cons.1 hx with rfl | hx
      · show (rowOkB r && (n != 0) && inB n (-1000000) 1000000 && true && true) = true
        rw [hq.1.1]; rfl
      · exact ih _ hq.2 x hx
  unfold bagOkB at h
  rw [Bool.and_eq_true] at h
  have h1 := key a none h.1 a[k] (List.getElem_mem hk)
  rw [bag_ix hk] at h1
  unfold bagOkB oneOf
  rw [h1]; rfl
theorem one_has {a : List (List Int × Int)} {p : Int} (h : hasB a [p] = true) {k : Nat} (hk : k < a.length) : hasB (oneOf a k) [p] = true := by
  have := has_at h hk
  simp [hasB, oneOf, this]
theorem one_pairs (a b : List (List Int × Int)) (p q : Int) (k : Nat) : pairsL (oneOf a k) b p q = inL (rx a k, nx a k) b p q := by simp [pairsL, oneOf]
theorem one_join {a b : List (List Int × Int)} {p q : Int} (h : joinOk a b p q = true) {k : Nat} (hk : k < a.length) : joinB (oneOf a k) b p q = togL (inL (rx a k, nx a k) b p q) := by
  unfold joinOk at h
  simp only [Bool.and_eq_true] at h
  unfold joinB joinOk
  rw [one_ok h.1 hk, h.2.1, one_has h.2.2.1 hk, h.2.2.2, one_pairs]; rfl
/-- How many those of the first k rows make, one row at a time. -/
def goneTo (a b : List (List Int × Int)) (p q : Int) (k : Nat) : Int := ((List.range k).map fun i => totL (togL (inL (rx a i, nx a i) b p q))).sum
theorem gone_step (a b : List (List Int × Int)) (p q : Int) (k : Nat) : goneTo a b p q (k + 1) = goneTo a b p q k + totL (togL (inL (rx a k, nx a k) b p q)) := by
  unfold goneTo; rw [List.range_succ, List.map_append, List.sum_append]; simp
theorem gone_pairs {a b : List (List Int × Int)} {p q : Int} : ∀ k, k ≤ a.length → ∃ m : Int, goneTo a b p q k = totL (pairsL (a.take k) b p q) + m * 18446744073709551616
  | 0, _ => ⟨0, by simp [goneTo, pairsL, totL]⟩
  | k + 1, h => by
    obtain ⟨m, hm⟩ := gone_pairs (a := a) (b := b) (p := p) (q := q) k (by omega)
    obtain ⟨m2, hm2⟩ := tog_tot64 (inL (rx a k, nx a k) b p q)
    rw [gone_step, pairs_step (by omega), tot_app, hm, hm2]
    exact ⟨m + m2, by omega⟩
theorem gone_all {a b : List (List Int × Int)} {p q : Int} (h : joinOk a b p q = true) : W64 (goneTo a b p q a.length) = W64 (totL (joinB a b p q)) := by
  have e : joinB a b p q = togL (pairsL a b p q) := by unfold joinB; rw [h]; rfl
  rw [e]
  obtain ⟨m, hm⟩ := gone_pairs (a := a) (b := b) (p := p) (q := q) a.length (Nat.le_refl _)
  rw [List.take_of_length_le (Nat.le_refl _)] at hm
  obtain ⟨m2, hm2⟩ := tog_tot64 (pairsL a b p q)
  exact W64_congr ⟨m - m2, by rw [hm, hm2]; omega⟩
theorem join_fit {a b : List (List Int × Int)} {p q : Int} : (joinB a b p q).length ≤ 90300 ∧ ∀ j, j < (joinB a b p q).length → (rx (joinB a b p q) j).length ≤ 12 := by
  cases h : joinOk a b p q with
  | false => rw [joinB_no h]; exact ⟨Nat.zero_le _, fun j hj => absurd hj (by simp)⟩
  | true =>
    have e : joinB a b p q = togL (pairsL a b p q) := by unfold joinB; rw [h]; rfl
    unfold joinOk at h
    simp only [Bool.and_eq_true] at h
    obtain ⟨r1, _⟩ := right_of h.1 h.2.2.1
    obtain ⟨r2, _⟩ := right_of h.2.1 h.2.2.2
    rw [e]
    have h1 := tog_length (pairsL a b p q)
    have h2 := pairs_len a b p q
    have h3 : a.length * b.length ≤ 300 * 300 := Nat.mul_le_mul r1.1 r2.1
    exact ⟨by omega, rows_mem.2 fun x hx => tog_rows (m := 12) (fun r hr => (pairs_six (p := p) (q := q) r1 r2 r hr).1) x hx⟩
theorem join_nz {a b : List (List Int × Int)} {p q : Int} {k : Nat} (hk : k < (joinB a b p q).length) : timesL (joinB a b p q) (rx (joinB a b p q) k) ≠ 0 := by
  cases h : joinOk a b p q with
  | false => rw [joinB_no h] at hk; simp at hk
  | true =>
    have e : joinB a b p q = togL (pairsL a b p q) := by unfold joinB; rw [h]; rfl
    unfold joinOk at h
    simp only [Bool.and_eq_true] at h
    obtain ⟨r1, _⟩ := right_of h.1 h.2.2.1
    obtain ⟨r2, _⟩ := right_of h.2.1 h.2.2.2
    rw [e] at hk ⊢
    obtain ⟨f1, f2, _⟩ := tog_facts (pairsL a b p q) (fun r hr => by
      have := pairs_six (p := p) (q := q) r1 r2 r hr
      exact W64_small (by omega) (by omega))
    rw [times_at f1 hk]
    have := f2 _ (List.getElem_mem hk)
    rwa [bag_ix hk] at this
theorem one_all {a b : List (List Int × Int)} {p q : Int} (h : joinOk a b p q = true) (h1 : a.length = 1) : joinB a b p q = togL (inL (rx a 0, nx a 0) b p q) := by
  rw [← one_join h (k := 0) (by omega)]
  have : oneOf a 0 = a := by
    obtain ⟨x, rfl⟩ := List.length_eq_one_iff.1 h1
    rfl
  rw [this]
end Go.Proofs.Ytcfnbpofbcendab
