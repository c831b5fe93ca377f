/- The contracts of the model's l10Join and Joined: what each two rows make whose numbers at the places are alike, together. For bags of at most 2^40, rows of at most 2^30. -/
import Derived.Test.YtcfnbpofbcendabJon0
import Derived.Test.YtcfnbpofbcendabJD
namespace Go.Proofs.Ytcfnbpofbcendab
open Go.RowKit

theorem rowOk_six {zs : List Int} (h : rowOkB zs = true) : zs.length ≤ 6 := by
  unfold rowOkB at h
  rw [Bool.and_eq_true] at h
  exact of_decide_eq_true h.2
/-- A right bag all of whose rows have a place. -/
def RightAt (a : List (List Int × Int)) (p : Nat) : Prop := a.length ≤ 300 ∧ ∀ j, j < a.length → p < (rx a j).length ∧ (rx a j).length ≤ 6 ∧ -1000000 ≤ nx a j ∧ nx a j ≤ 1000000
theorem pairs_six {a b : List (List Int × Int)} {p q : Int} {pn qn : Nat} (ha : RightAt a pn) (hb : RightAt b qn) : ∀ r ∈ pairsL a b p q, r.1.length ≤ 12 ∧ -1000000000000 ≤ r.2 ∧ r.2 ≤ 1000000000000 := by
  intro r hr
  obtain ⟨x, hx, y, hy, rfl⟩ := pairs_mem hr
  obtain ⟨i, hi, rfl⟩ := List.getElem_of_mem hx
  obtain ⟨k, hk, rfl⟩ := List.getElem_of_mem hy
  have h1 := ha.2 i hi
  have h2 := hb.2 k hk
  rw [bag_ix hi, bag_ix hk]
  refine ⟨by simp only [List.length_append]; omega, ?_⟩
  exact mul_bd (by omega) (by omega) (by omega) (by omega)
theorem pairs_sub {a b : List (List Int × Int)} {p q : Int} {k k2 : Nat} (hk : k < a.length) : ∀ r ∈ pairsL (a.take k) b p q ++ inL (rx a k, nx a k) (b.take k2) p q, r ∈ pairsL a b p q := by
  intro r hr
  have e : pairsL a b p q = pairsL (a.take (k + 1)) b p q ++ pairsL (a.drop (k + 1)) b p q := by
    unfold pairsL; rw [← List.flatMap_append, List.take_append_drop]
  rw [e, pairs_step hk]
  refine List.mem_append.2 (.inl ?_)
  rcases List.mem_append.1 hr with h | h
  · exact List.mem_append.2 (.inl h)
  · refine List.mem_append.2 (.inr ?_)
    unfold inL at h ⊢
    obtain ⟨y, hy, e2⟩ := List.mem_map.1 h
    obtain ⟨h1, h2⟩ := List.mem_filter.1 hy
    exact List.mem_map.2 ⟨y, List.mem_filter.2 ⟨List.mem_of_mem_take h1, h2⟩, e2⟩
theorem pairs_cut {a b : List (List Int × Int)} {p q : Int} {k k2 : Nat} (hk : k < a.length) (ha : a.length ≤ 300) (hb : b.length ≤ 300) : (pairsL (a.take k) b p q ++ inL (rx a k, nx a k) (b.take k2) p q).length ≤ 90300 := by
  rw [List.length_append]
  have h1 := pairs_len (a.take k) b p q
  have h2 := in_len (rx a k, nx a k) (b.take k2) p q
  rw [List.length_take] at h1 h2
  have h3 : min k a.length * b.length ≤ 300 * 300 := Nat.mul_le_mul (by omega) hb
  omega
theorem l2With_m (lo g cap : Nat) (es : List Ent) (A' : Option Addr) (c' : Nat) (row : List Int) (n : Int) (m : Nat) (w : World) (hm : m = row.length) (hlo : lo ≤ w.heap.size) (hO : OB w lo g cap es) (hI : Ints w w.heap.size A' row) (hl : es.length ≤ 549755813888) (hr : row.length ≤ 1099511627776) (hle : ∀ e ∈ es, e.r.length ≤ 1099511627776) :
    Calls Try.prog 29 #[.slice (some ⟨g, 0, none⟩) es.length cap, .slice A' m c', .int .i64 n] w (OwnBag lo (withL (es.map Ent.pair) row n) w) := by
  subst hm; exact l2With_any lo g cap es A' c' row n w hlo hO hI hl hr hle

theorem OwnBag.empty {w w' : World} {lo : Nat} (hb : Below lo w w') (hlo : lo ≤ w'.heap.size) : OwnBag lo [] w (.returned (.slice (some ⟨w'.heap.size, 0, none⟩) 0 0)) (w'.alloc (.cells #[] 33)) :=
  ⟨w'.heap.size, 0, [], rfl, (OBag.nil (empty_counts w')).lower hlo, rfl, hb.trans ((Below.refl _ _).alloc hlo _)⟩
theorem right_of {a : List (List Int × Int)} {p : Int} (h : bagOkB a = true) (hp : hasB a [p] = true) : RightAt a p.toNat ∧ (0 < a.length → 0 ≤ p) := by
  have hl : a.length ≤ 300 := by
    unfold bagOkB at h
    rw [Bool.and_eq_true] at h
    exact of_decide_eq_true h.2
  have hok : okFrom none a = true := by
    unfold bagOkB at h
    rw [Bool.and_eq_true] at h
    exact h.1
  have key : ∀ (bs : List (List Int × Int)) (q : Option (List Int)), okFrom q bs = true → ∀ x ∈ bs, x.1.length ≤ 6 ∧ -1000000 ≤ x.2 ∧ x.2 ≤ 1000000 := by
    intro bs
    induction bs with
    | nil => intro _ _ x hx; cases hx
    | cons y bs ih =>
      obtain ⟨r, n⟩ := y
      intro q hq x hx
      replace hq : (rowOkB r && (n != 0) && inB n (-1000000) 1000000 && (match q with | none => true | some t => lessB t r) && okFrom (some r) bs) = true := by cases q <;> exact hq
      rw [Bool.and_eq_true, Bool.and_eq_true, Bool.and_eq_true, Bool.and_eq_true] at hq
      rcases List.mem_cons.1 hx with rfl | hx
      · refine ⟨rowOk_six hq.1.1.1.1, ?_⟩
        have := hq.1.1.2
        simp [inB] at this
        exact this
      · exact ih _ hq.2 x hx
  refine ⟨⟨hl, fun j hj => ?_⟩, fun h0 => ?_⟩
  · have h1 := places_one (has_at hp hj)
    have h2 := key a none hok a[j] (List.getElem_mem hj)
    rw [bag_ix hj] at h2
    exact ⟨by omega, h2.1, h2.2.1, h2.2.2⟩
  · exact (places_one (has_at hp h0)).1
theorem joinB_no {a b : List (List Int × Int)} {p q : Int} (h : joinOk a b p q = false) : joinB a b p q = [] := by unfold joinB; rw [h]; rfl

end Go.Proofs.Ytcfnbpofbcendab
