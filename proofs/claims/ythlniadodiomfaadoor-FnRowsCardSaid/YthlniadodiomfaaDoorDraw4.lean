/- Contracts of the rest that the law on rows calls: what is drawn for reading, likeRow, big; plain facts on rows that the law asks for. -/
import Derived.Test.YthlniadodiomfaaDoorBend1
import Derived.Test.YthlniadodiomfaaDoorLike1
import Derived.Test.YthlniadodiomfaaDoorRead4
import Derived.Test.YthlniadodiomfaaDoorLess1
namespace Go.Proofs.YthlniadodiomfaaDoor
open Go.RowKit

theorem showL_len (zs : List Int) : (showL zs).length ≤ 200 := by
  unfold showL
  split
  · rename_i h
    obtain ⟨h1, h2⟩ := rowOkB_all h
    split
    · simp
    · have := (numbersL_len zs h1).1; omega
  · simp

set_option maxRecDepth 100000 in
set_option maxHeartbeats 2000000 in
theorem drawReadRow_any (A : Option Addr) (cap : Nat) (zs : List Int) (w : World) (hU : U8s w w.heap.size A zs) (hl : zs.length ≤ 1048576) :
    Calls Tryd.prog 11 #[.slice A zs.length cap] w fun e w' => ∃ t : ByteArray, e = .returned (.string t) ∧ t.size ≤ 1000 ∧ Below w.heap.size w w' := by
  go_enter Tryd.func11, Tryd.ntmps11
  go_wp2_with fail
  refine (l1New_any A cap zs _ hU hl).mono ?_
  rintro e w1 ⟨rfl, hC1, hb1⟩
  have hcl := hC1.lt
  go_wp2_with fail
  refine (l1Below_any _ 4 _ hC1 (by omega) (by omega)).mono ?_
  rintro e w2 ⟨x2, rfl, h20, h21, _, hC2, hg2⟩
  obtain ⟨n, rfl⟩ := Int.eq_ofNat_of_zero_le h20
  have hn4 : n < 4 := by have := h21 (by omega); omega
  clear h20 h21 hC1
  go_wp2_with fail
  refine (l1DrawRow_any _ n _ hC2 (by omega)).mono ?_
  rintro e w3 ⟨v3, us, rfl, hul, hown3, hC3, hg3⟩
  obtain ⟨A3, cap3, g3, rfl, hg3', RW⟩ := Row.of_own hown3
  have hG3 : w1.grownBy w3 (some w.heap.size) := grown_trans hg2 hg3
  have hb3 : Below w.heap.size w w3 := hb1.grown hG3 hb1.size (fun k e => by cases e; exact Nat.le_refl _)
  have hsl := showL_len us
  clear hown3 hC2 hg2 hg3 hG3
  go_wp2_with fail
  refine (specShowRow_any A3 cap3 us _ RW.ints (by omega)).mono ?_
  rintro e w4 ⟨rfl, hb4⟩
  have hC4 := hC3.below hb4
  have hb04 : Below w.heap.size w w4 := hb3.trans (hb4.mono hb3.size)
  have hsz : (⟨(showL us).toArray⟩ : ByteArray).size = (showL us).length := by show (showL us).toArray.size = _; simp
  clear hC3 hb4 RW hb3
  generalize showL us = ss at *
  go_wp2_with fail
  refine (l1Once_any _ 2 _ hC4 (by omega) (by omega)).mono ?_
  rintro e w5 ⟨b5, rfl, hC5, hg5⟩
  have hb05 : Below w.heap.size w w5 := hb04.grown hg5 hb04.size (fun k e => by cases e; exact Nat.le_refl _)
  clear hC4 hg5
  cases b5 with
  | false =>
    go_wp2
    go_ret
    exact ⟨_, rfl, by omega, hb05⟩
  | true =>
    go_wp2_with fail
    refine (l1Bend_any _ _ ⟨#[48, 32, 45, 49, 53]⟩ _ hC5 (by omega) (by decide) (by decide)).mono ?_
    rintro e w6 ⟨t, rfl, hts, hC6, hg6⟩
    have hb06 : Below w.heap.size w w6 := hb05.grown hg6 hb05.size (fun k e => by cases e; exact Nat.le_refl _)
    go_wp2
    go_ret
    exact ⟨t, rfl, by omega, hb06⟩

theorem specRead_show {s : List UInt8} {r : List Int} (h : specRead s = (r, true)) : showL r = s ∧ rowOkB r = true := by
  unfold specRead at h
  by_cases h45 : s = [45]
  · rw [if_pos h45] at h
    injection h with h _
    subst h; rw [h45]; decide
  · rw [if_neg h45] at h
    cases hs : (spl 32 s).mapM (readNum 10) with
    | none => rw [hs] at h; simp at h
    | some q =>
      rw [hs] at h
      simp only at h
      by_cases hok : rowOkB q = true
      · rw [if_pos hok] at h
        injection h with h _
        subst h
        have hwords := words_of hs
        have hr0 : q ≠ [] := by intro e; subst e; exact spl_ne 32 s (by simpa using hwords)
        refine ⟨?_, hok⟩
        unfold showL
        rw [if_pos hok, if_neg hr0, numbersL_cat, ← hwords, cat_spl]
      · rw [if_neg hok] at h; simp at h
theorem itoa_ne45 (n : Int) : Lib.itoa n ≠ [45] := by
  intro e
  unfold Lib.itoa at e
  split at e
  · have h := (decDigits_ok n.natAbs).1
    injection e with _ e
    exact h e
  · have h := (decDigits_ok n.toNat).2.1
    rw [e] at h
    exact absurd h (by decide)
theorem specRead_of {r : List Int} (h : rowOkB r = true) : specRead (showL r) = (r, true) := by
  obtain ⟨hall, h6⟩ := rowOkB_all h
  unfold showL
  rw [if_pos h]
  by_cases h0 : r = []
  · subst h0; rfl
  · rw [if_neg h0, numbersL_cat]
    have hsp : spl 32 (cat [32] (r.map Lib.itoa)) = r.map Lib.itoa := by
      refine spl_cat 32 _ (by simpa using h0) (fun w hw' => ?_)
      obtain ⟨n, _, rfl⟩ := List.mem_map.1 hw'
      exact fun hm => itoa_no n 32 hm rfl
    have h3 : (spl 32 (cat [32] (r.map Lib.itoa))).mapM (readNum 10) = some r := by
      rw [hsp]
      have := mapM_map (readNum 10) Lib.itoa id r (fun n hn => by
        have := cell_of_B (List.all_eq_true.1 hall n hn)
        exact readNum_of n this.1 this.2)
      simpa using this
    refine specRead_yes (fun e => ?_) h3 h
    rw [e] at hsp
    have h1 : spl 32 [45] = [[45]] := by rfl
    rw [h1] at hsp
    match r, h0, hsp with
    | [x], _, hsp => simp at hsp; exact itoa_ne45 x hsp.symm
    | x :: y :: r, _, hsp => simp at hsp
theorem showL_nil {r : List Int} (h : showL r = []) : rowOkB r = false := by
  cases hb : rowOkB r with
  | false => rfl
  | true =>
    exfalso
    unfold showL at h
    rw [if_pos hb] at h
    by_cases h0 : r = []
    · rw [if_pos h0] at h; cases h
    · rw [if_neg h0] at h
      have := (numbersL_len r (rowOkB_all hb).1).2 h0
      rw [h] at this; simp at this
theorem showL_ne {r : List Int} (h : showL r ≠ []) : rowOkB r = true := by
  cases hb : rowOkB r with
  | true => rfl
  | false => exact absurd (by unfold showL; rw [if_neg (by rw [hb]; decide)]) h
theorem less_three : ∀ a b : List Int, (a = b ∧ lessB a b = false ∧ lessB b a = false) ∨ (a ≠ b ∧ lessB a b = true ∧ lessB b a = false) ∨ (a ≠ b ∧ lessB a b = false ∧ lessB b a = true)
  | [], [] => .inl ⟨rfl, rfl, rfl⟩
  | [], _ :: _ => .inr (.inl ⟨by simp, rfl, rfl⟩)
  | _ :: _, [] => .inr (.inr ⟨by simp, rfl, rfl⟩)
  | x :: xs, y :: ys => by
    by_cases e : x = y
    · subst e
      have := less_three xs ys
      simpa [lessB] using this
    · have e' : ¬ y = x := fun h => e h.symm
      simp only [lessB, if_neg e, if_neg e']
      rcases Int.lt_or_gt_of_ne e with h | h
      · exact .inr (.inl ⟨by simp [e], by simpa using h, by simp; omega⟩)
      · exact .inr (.inr ⟨by simp [e], by simp; omega, by simpa using h⟩)
theorem picked_len (zs ps : List Int) : (pickedL zs ps).length = 0 ∨ (pickedL zs ps).length = ps.length := by
  unfold pickedL
  split
  · right; simp [pick]
  · left; rfl
end Go.Proofs.YthlniadodiomfaaDoor
