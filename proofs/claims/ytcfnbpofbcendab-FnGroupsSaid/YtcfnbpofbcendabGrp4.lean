/- The contract of the model's Grouped; how large its answer is. For bags of at most 2^40, rows and places of at most 2^30. -/
import Derived.Test.YtcfnbpofbcendabGrp1
import Derived.Test.YtcfnbpofbcendabGrp3
import Derived.Test.YtcfnbpofbcendabBagI2
namespace Go.Proofs.Ytcfnbpofbcendab
open Go.RowKit

theorem grpB_fit {b : List (List Int × Int)} {ps : List Int} {p : Int} {m : Nat} (hm : ps.length + 2 ≤ m) : (grpB b ps p).length ≤ 300 ∧ ∀ j, j < (grpB b ps p).length → (rx (grpB b ps p) j).length ≤ m := by
  cases h : grpOk b ps p with
  | false => rw [grpB_no h]; exact ⟨Nat.zero_le _, fun j hj => absurd hj (by simp)⟩
  | true =>
    have e : grpB b ps p = grpL (togL (keptL b ps)) p (sumsB b ps p) := by unfold grpB; rw [h]; rfl
    have hbag : bagOkB b = true := by unfold grpOk at h; simp only [Bool.and_eq_true] at h; exact h.1
    have hR := right_bag hbag
    rw [e]
    have h1 := grp_len (togL (keptL b ps)) p (sumsB b ps p)
    have h2 := tog_length (keptL b ps)
    have h3 : (keptL b ps).length = b.length := by simp [keptL]
    have h4 := hR.1
    refine ⟨by omega, rows_mem.2 fun x hx => ?_⟩
    unfold grpL at hx
    obtain ⟨t, ht, rfl⟩ := List.mem_map.1 hx
    have h5 := tog_rows (m := ps.length) (fun r hr => by
      unfold keptL at hr
      obtain ⟨y, _, rfl⟩ := List.mem_map.1 hr
      exact pickedL_length y.1 ps) t (List.mem_filter.1 ht).1
    unfold rowG tailG
    simp only [List.length_append, List.length_cons]
    split <;> simp <;> omega
set_option maxRecDepth 100000 in
set_option maxHeartbeats 4000000 in
theorem specGrouped_any (A A' : Option Addr) (c c' : Nat) (b : List (List Int × Int)) (ps : List Int) (p : Int) (w : World) (hB : Bag w w.heap.size A b) (hI : Ints w w.heap.size A' ps) (hlb : b.length ≤ 1099511627776) (hrb : ∀ j, j < b.length → (rx b j).length ≤ 1073741824) (hlp : ps.length ≤ 1073741824) :
    Calls Try.prog 8 #[.slice A b.length c, .slice A' ps.length c', .int .i64 p] w (OwnBag w.heap.size (grpB b ps p) w) := by
  have HRB := Lib.hid hrb
  clear hrb
  go_enter Try.func8, Try.ntmps8
  go_upto_region 1 with fail
  go_cut [26] (fun s wx => s = .bool (!grpOk b ps p) ∧ Below w.heap.size w wx)
  case first =>
    go_wp2_with fail
    refine (specBagOk_any A c b w _ hB hlb).mono ?_
    rintro e w1 ⟨rfl, n1, rfl⟩
    have hb1 := bel_drewN (Below.refl w.heap.size w) n1
    have hB1 := hB.on hb1
    have hI1 := hI.on hb1
    generalize w.drewN n1 = w1 at *
    cases h1 : bagOkB b with
    | false =>
      have HF := Lib.hid (show grpOk b ps p = false by unfold grpOk; rw [h1]; rfl)
      clear h1
      go_wp2_with fail
      go_meet
      exact ⟨by rw [HF.out]; rfl, hb1⟩
    | true =>
    have H1 := Lib.hid h1
    clear h1
    go_wp2_with fail
    refine (l10Has_any A A' c c' b ps w1 _ _ hB1 hI1 hlb hlp HRB.out).mono ?_
    rintro e w2 ⟨rfl, rfl⟩
    cases h2 : hasB b ps with
    | false =>
      have HF := Lib.hid (show grpOk b ps p = false by unfold grpOk; rw [H1.out, h2]; rfl)
      clear h2
      go_wp2_with fail
      go_meet
      exact ⟨by rw [HF.out]; rfl, hb1⟩
    | true =>
    have H2 := Lib.hid h2
    clear h2
    by_cases hp1 : p = -1
    · have hpb : (p != -1) = false := by simpa using hp1
      have HF := Lib.hid (show grpOk b ps p = true by unfold grpOk; rw [H1.out, H2.out, hp1]; rfl)
      clear hp1
      go_wp2_with fail
      go_meet
      exact ⟨by rw [HF.out]; rfl, hb1⟩
    · have hpb : (p != -1) = true := by simpa using hp1
      have HPN := Lib.hid (show (p == -1) = false by simpa using hp1)
      have b3 := (Below.refl w1.heap.size w1).alloc (Nat.le_refl _) (.cells #[.int .i64 p] 2)
      have hI3 : Ints (w1.alloc (.cells #[.int .i64 p] 2)) (w1.alloc (.cells #[.int .i64 p] 2)).heap.size (some ⟨w1.heap.size, 0, none⟩) [p] := Blk.ints (zs := [p]) (Blk.new w1 2 #[.int .i64 p])
      have hB3 := hB1.on b3
      have hb3 := bel_step hb1 b3
      clear hp1 hB1 b3
      go_wp2_with fail
      generalize w1.alloc (.cells #[.int .i64 p] 2) = w3 at *
      refine (l10Has_any A (some ⟨w1.heap.size, 0, none⟩) c 1 b [p] w3 _ _ hB3 hI3 hlb (by simp) HRB.out).mono ?_
      rintro e w4 ⟨rfl, rfl⟩
      clear hI3 hB3
      have HF := Lib.hid (show grpOk b ps p = hasB b [p] by unfold grpOk; rw [H1.out, H2.out, HPN.out]; simp)
      cases h3 : hasB b [p] with
      | false =>
        have HG := Lib.hid (HF.out.trans h3)
        clear h3
        go_wp2_with fail
        go_meet
        exact ⟨by rw [HG.out]; rfl, hb3⟩
      | true =>
        have HG := Lib.hid (HF.out.trans h3)
        clear h3
        go_wp2_with fail
        go_meet
        exact ⟨by rw [HG.out]; rfl, hb3⟩
  case rest =>
    obtain ⟨rfl, hbc⟩ := hcut
    have hBc := hB.on hbc
    have hIc := hI.on hbc
    have hsc : w.heap.size ≤ wc.heap.size := hbc.size
    cases hok : grpOk b ps p with
    | false =>
      have HF := Lib.hid (grpB_no hok)
      clear hok
      go_wp2
      go_ret
      rw [HF.out]; exact OwnBag.empty hbc hsc
    | true =>
      have HGB := Lib.hid (show grpB b ps p = grpL (togL (keptL b ps)) p (sumsB b ps p) by unfold grpB; rw [hok]; rfl)
      have hbag : bagOkB b = true ∧ hasB b ps = true := by
        unfold grpOk at hok; simp only [Bool.and_eq_true] at hok; exact ⟨hok.1, hok.2.1⟩
      have hq : p ≠ -1 → ∀ j, j < b.length → 0 ≤ p ∧ p < ((rx b j).length : Int) := fun hn j hj => by
        unfold grpOk at hok
        simp only [Bool.and_eq_true, Bool.or_eq_true] at hok
        rcases hok.2.2 with h | h
        · exact absurd (by simpa using h) hn
        · exact places_one (has_at h hj)
      clear hok
      go_wp2_with fail
      refine (l10Groups_any A A' c c' b ps p wc hBc hIc (right_bag hbag.1) hlp hbag.2 hq).mono ?_
      rintro e w7 ⟨g, cap, es, rfl, hO, he, hb7⟩
      have HE := Lib.hid he
      clear he hq hbag hBc hIc
      go_wp2
      go_ret
      exact ⟨g, cap, es, rfl, hO.lower hsc, by rw [HE.out, HGB.out], hbc.trans (hb7.mono hsc)⟩
end Go.Proofs.Ytcfnbpofbcendab
