/- Contracts of the model's Minus, Change, l1Min and Least: own bags that read as told; a number; nothing that lay has turned. -/
import Derived.Test.YtkjpaafmolikoaaSum2
import Derived.Test.YtkjpaafmolikoaaMergeThy
namespace Go.Proofs.Ytkjpaafmolikoaa
open Go.RowKit

theorem OwnBag.low {lo lo' : Nat} {bag : List (List Int × Int)} {w0 w : World} {e : Ending} {w' : World} (h : OwnBag lo bag w e w') (hl : lo' ≤ lo) (hb : Below lo' w0 w) : OwnBag lo' bag w0 e w' := by
  obtain ⟨g, cap, es, he, hO, hp, hb'⟩ := h
  exact ⟨g, cap, es, he, OBag.lower hO hl, hp, hb.trans (hb'.mono hl)⟩
/-- A bag in order turned round; else the empty bag. -/
def minusB (a : List (List Int × Int)) : List (List Int × Int) := if bagOkB a = true then minusL a else []
set_option maxRecDepth 100000 in
set_option maxHeartbeats 4000000 in
theorem specMinus_any (A : Option Addr) (c : Nat) (a : List (List Int × Int)) (w : World) (hA : Bag w w.heap.size A a) (hl : a.length ≤ 1099511627776) :
    Calls Try.prog 80 #[.slice A a.length c] w (OwnBag w.heap.size (minusB a) w) := by
  go_enter Try.func80, Try.ntmps80
  go_wp2_with fail
  refine (specBagOk_any A c a w _ hA hl).mono ?_
  rintro e w1 ⟨rfl, n1, hw1⟩
  have hA1 : Bag w1 w1.heap.size A a := by rw [hw1]; exact hA
  have hb1 : Below w.heap.size w w1 := by rw [hw1]; exact bel_drewN (Below.refl _ _) n1
  have hs1 : w1.heap.size = w.heap.size := by rw [hw1]; rfl
  have HS1 := Lib.hid hs1
  clear hw1 hA hs1
  cases hoa : bagOkB a with
  | false =>
    have HO := Lib.hid hoa
    clear hoa
    go_wp2
    go_ret
    refine ⟨_, 0, [], rfl, OBag.nil (by have := empty_counts w1; rwa [HS1.out] at this ⊢), by simp [minusB, HO.out], hb1.alloc hb1.size _⟩
  | true =>
    have HO := Lib.hid hoa
    have hla := (bagOk_fit HO.out).2
    have HN := Lib.hid (bagOk_fit HO.out).1.2.2
    clear hoa
    go_wp2_with fail
    refine (l3Minus_any A c a w1 hA1 (by omega) HN.out).mono ?_
    rintro e w3 ⟨g, cap, es, rfl, hO3, he3, hb3⟩
    rw [HS1.out] at hO3 hb3
    have HE := Lib.hid he3
    clear he3
    go_wp2
    go_ret
    exact ⟨g, cap, es, rfl, hO3, by rw [HE.out]; simp [minusB, HO.out], hb1.trans hb3⟩
set_option maxRecDepth 100000 in
set_option maxHeartbeats 4000000 in
theorem l3Change_any (A A' : Option Addr) (c c' : Nat) (a b : List (List Int × Int)) (w : World) (hA : Bag w w.heap.size A a) (hB : Bag w w.heap.size A' b) (hl : a.length ≤ 1000000) (hl' : b.length ≤ 1000000) (hn : ∀ p ∈ a, -1000000 ≤ p.2 ∧ p.2 ≤ 1000000) :
    Calls Try.prog 110 #[.slice A a.length c, .slice A' b.length c'] w (OwnBag w.heap.size (changeL a b) w) := by
  have HR := Lib.hid (show ∀ p ∈ minusL a, p.1.length ≤ 1099511627776 from fun p hp => by
    obtain ⟨q, hq, rfl⟩ := List.mem_map.1 hp
    exact rows_mem.1 hA.le q hq)
  go_enter Try.func110, Try.ntmps110
  go_wp2_with fail
  refine (l3Minus_any A c a w hA hl hn).mono ?_
  rintro e w1 ⟨g, cap, es, rfl, hO1, he1, hb1⟩
  have hel : es.length = (minusL a).length := by rw [← he1, List.length_map]
  have hM : Bag w1 w1.heap.size (some ⟨g, 0, none⟩) (minusL a) := OBag.bagW hO1 he1 (rows_mem.2 HR.out)
  have hB1 := hB.on hb1
  have hml : (minusL a).length ≤ 1000000 := by rw [minus_length]; exact hl
  rw [hel]
  clear hel he1 hn
  obtain ⟨m, hm⟩ : ∃ m, minusL a = m := ⟨_, rfl⟩
  have HC := Lib.hid (show changeL a b = plusL b m by unfold changeL; rw [hm])
  rw [hm] at hM hml ⊢
  clear hm HR hA
  go_wp2_with fail
  refine (l3Plus_any A' _ c' cap b m w1 hB1 hM hl' hml).mono ?_
  rintro e w3 hq
  obtain ⟨g3, cap3, es3, rfl, hO3, he3, hb3⟩ := hq.low hb1.size hb1
  have HE := Lib.hid he3
  clear he3
  go_wp2
  go_ret
  exact ⟨g3, cap3, es3, rfl, hO3, by rw [HE.out, HC.out], hb3⟩
/-- Two bags in order: what comes from the one to the other; else the empty bag. -/
def changeB (a b : List (List Int × Int)) : List (List Int × Int) := if (bagOkB a && bagOkB b) = true then changeL a b else []
set_option maxRecDepth 100000 in
set_option maxHeartbeats 4000000 in
theorem specChange_any (A A' : Option Addr) (c c' : Nat) (a b : List (List Int × Int)) (w : World) (hA : Bag w w.heap.size A a) (hB : Bag w w.heap.size A' b) (hl : a.length ≤ 1099511627776) (hl' : b.length ≤ 1099511627776) :
    Calls Try.prog 54 #[.slice A a.length c, .slice A' b.length c'] w (OwnBag w.heap.size (changeB a b) w) := by
  go_enter Try.func54, Try.ntmps54
  go_wp2_with fail
  refine (specBagOk_any A c a w _ hA hl).mono ?_
  rintro e w1 ⟨rfl, n1, hw1⟩
  have hA1 : Bag w1 w1.heap.size A a := by rw [hw1]; exact hA
  have hB1 : Bag w1 w1.heap.size A' b := by rw [hw1]; exact hB
  have hb1 : Below w.heap.size w w1 := by rw [hw1]; exact bel_drewN (Below.refl _ _) n1
  have hs1 : w1.heap.size = w.heap.size := by rw [hw1]; rfl
  have HS1 := Lib.hid hs1
  clear hw1 hA hB hs1
  cases hoa : bagOkB a with
  | false =>
    have HO := Lib.hid hoa
    clear hoa
    go_wp2
    go_ret
    refine ⟨_, 0, [], rfl, OBag.nil (by have := empty_counts w1; rwa [HS1.out] at this ⊢), by simp [changeB, HO.out], hb1.alloc hb1.size _⟩
  | true =>
    have HO := Lib.hid hoa
    clear hoa
    go_wp2_with fail
    refine (specBagOk_any A' c' b w1 _ hB1 hl').mono ?_
    rintro e w2 ⟨rfl, n2, hw2⟩
    have hA2 : Bag w2 w2.heap.size A a := by rw [hw2]; exact hA1
    have hB2 : Bag w2 w2.heap.size A' b := by rw [hw2]; exact hB1
    have hb2 : Below w.heap.size w w2 := by rw [hw2]; exact bel_drewN hb1 n2
    have HS2 := Lib.hid (show w2.heap.size = w.heap.size by rw [hw2]; exact HS1.out)
    clear hw2 hA1 hB1 hb1 HS1
    cases hob : bagOkB b with
    | false =>
      have HO2 := Lib.hid hob
      clear hob
      go_wp2
      go_ret
      refine ⟨_, 0, [], rfl, OBag.nil (by have := empty_counts w2; rwa [HS2.out] at this ⊢), by simp [changeB, HO2.out], hb2.alloc hb2.size _⟩
    | true =>
      have HO2 := Lib.hid hob
      have hla := (bagOk_fit HO.out).2
      have hlb := (bagOk_fit HO2.out).2
      have HN := Lib.hid (bagOk_fit HO.out).1.2.2
      clear hob
      go_wp2_with fail
      refine (l3Change_any A A' c c' a b w2 hA2 hB2 (by omega) (by omega) HN.out).mono ?_
      rintro e w3 ⟨g, cap, es, rfl, hO3, he3, hb3⟩
      rw [HS2.out] at hO3 hb3
      have HE := Lib.hid he3
      clear he3
      go_wp2
      go_ret
      exact ⟨g, cap, es, rfl, hO3, by rw [HE.out]; simp [changeB, HO.out, HO2.out], hb2.trans hb3⟩

theorem l1Min_any (a b : Int) (w : World) :
    Calls Try.prog 117 #[.int .i64 a, .int .i64 b] w fun e w' => e = .returned (.int .i64 (min a b)) ∧ w = w' := by
  by_cases h : a < b
  all_goals
    go_enter Try.func117, Try.ntmps117
    go_wp2
    go_ret
    exact ⟨ret_int (by omega), rfl⟩
/-- The least number of the first k counts (of the first one alone where k is 0). -/
def lstTo (b : List (List Int × Int)) (k : Nat) : Int := (b.take k).foldl (fun m p => min m p.2) (nx b 0)
theorem lst_zero (b : List (List Int × Int)) : lstTo b 0 = nx b 0 := by simp [lstTo]
theorem lst_succ {b : List (List Int × Int)} {k : Nat} (h : k < b.length) : lstTo b (k + 1) = min (lstTo b k) (nx b k) := by
  unfold lstTo
  rw [List.take_succ_eq_append_getElem h, List.foldl_append]
  simp [nx, h]
theorem lst_one {b : List (List Int × Int)} (h : 0 < b.length) : lstTo b 1 = nx b 0 := by
  rw [lst_succ h, lst_zero]; omega
def leastB (b : List (List Int × Int)) : Int := if bagOkB b = true ∧ 0 < b.length then lstTo b b.length else 0
set_option maxRecDepth 100000 in
set_option maxHeartbeats 4000000 in
theorem specLeast_any (A : Option Addr) (c : Nat) (b : List (List Int × Int)) (w : World) (hB : Bag w w.heap.size A b) (hl : b.length ≤ 1099511627776) :
    Calls Try.prog 61 #[.slice A b.length c] w fun e w' => e = .returned (.int .i64 (leastB b)) ∧ ∃ n, w' = w.drewN n := by
  go_enter Try.func61, Try.ntmps61
  go_wp2_with fail
  refine (specBagOk_any A c b w _ hB hl).mono ?_
  rintro e w1 ⟨rfl, n1, hw1⟩
  have hB1 : Bag w1 w1.heap.size A b := by rw [hw1]; exact hB
  have HW := Lib.hid hw1
  clear hw1 hB
  cases hob : bagOkB b with
  | false =>
    have HL := Lib.hid (show leastB b = 0 by unfold leastB; rw [if_neg (by simp [hob])])
    clear hob
    go_wp2
    go_ret
    exact ⟨by rw [HL.out]; rfl, n1, HW.out⟩
  | true =>
    by_cases h0 : b.length = 0
    · have HL := Lib.hid (show leastB b = 0 by unfold leastB; rw [if_neg (fun h => by have := h.2; omega)])
      have he : ((b.length : Int) == 0) = true := beq_iff_eq.2 (by omega)
      clear hob
      go_wp2
      go_ret
      exact ⟨by rw [HL.out]; rfl, n1, HW.out⟩
    · have HL := Lib.hid (show leastB b = lstTo b b.length by unfold leastB; rw [if_pos ⟨hob, by omega⟩])
      have hp : 0 < b.length := by omega
      have he : ((b.length : Int) == 0) = false := beq_eq_false_iff_ne.2 (by omega)
      obtain ⟨bb, off, rfl, _, hc⟩ := hB1 hp
      obtain ⟨_, _, _, hc0, _⟩ := hc 0 hp
      have h00 : w1.cell? ⟨bb, off + 1, none⟩ = some (.int .i64 (nx b 0)) := by simpa using hc0
      have HC := Lib.hid hc
      clear hob h0 hc hc0
      obtain ⟨y0, hy0⟩ : ∃ y, nx b 0 = y := ⟨_, rfl⟩
      rw [hy0] at h00
      have HY0 := Lib.hid (show y0 = lstTo b 1 by rw [lst_one hp, hy0])
      clear hy0
      go_wp2
      go_loop [3, 4] (fun m s => ∃ k : Nat, 1 ≤ k ∧ k ≤ b.length ∧ s = .int .i64 k ∧ m = .int .i64 (lstTo b k)) (fun _ s => b.length - (intOf s).toNat)
      case atStart => exact ⟨1, Nat.le_refl _, hp, rfl, by rw [← HY0.out]⟩
      case round =>
        obtain ⟨k, hk1, hk, rfl, rfl⟩ := hrel
        clear he h00
        by_cases hlt : k < b.length
        · obtain ⟨_, _, _, h2, _⟩ := HC.out k hlt
          have HS := Lib.hid (lst_succ hlt)
          generalize nx b k = x at *
          generalize lstTo b k = m at *
          go_wp2_with fail
          refine (l1Min_any m x _).mono ?_
          rintro e w' ⟨rfl, rfl⟩
          rw [← HS.out]
          go_wp2
          go_round
          case rel => exact ⟨k + 1, by omega, by omega, by go_num, rfl⟩
          case measure => simp [intOf]; omega
        · have hd : decide (k < b.length) = false := by simpa using hlt
          have hkb : k = b.length := by omega
          have HK := Lib.hid hkb
          clear hkb
          go_wp2
          go_ret
          exact ⟨by rw [HL.out, HK.out]; rfl, n1, HW.out⟩
end Go.Proofs.Ytkjpaafmolikoaa
