/- Plain facts on joined bags; contracts of l10Has, the model's, and of rowsHave, the program's: do all rows have these places? For bags of at most 2^40, rows and places of at most 2^30. -/
import Derived.Test.YtcfnbpofbcendabTogThy
import Derived.Test.YtcfnbpofbcendabJB
namespace Go.Proofs.Ytcfnbpofbcendab
open Go.RowKit

def hasB (bag : List (List Int × Int)) (ps : List Int) : Bool := bag.all fun p => placesB ps p.1.length
theorem has_no {bag : List (List Int × Int)} {ps : List Int} {k : Nat} (h : k < bag.length) (e : placesB ps (rx bag k).length = false) : hasB bag ps = false :=
  List.all_eq_false.2 ⟨bag[k], List.getElem_mem h, by rw [bag_ix h]; simpa using e⟩
theorem has_yes {bag : List (List Int × Int)} {ps : List Int} (h : ∀ j, j < bag.length → placesB ps (rx bag j).length = true) : hasB bag ps = true :=
  List.all_eq_true.2 fun p hp => by
    obtain ⟨j, hj, rfl⟩ := List.getElem_of_mem hp
    rw [bag_ix hj]; exact h j hj
theorem has_at {bag : List (List Int × Int)} {ps : List Int} (h : hasB bag ps = true) {k : Nat} (hk : k < bag.length) : placesB ps (rx bag k).length = true := by
  have := List.all_eq_true.1 h bag[k] (List.getElem_mem hk)
  rwa [bag_ix hk] at this
theorem places_one {p : Int} {n : Nat} (h : placesB [p] n = true) : 0 ≤ p ∧ p < n := by
  simp [placesB, inB] at h; omega
theorem picked_yes {zs ps : List Int} (h : placesB ps zs.length = true) : (pickedL zs ps).length = ps.length := by unfold pickedL; rw [if_pos h]; simp [pick]
theorem picked_no {zs ps : List Int} (h : placesB ps zs.length = false) : (pickedL zs ps).length = 0 ∧ 0 < ps.length := by
  unfold pickedL
  rw [if_neg (by rw [h]; simp)]
  refine ⟨rfl, ?_⟩
  cases ps with
  | nil => simp [placesB] at h
  | cons p ps => simp

set_option maxRecDepth 100000 in
set_option maxHeartbeats 1000000 in
theorem l10Has_any (A A' : Option Addr) (c c' : Nat) (bag : List (List Int × Int)) (ps : List Int) (w : World) (B B' : Nat) (hB : Bag w B A bag) (hI : Ints w B' A' ps) (hl : bag.length ≤ 1099511627776) (hl' : ps.length ≤ 1073741824) (hr : ∀ j, j < bag.length → (rx bag j).length ≤ 1073741824) :
    Calls Try.prog 23 #[.slice A bag.length c, .slice A' ps.length c'] w fun e w' => e = .returned (.bool (hasB bag ps)) ∧ w = w' := by
  have HR := Lib.hid hr
  clear hr
  go_enter Try.func23, Try.ntmps23
  go_wp2
  go_loop [5] (fun i => ∃ k : Nat, k ≤ bag.length ∧ i = .int .i64 k ∧ ∀ j, j < k → placesB ps (rx bag j).length = true) (fun i => bag.length - (intOf i).toNat)
  case atStart => exact ⟨0, Nat.zero_le _, rfl, fun j hj => absurd hj (by omega)⟩
  case round =>
    obtain ⟨k, hk, rfl, hj⟩ := hrel
    have HJ := Lib.hid hj
    clear hj
    by_cases hlt : k < bag.length
    · obtain ⟨b, off, rfl, _, hc⟩ := hB (by omega)
      obtain ⟨Ar, cap, h1, h2, h3, h4⟩ := hc k hlt
      clear hc h3 h2
      have hrk := HR.out k hlt
      have hk0 : (0 : Int) ≤ (k : Int) := Int.natCast_nonneg _
      have hk1 : (k : Int) < (bag.length : Int) := by omega
      cases hp : placesB ps (rx bag k).length with
      | true =>
        have HP := Lib.hid hp
        clear hp
        go_wp2_with fail
        refine (l1Places_yes A' c' _ ps w B' hI hl' hrk HP.out).mono ?_
        rintro e w1 ⟨rfl, rfl⟩
        go_wp2
        go_round
        case rel => exact ⟨k + 1, by omega, by go_num, fun j hj => by
          by_cases e : j = k
          · rw [e]; exact HP.out
          · exact HJ.out j (by omega)⟩
        case measure => simp [intOf]; omega
      | false =>
        have HP := Lib.hid hp
        have HF := Lib.hid (has_no hlt hp)
        clear hp
        go_wp2_with fail
        refine (l1Places_no A' c' _ ps w B' hI hl' hrk HP.out).mono ?_
        rintro e w1 ⟨rfl, rfl⟩
        go_wp2
        go_ret
        exact ⟨by rw [HF.out]; rfl, rfl⟩
    · have hd : decide (k < bag.length) = false := by simpa using hlt
      have HF := Lib.hid (has_yes (bag := bag) (ps := ps) fun j hj => HJ.out j (by omega))
      go_wp2
      go_ret
      exact ⟨by rw [HF.out]; rfl, rfl⟩

set_option maxRecDepth 100000 in
set_option maxHeartbeats 2000000 in
theorem rowsHave_any (A A' : Option Addr) (c c' : Nat) (bag : List (List Int × Int)) (ps : List Int) (w : World) (hB : Bag w w.heap.size A bag) (hI : Ints w w.heap.size A' ps) (hl : bag.length ≤ 1099511627776) (hl' : ps.length ≤ 1073741824) (hr : ∀ j, j < bag.length → (rx bag j).length ≤ 1073741824) :
    Calls Try.prog 19 #[.slice A bag.length c, .slice A' ps.length c'] w fun e w' => e = .returned (.bool (hasB bag ps)) ∧ Below w.heap.size w w' := by
  have HR := Lib.hid hr
  clear hr
  go_enter Try.func19, Try.ntmps19
  go_wp2
  go_loopw [9] (fun i wr => ∃ k : Nat, k ≤ bag.length ∧ i = .int .i64 k ∧ (∀ j, j < k → placesB ps (rx bag j).length = true) ∧ Below w.heap.size w wr) (fun i _ => bag.length - (intOf i).toNat)
  case atStart => exact ⟨0, Nat.zero_le _, rfl, fun j hj => absurd hj (by omega), Below.refl _ _⟩
  case round =>
    obtain ⟨k, hk, rfl, hj, hW⟩ := hrel
    have HJ := Lib.hid hj
    clear hj
    by_cases hlt : k < bag.length
    · obtain ⟨b, off, rfl, _, hc⟩ := hB.on hW (by omega)
      obtain ⟨Ar, cap, h1, h2, h3, h4⟩ := hc k hlt
      have hIr := hI.on hW
      clear hc
      have hrk := HR.out k hlt
      have hk0 : (0 : Int) ≤ (k : Int) := Int.natCast_nonneg _
      have hk1 : (k : Int) < (bag.length : Int) := by omega
      have bc := (Below.refl wr.heap.size wr).alloc (Nat.le_refl _) (.cells #[.slice Ar (rx bag k).length cap, .int .i64 (nx bag k)] 33)
      have hW1 := bel_step hW bc
      have h3a := h3.on bc
      have hIa := hIr.on bc
      go_wp2_with fail
      refine (implPicked_any Ar A' cap c' (rx bag k) ps _ h3a hIa hrk hl').mono ?_
      rintro e w1 ⟨v, rfl, hown, hb1⟩
      obtain ⟨Av, cv, gv, rfl, _, _⟩ := rowAt_of_own hown
      have hW2 := bel_step hW1 hb1
      clear hown hb1 bc hW1 h3a hIa hIr h1 h2 h3
      cases hp : placesB ps (rx bag k).length with
      | true =>
        have HP := Lib.hid hp
        have hln := picked_yes hp
        clear hp
        go_wp2
        go_roundw
        case rel => exact ⟨k + 1, by omega, by go_num, fun j hj => by
          by_cases e : j = k
          · rw [e]; exact HP.out
          · exact HJ.out j (by omega), hW2⟩
        case measure => simp [intOf]; omega
      | false =>
        obtain ⟨hln, hpos⟩ := picked_no hp
        have HF := Lib.hid (has_no hlt hp)
        clear hp
        have hne : ((0 : Int) == (ps.length : Int)) = false := by rw [beq_eq_false_iff_ne]; omega
        go_wp2
        go_ret
        exact ⟨by rw [HF.out]; rfl, hW2⟩
    · have hd : decide (k < bag.length) = false := by simpa using hlt
      have HF := Lib.hid (has_yes (bag := bag) (ps := ps) fun j hj => HJ.out j (by omega))
      go_wp2
      go_ret
      exact ⟨by rw [HF.out]; rfl, hW⟩

/-- What one row of the left makes with those of the right. -/
def inL (x : List Int × Int) (b : List (List Int × Int)) (p q : Int) : List (List Int × Int) := (b.filter fun y => decide (ix x.1 p.toNat = ix y.1 q.toNat)).map fun y => (x.1 ++ y.1, x.2 * y.2)
def pairsL (a b : List (List Int × Int)) (p q : Int) : List (List Int × Int) := a.flatMap fun x => inL x b p q
def joinOk (a b : List (List Int × Int)) (p q : Int) : Bool := bagOkB a && (bagOkB b && (hasB a [p] && hasB b [q]))
def joinB (a b : List (List Int × Int)) (p q : Int) : List (List Int × Int) := if joinOk a b p q then togL (pairsL a b p q) else []
theorem pairs_step {a b : List (List Int × Int)} {p q : Int} {k : Nat} (h : k < a.length) : pairsL (a.take (k + 1)) b p q = pairsL (a.take k) b p q ++ inL (rx a k, nx a k) b p q := by
  unfold pairsL
  rw [List.take_succ_eq_append_getElem h, List.flatMap_append, bag_ix h]; simp
theorem in_step {x : List Int × Int} {b : List (List Int × Int)} {p q : Int} {k : Nat} (h : k < b.length) : inL x (b.take (k + 1)) p q = inL x (b.take k) p q ++ if ix x.1 p.toNat = ix (rx b k) q.toNat then [(x.1 ++ rx b k, x.2 * nx b k)] else [] := by
  unfold inL
  rw [List.take_succ_eq_append_getElem h, bag_ix h, List.filter_append, List.map_append]
  congr 1
  by_cases e : ix x.1 p.toNat = ix (rx b k) q.toNat
  · rw [if_pos e, List.filter_cons_of_pos (by simpa using e)]; simp
  · rw [if_neg e, List.filter_cons_of_neg (by simpa using e)]; simp
theorem in_len (x : List Int × Int) (b : List (List Int × Int)) (p q : Int) : (inL x b p q).length ≤ b.length := by
  unfold inL; rw [List.length_map]; exact List.length_filter_le _ _
theorem pairs_len (a b : List (List Int × Int)) (p q : Int) : (pairsL a b p q).length ≤ a.length * b.length := by
  unfold pairsL
  induction a with
  | nil => simp
  | cons x a ih =>
    rw [List.flatMap_cons, List.length_append, List.length_cons, Nat.succ_mul]
    have := in_len x b p q
    omega
theorem in_mem {x : List Int × Int} {b : List (List Int × Int)} {p q : Int} {r : List Int × Int} (h : r ∈ inL x b p q) : ∃ y ∈ b, r = (x.1 ++ y.1, x.2 * y.2) := by
  unfold inL at h
  obtain ⟨y, hy, rfl⟩ := List.mem_map.1 h
  exact ⟨y, (List.mem_filter.1 hy).1, rfl⟩
theorem pairs_mem {a b : List (List Int × Int)} {p q : Int} {r : List Int × Int} (h : r ∈ pairsL a b p q) : ∃ x ∈ a, ∃ y ∈ b, r = (x.1 ++ y.1, x.2 * y.2) := by
  unfold pairsL at h
  obtain ⟨x, hx, hr⟩ := List.mem_flatMap.1 h
  obtain ⟨y, hy, e⟩ := in_mem hr
  exact ⟨x, hx, y, hy, e⟩
theorem mul_bd {a b : Int} (h0 : -1000000 ≤ a) (h1 : a ≤ 1000000) (h2 : -1000000 ≤ b) (h3 : b ≤ 1000000) : -1000000000000 ≤ a * b ∧ a * b ≤ 1000000000000 := by
  have e1 : (a.natAbs : Int) ≤ 1000000 := by omega
  have e2 : (b.natAbs : Int) ≤ 1000000 := by omega
  have e3 : a.natAbs * b.natAbs ≤ 1000000 * 1000000 := Nat.mul_le_mul (by omega) (by omega)
  have e4 : (a * b).natAbs = a.natAbs * b.natAbs := Int.natAbs_mul a b
  omega
end Go.Proofs.Ytcfnbpofbcendab
