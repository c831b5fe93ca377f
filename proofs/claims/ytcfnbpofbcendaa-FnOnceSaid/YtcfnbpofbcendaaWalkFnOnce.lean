/- The walk of laws.FnOnce: it returns true, whatever the code; nothing that lay has turned. -/
import Derived.Test.YtcfnbpofbcendaaOnc1
import Derived.Test.YtcfnbpofbcendaaDrawBag4
import Derived.Test.YtcfnbpofbcendaaSgn2
import Derived.Test.YtcfnbpofbcendaaBagsThy
import Derived.Test.YtcfnbpofbcendaaMark3
namespace Go.Proofs.Ytcfnbpofbcendaa
open Go.RowKit

theorem ok_rows : ∀ {bs : List (List Int × Int)} {p : Option (List Int)}, okFrom p bs = true → ∀ x ∈ bs, rowOkB x.1 = true
  | [], _, _, x, hx => by cases hx
  | (r, n) :: bs, p, h, x, hx => by
    replace h : (rowOkB r && (n != 0) && inB n (-1000000) 1000000 && (match p with | none => true | some t => lessB t r) && okFrom (some r) bs) = true := by cases p <;> exact h
    rw [Bool.and_eq_true, Bool.and_eq_true, Bool.and_eq_true, Bool.and_eq_true] at h
    rcases List.mem_cons.1 hx with rfl | hx
    · exact h.1.1.1.1
    · exact ok_rows h.2 x hx
theorem once_sb {b : List (List Int × Int)} (h : SB b) : SB (onceL b) := by
  unfold onceL SB
  rw [List.pairwise_map]
  exact h.filter _
theorem once_ones (b : List (List Int × Int)) : ∀ p ∈ onceL b, p.2 = 1 := fun p hp => by
  unfold onceL at hp
  obtain ⟨q, _, rfl⟩ := List.mem_map.1 hp; rfl
theorem once_again (b : List (List Int × Int)) : onceL (onceL b) = onceL b := by
  have h := once_ones b
  rw [show onceL (onceL b) = ((onceL b).filter fun p => decide (0 < p.2)).map (fun p => (p.1, 1)) from rfl, List.filter_eq_self.2 (fun p hp => by rw [h p hp]; rfl)]
  conv => rhs; rw [← List.map_id (onceL b)]
  exact List.map_congr_left fun p hp => by rw [← h p hp]; rfl
theorem once_times {b : List (List Int × Int)} (h : SB b) {k : Nat} (hk : k < b.length) : timesL (onceL b) (rx b k) = if 0 < nx b k then 1 else 0 := by
  by_cases e : 0 < nx b k
  · rw [if_pos e]
    have hm : (rx b k, (1 : Int)) ∈ onceL b := by
      unfold onceL
      refine List.mem_map.2 ⟨b[k], List.mem_filter.2 ⟨List.getElem_mem hk, ?_⟩, by rw [bag_ix hk]⟩
      rw [bag_ix hk]; simpa using e
    exact times_mem (once_sb h) _ hm
  · rw [if_neg e]
    refine timesL_zero fun p hp e2 => e ?_
    unfold onceL at hp
    obtain ⟨q, hq, rfl⟩ := List.mem_map.1 hp
    obtain ⟨h1, h2⟩ := List.mem_filter.1 hq
    have h3 := times_mem h q h1
    simp only at e2
    rw [e2, times_at h hk] at h3
    rw [h3]; simpa using h2
theorem once_ok {b : List (List Int × Int)} (h : bagOkB b = true) : bagOkB (onceL b) = true := by
  have h' := h
  unfold bagOkB at h
  rw [Bool.and_eq_true] at h
  have hl := of_decide_eq_true h.2
  have h1 := once_len b
  unfold bagOkB
  rw [Bool.and_eq_true]
  refine ⟨?_, decide_eq_true (by omega)⟩
  rw [ok_all (once_sb (bagOk_sb h').1) (fun q hq => by rw [once_ones b q hq]; omega) (fun q e => by cases e)]
  refine List.all_eq_true.2 fun p hp => ?_
  unfold onceL at hp
  obtain ⟨q, hq, rfl⟩ := List.mem_map.1 hp
  exact ok_rows h.1 q (List.mem_filter.1 hq).1
theorem once_law {b : List (List Int × Int)} (h : bagOkB b = true) : (∀ k, k < b.length → timesL (onceB b) (rx b k) = if 0 < nx b k then 1 else 0) ∧ isSetB (onceB b) = true ∧ onceB (onceB b) = onceB b := by
  have e : onceB b = onceL b := by unfold onceB; rw [h]; rfl
  rw [e]
  refine ⟨fun k hk => once_times (bagOk_sb h).1 hk, ?_, ?_⟩
  · unfold isSetB
    rw [once_ok h, Bool.and_true]
    exact List.all_eq_true.2 fun p hp => by rw [once_ones b p hp]; rfl
  · unfold onceB; rw [once_ok h, if_pos rfl, once_again]
theorem onceB_fits {m : Nat} {a : List (List Int × Int)} (h : ∀ j, j < a.length → (rx a j).length ≤ m) : (onceB a).length ≤ a.length ∧ ∀ j, j < (onceB a).length → (rx (onceB a) j).length ≤ m := by
  unfold onceB
  split
  · refine ⟨once_len a, rows_mem.2 fun p hp => ?_⟩
    unfold onceL at hp
    obtain ⟨q, hq, rfl⟩ := List.mem_map.1 hp
    exact rows_mem.1 h q (List.mem_filter.1 hq).1
  · exact ⟨Nat.zero_le _, fun j hj => absurd hj (by simp)⟩

theorem drawOnce_any (A : Option Addr) (cap : Nat) (zs : List Int) (w : World) (hU : U8s w w.heap.size A zs) (hl : zs.length ≤ 1048576) :
    Calls Try.prog 30 #[.slice A zs.length cap] w (DrawnB w) := by
  go_enter Try.func30, Try.ntmps30
  go_wp2_with fail
  refine (drawBagOk_any A cap zs _ hU hl).mono ?_
  rintro e w2 ⟨g, cp, bag, rfl, h⟩
  go_wp2
  go_ret
  exact ⟨g, cp, bag, rfl, h⟩

set_option maxRecDepth 100000 in
set_option maxHeartbeats 16000000 in
theorem walkFnOnce (a0 : Option Addr) (len0 cap0 : Nat) (z0 : List Int) (w : World) (w0 : IsRow .u8 w a0 len0 cap0 z0) :
    Calls Try.prog 7 #[.slice a0 len0 cap0] w fun e w' => e = .returned (.bool true) ∧ Below w.heap.size w w' := by
  obtain ⟨zs, rfl, hU, hm⟩ := isRow_u8 w0
  clear w0
  by_cases hbig : (4096 : Int) < (zs.length : Int)
  · have hd := decide_eq_true hbig
    have HD := Lib.hid hd
    clear hd hbig
    go_enter Try.func7, Try.ntmps7
    go_wp2_with fail
    refine (big_any a0 zs.length cap0 w).mono ?_
    rintro e w1 ⟨rfl, rfl⟩
    rw [HD.out]
    go_wp2
    go_ret
    exact ⟨rfl, Below.refl _ _⟩
  have hd := decide_eq_false hbig
  have HD := Lib.hid hd
  have hzl : zs.length ≤ 1048576 := by omega
  clear hd hbig hm
  go_enter Try.func7, Try.ntmps7
  go_wp2_with fail
  refine (big_any a0 zs.length cap0 w).mono ?_
  rintro e w1 ⟨rfl, rfl⟩
  rw [HD.out]
  clear HD
  go_wp2_with fail
  refine (drawOnce_any a0 cap0 zs w hU hzl).mono ?_
  rintro e w1 ⟨g, cap, b, rfl, hB1, hlb, hb1⟩
  obtain ⟨X, hX⟩ : ∃ X, onceB b = X := ⟨_, rfl⟩
  obtain ⟨hXl, hXr⟩ := onceB_fits hB1.le
  rw [hX] at hXl hXr
  have HX := Lib.hid hX
  have HXr := Lib.hid hXr
  have hXl2 : X.length ≤ 800 := by omega
  have HBr := Lib.hid hB1.le
  clear hX hXr hXl
  go_wp2_with fail
  refine ((implOnce_any _ _ b w1 hB1 (by omega)).mono fun _ _ h => OwnBag.b h).mono ?_
  rintro e w2 ⟨vd, esd, rfl, hOd, hed, hb2⟩
  rw [HX.out] at hed
  obtain ⟨Ax, capx, rfl⟩ := hOd.formW hed
  have hX2 := OBag.bagW hOd hed HXr.out
  have hB2 := hB1.on hb2
  have hb02 := bel_step hb1 hb2
  clear hed hOd hB1 hb1 hb2
  go_wp2_with fail
  refine ((specOnce_any _ _ b w2 hB2 (by omega)).mono fun _ _ h => OwnBag.b h).mono ?_
  rintro e w3 ⟨vd, esd, rfl, hOd, hed, hb3⟩
  rw [HX.out] at hed
  obtain ⟨Ay, capy, rfl⟩ := hOd.formW hed
  have hY3 := OBag.bagW hOd hed HXr.out
  have hX3 := hX2.on hb3
  have hB3 := hB2.on hb3
  have hb03 := bel_step hb02 hb3
  clear hed hOd hB2 hX2 hb02 hb3
  go_wp2_with fail
  refine (likeBag_any _ _ _ _ X X w3 hX3 hY3 (by omega) (by omega)).mono ?_
  rintro e w4 ⟨rfl, hb4⟩
  rw [decide_eq_true (rfl : X = X)]
  obtain ⟨n4, rfl⟩ := hb4
  have hX4 : Bag (w3.drewN n4) (w3.drewN n4).heap.size Ax X := hX3
  have hB4 : Bag (w3.drewN n4) (w3.drewN n4).heap.size (some ⟨g, 0, none⟩) b := hB3
  have hb04 := bel_drewN hb03 n4
  clear hX3 hB3 hY3 hb03
  generalize w3.drewN n4 = w4 at *
  go_wp2_with fail
  refine (specBagOk_any _ _ b w4 _ hB4 (by omega)).mono ?_
  rintro e w5 ⟨rfl, n5, rfl⟩
  have hX5 : Bag (w4.drewN n5) (w4.drewN n5).heap.size Ax X := hX4
  have hB5 : Bag (w4.drewN n5) (w4.drewN n5).heap.size (some ⟨g, 0, none⟩) b := hB4
  have hb05 := bel_drewN hb04 n5
  clear hX4 hB4 hb04
  generalize w4.drewN n5 = w5 at *
  cases hok : bagOkB b with
  | false =>
    have hXe : X.length = 0 := by rw [← HX.out]; unfold onceB; rw [hok]; rfl
    clear hok
    go_wp2
    go_ret
    exact ⟨rfl, hb05⟩
  | true =>
    obtain ⟨l1, l2, l3⟩ := once_law hok
    rw [HX.out] at l1 l2 l3
    have L1 := Lib.hid l1
    have L2 := Lib.hid l2
    have L3 := Lib.hid l3
    clear l1 l2 l3 hok
    go_wp2
    go_loopw [5] (fun i wr => ∃ k : Nat, k ≤ b.length ∧ i = .int .i64 k ∧ Below w5.heap.size w5 wr) (fun i _ => b.length - (intOf i).toNat)
    case atStart => exact ⟨0, Nat.zero_le _, rfl, Below.refl _ _⟩
    case round =>
      obtain ⟨k, hk, rfl, hW⟩ := hrel
      by_cases hlt : k < b.length
      · have hBr := hB5.on hW
        have hXr := hX5.on hW
        obtain ⟨bb, off, hbe, hbl, hc⟩ := hBr (by omega)
        injection hbe with hbe
        injection hbe with hbe1 hbe2 _
        subst hbe1 hbe2
        obtain ⟨Ar, car, c1, c2, h3, h4⟩ := hc k hlt
        clear hc
        have hk0 : (0 : Int) ≤ (k : Int) := Int.natCast_nonneg _
        have hk1 : (k : Int) < (b.length : Int) := by omega
        have ht := L1.out k hlt
        rw [Nat.zero_add] at c1 c2
        clear hBr
        by_cases hn : 0 < nx b k
        · rw [if_pos hn] at ht
          have hnd := decide_eq_true hn
          clear hn
          go_wp2_with fail
          go_quiet (first | (go_at_call 33; exact Calls.quiet_of (specTimesIn_any _ _ _ _ X (rx b k) _ wr.heap.size wr.heap.size (by exact hXr.drewN _) (by exact h3.drewN _) (by omega) h4)))
          have hW2 := bel_drewN hW nq
          clear hW hXr h3 c1 c2
          go_wp2
          go_roundw
          case rel => exact ⟨k + 1, by omega, by go_num, hW2⟩
          case measure => simp [intOf]; omega
        · rw [if_neg hn] at ht
          have hnd := decide_eq_false hn
          clear hn
          go_wp2_with fail
          go_quiet (first | (go_at_call 33; exact Calls.quiet_of (specTimesIn_any _ _ _ _ X (rx b k) _ wr.heap.size wr.heap.size (by exact hXr.drewN _) (by exact h3.drewN _) (by omega) h4)))
          have hW2 := bel_drewN hW nq
          clear hW hXr h3 c1 c2
          go_wp2
          go_roundw
          case rel => exact ⟨k + 1, by omega, by go_num, hW2⟩
          case measure => simp [intOf]; omega
      · have hd : decide (k < b.length) = false := by simpa using hlt
        have hX6 := hX5.on hW
        have hb06 := bel_step hb05 hW
        clear hX5 hB5 hb05 hW
        go_wp2_with fail
        refine (implIsSet_any _ _ X wr hX6 (by omega)).mono ?_
        rintro e w7 ⟨rfl, hb7⟩
        rw [L2.out]
        have hX7 := hX6.on hb7
        have hb07 := bel_step hb06 hb7
        clear hX6 hb06 hb7
        go_wp2_with fail
        refine ((implOnce_any _ _ X w7 hX7 (by omega)).mono fun _ _ h => OwnBag.b h).mono ?_
        rintro e w8 ⟨vd, esd, rfl, hOd, hed, hb8⟩
        rw [L3.out] at hed
        obtain ⟨Ay, capy, rfl⟩ := hOd.formW hed
        have hY8 := OBag.bagW hOd hed HXr.out
        have hX8 := hX7.on hb8
        have hb08 := bel_step hb07 hb8
        clear hed hOd hX7 hb07 hb8
        go_wp2_with fail
        refine (likeBag_any _ _ _ _ X X w8 hY8 hX8 (by omega) (by omega)).mono ?_
        rintro e w9 ⟨rfl, n9, rfl⟩
        rw [decide_eq_true (rfl : X = X)]
        go_wp2
        go_ret
        exact ⟨rfl, bel_drewN hb08 n9⟩
end Go.Proofs.Ytcfnbpofbcendaa
