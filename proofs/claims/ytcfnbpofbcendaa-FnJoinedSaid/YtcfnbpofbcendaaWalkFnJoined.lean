/- The walk of laws.FnJoined: it returns true, whatever the code; nothing that lay has turned. -/
import Derived.Test.YtcfnbpofbcendaaDrJon
import Derived.Test.YtcfnbpofbcendaaJonThy
import Derived.Test.YtcfnbpofbcendaaJon2
import Derived.Test.YtcfnbpofbcendaaMark3
namespace Go.Proofs.Ytcfnbpofbcendaa
open Go.RowKit

set_option maxRecDepth 100000 in
set_option maxHeartbeats 1000000 in
theorem places_any (A : Option Addr) (c : Nat) (bag : List (List Int × Int)) (p : Int) (w : World) (B : Nat) (hB : Bag w B A bag) (hl : bag.length ≤ 1099511627776) :
    Calls Try.prog 36 #[.slice A bag.length c, .int .i64 p] w fun e w' => e = .returned (.bool (hasB bag [p])) ∧ w = w' := by
  go_enter Try.func36, Try.ntmps36
  go_wp2
  go_loop [5] (fun i => ∃ k : Nat, k ≤ bag.length ∧ i = .int .i64 k ∧ ∀ j, j < k → placesB [p] (rx bag j).length = true) (fun i => bag.length - (intOf i).toNat)
  case atStart => exact ⟨0, Nat.zero_le _, rfl, fun j hj => absurd hj (by omega)⟩
  case round =>
    obtain ⟨k, hk, rfl, hj⟩ := hrel
    have HJ := Lib.hid hj
    clear hj
    by_cases hlt : k < bag.length
    · obtain ⟨b, off, rfl, _, hc⟩ := hB (by omega)
      obtain ⟨Ar, cap, h1, h2, h3, h4⟩ := hc k hlt
      clear hc h3 h2
      have hk0 : (0 : Int) ≤ (k : Int) := Int.natCast_nonneg _
      have hk1 : (k : Int) < (bag.length : Int) := by omega
      by_cases hp0 : p < 0
      · have HF := Lib.hid (has_no hlt (ps := [p]) (by simp [placesB, inB]; omega))
        go_wp2
        go_ret
        exact ⟨by rw [HF.out]; rfl, rfl⟩
      · by_cases hp1 : p < ((rx bag k).length : Int)
        · have HP := Lib.hid (show placesB [p] (rx bag k).length = true by simp [placesB, inB]; omega)
          have hn1 : ¬ ((rx bag k).length : Int) ≤ p := by omega
          go_wp2
          go_round
          case rel => exact ⟨k + 1, by omega, by go_num, fun j hj => by
            by_cases e : j = k
            · rw [e]; exact HP.out
            · exact HJ.out j (by omega)⟩
          case measure => simp [intOf]; omega
        · have HF := Lib.hid (has_no hlt (ps := [p]) (by simp [placesB, inB]; omega))
          have hn1 : ((rx bag k).length : Int) ≤ p := by omega
          go_wp2
          go_ret
          exact ⟨by rw [HF.out]; rfl, rfl⟩
    · have hd : decide (k < bag.length) = false := by simpa using hlt
      have HF := Lib.hid (has_yes (bag := bag) (ps := [p]) fun j hj => HJ.out j (by omega))
      go_wp2
      go_ret
      exact ⟨by rw [HF.out]; rfl, rfl⟩
theorem Bag.oneAt {w : World} {B : Nat} {g : Nat} {a : List (List Int × Int)} (h : Bag w B (some ⟨g, 0, none⟩) a) {i : Nat} (hi : i < a.length) : Bag w B (some ⟨g, i * 2, none⟩) (oneOf a i) := by
  intro _
  obtain ⟨b, off, e, hb, hc⟩ := h (by omega)
  injection e with e
  injection e with e1 e2 _
  subst e1 e2
  refine ⟨g, i * 2, rfl, hb, fun j hj => ?_⟩
  have hj0 : j = 0 := by simp [oneOf] at hj; omega
  subst hj0
  obtain ⟨Ar, cap, h1, h2, h3, h4⟩ := hc i hi
  rw [Nat.zero_add] at h1 h2
  exact ⟨Ar, cap, h1, h2, h3, h4⟩
theorem implJoined_one (A A' : Option Addr) (c c' : Nat) (a b : List (List Int × Int)) (i : Nat) (p q : Int) (w : World) (hA : Bag w w.heap.size A (oneOf a i)) (hB : Bag w w.heap.size A' b) (hlb : b.length ≤ 1099511627776) (hra : (rx a i).length ≤ 1073741824) (hrb : ∀ j, j < b.length → (rx b j).length ≤ 1073741824) :
    Calls Try.prog 17 #[.slice A 1 c, .slice A' b.length c', .int .i64 p, .int .i64 q] w (OwnBag w.heap.size (joinB (oneOf a i) b p q) w) :=
  implJoined_any A A' c c' (oneOf a i) b p q w hA hB (by simp [oneOf]) hlb (fun j hj => by
    have : j = 0 := by simp [oneOf] at hj; omega
    subst this
    exact hra) hrb

set_option maxRecDepth 100000 in
set_option maxHeartbeats 16000000 in
theorem walkFnJoined (a0 : Option Addr) (len0 cap0 : Nat) (z0 : List Int) (w : World) (w0 : IsRow .u8 w a0 len0 cap0 z0) :
    Calls Try.prog 8 #[.slice a0 len0 cap0] w fun e w' => e = .returned (.bool true) ∧ Below w.heap.size w w' := by
  obtain ⟨zs, rfl, hU, hm⟩ := isRow_u8 w0
  clear w0
  by_cases hbig : (4096 : Int) < (zs.length : Int)
  · have hd := decide_eq_true hbig
    have HD := Lib.hid hd
    clear hd hbig
    go_enter Try.func8, Try.ntmps8
    go_wp2_with fail
    refine (big_any a0 zs.length cap0 w).mono ?_
    rintro e w1 ⟨rfl, rfl⟩
    rw [HD.out]
    go_wp2
    go_ret
    exact ⟨rfl, Below.refl _ _⟩
  have hd := decide_eq_false hbig
  have HD := Lib.hid hd
  have hzl : zs.length ≤ 1048576 := by omega
  clear hd hbig hm
  go_enter Try.func8, Try.ntmps8
  go_wp2_with fail
  refine (big_any a0 zs.length cap0 w).mono ?_
  rintro e w1 ⟨rfl, rfl⟩
  rw [HD.out]
  clear HD
  go_wp2_with fail
  refine (drawJoined_any a0 cap0 zs w hU hzl).mono ?_
  rintro e w1 ⟨g, cap, a, g', cap', b, p, q, rfl, hA1, hca, hla, hB1, hlb, hra, hrb, hb1⟩
  have HRA := Lib.hid (show ∀ j, j < a.length → (rx a j).length ≤ 1073741824 from fun j hj => by have := hra a[j] (List.getElem_mem hj); rw [bag_ix hj] at this; simp only at this; omega)
  have HRB := Lib.hid (show ∀ j, j < b.length → (rx b j).length ≤ 1073741824 from fun j hj => by have := hrb b[j] (List.getElem_mem hj); rw [bag_ix hj] at this; simp only at this; omega)
  obtain ⟨X, hX⟩ : ∃ X, joinB a b p q = X := ⟨_, rfl⟩
  obtain ⟨hXl, hXr⟩ := join_fit (a := a) (b := b) (p := p) (q := q)
  rw [hX] at hXl hXr
  have HX := Lib.hid hX
  have HXr := Lib.hid (show ∀ j, j < X.length → (rx X j).length ≤ 1099511627776 from fun j hj => by have := hXr j hj; omega)
  clear hX hXr hra hrb
  go_wp2_with fail
  refine ((implJoined_any _ _ _ _ a b p q w1 hA1 hB1 (by omega) (by omega) HRA.out HRB.out).mono fun _ _ h => OwnBag.b h).mono ?_
  rintro e w2 ⟨vd, esd, rfl, hOd, hed, hb2⟩
  rw [HX.out] at hed
  obtain ⟨Ax, capx, rfl⟩ := hOd.formW hed
  have hX2 := OBag.bagW hOd hed HXr.out
  have hA2 := hA1.on hb2
  have hB2 := hB1.on hb2
  have hb02 := bel_step hb1 hb2
  clear hed hOd hA1 hB1 hb1 hb2
  go_wp2_with fail
  refine ((specJoined_any _ _ _ _ a b p q w2 hA2 hB2 (by omega) (by omega) HRA.out HRB.out).mono fun _ _ h => OwnBag.b h).mono ?_
  rintro e w3 ⟨vd, esd, rfl, hOd, hed, hb3⟩
  rw [HX.out] at hed
  obtain ⟨Ay, capy, rfl⟩ := hOd.formW hed
  have hY3 := OBag.bagW hOd hed HXr.out
  have hX3 := hX2.on hb3
  have hA3 := hA2.on hb3
  have hB3 := hB2.on hb3
  have hb03 := bel_step hb02 hb3
  clear hed hOd hA2 hB2 hX2 hb02 hb3
  go_wp2_with fail
  refine (likeBag_any _ _ _ _ X X w3 hX3 hY3 (by omega) (by omega)).mono ?_
  rintro e w4 ⟨rfl, n4, rfl⟩
  rw [decide_eq_true (rfl : X = X)]
  have hX4 : Bag (w3.drewN n4) (w3.drewN n4).heap.size Ax X := hX3
  have hA4 : Bag (w3.drewN n4) (w3.drewN n4).heap.size (some ⟨g, 0, none⟩) a := hA3
  have hB4 : Bag (w3.drewN n4) (w3.drewN n4).heap.size (some ⟨g', 0, none⟩) b := hB3
  have hb04 := bel_drewN hb03 n4
  clear hX3 hA3 hB3 hY3 hb03
  generalize w3.drewN n4 = w4 at *
  go_wp2_with fail
  refine (specBagOk_any _ _ a w4 _ hA4 (by omega)).mono ?_
  rintro e w5 ⟨rfl, n5, rfl⟩
  have hX5 : Bag (w4.drewN n5) (w4.drewN n5).heap.size Ax X := hX4
  have hA5 : Bag (w4.drewN n5) (w4.drewN n5).heap.size (some ⟨g, 0, none⟩) a := hA4
  have hB5 : Bag (w4.drewN n5) (w4.drewN n5).heap.size (some ⟨g', 0, none⟩) b := hB4
  have hb05 := bel_drewN hb04 n5
  clear hX4 hA4 hB4 hb04
  generalize w4.drewN n5 = w5 at *
  cases h1 : bagOkB a with
  | false =>
    have hXe : X.length = 0 := by rw [← HX.out, joinB_no (by unfold joinOk; rw [h1]; rfl)]; rfl
    clear h1
    go_wp2
    go_ret
    exact ⟨rfl, hb05⟩
  | true =>
  have H1 := Lib.hid h1
  clear h1
  go_wp2_with fail
  refine (specBagOk_any _ _ b w5 _ hB5 (by omega)).mono ?_
  rintro e w6 ⟨rfl, n6, rfl⟩
  have hX6 : Bag (w5.drewN n6) (w5.drewN n6).heap.size Ax X := hX5
  have hA6 : Bag (w5.drewN n6) (w5.drewN n6).heap.size (some ⟨g, 0, none⟩) a := hA5
  have hB6 : Bag (w5.drewN n6) (w5.drewN n6).heap.size (some ⟨g', 0, none⟩) b := hB5
  have hb06 := bel_drewN hb05 n6
  clear hX5 hA5 hB5 hb05
  generalize w5.drewN n6 = w6 at *
  cases h2 : bagOkB b with
  | false =>
    have hXe : X.length = 0 := by rw [← HX.out, joinB_no (by unfold joinOk; rw [H1.out, h2]; rfl)]; rfl
    clear h2
    go_wp2
    go_ret
    exact ⟨rfl, hb06⟩
  | true =>
  have H2 := Lib.hid h2
  clear h2
  go_wp2_with fail
  refine (places_any _ _ a p w6 _ hA6 (by omega)).mono ?_
  rintro e w7 ⟨rfl, rfl⟩
  cases h3 : hasB a [p] with
  | false =>
    have hXe : X.length = 0 := by rw [← HX.out, joinB_no (by unfold joinOk; rw [H1.out, H2.out, h3]; rfl)]; rfl
    clear h3
    go_wp2
    go_ret
    exact ⟨rfl, hb06⟩
  | true =>
  have H3 := Lib.hid h3
  clear h3
  go_wp2_with fail
  refine (places_any _ _ b q w6 _ hB6 (by omega)).mono ?_
  rintro e w7 ⟨rfl, rfl⟩
  cases h4 : hasB b [q] with
  | false =>
    have hXe : X.length = 0 := by rw [← HX.out, joinB_no (by unfold joinOk; rw [H1.out, H2.out, H3.out, h4]; rfl)]; rfl
    clear h4
    go_wp2
    go_ret
    exact ⟨rfl, hb06⟩
  | true =>
  have HOK := Lib.hid (show joinOk a b p q = true by unfold joinOk; rw [H1.out, H2.out, H3.out, h4]; rfl)
  clear h4
  go_wp2
  go_loop [8, 10] (fun s i => ∃ k : Nat, k ≤ X.length ∧ i = .int .i64 k ∧ s = .int .i64 (W64 (totL (X.take k)))) (fun _ i => X.length - (intOf i).toNat)
  case atStart => exact ⟨0, Nat.zero_le _, rfl, by rw [List.take_zero]; rw [show W64 (totL []) = 0 from W64_zero]⟩
  case round =>
    obtain ⟨k, hk, rfl, rfl⟩ := hrel
    by_cases hlt : k < X.length
    · obtain ⟨bx, ox, rfl, hbx, hc⟩ := hX6 (by omega)
      obtain ⟨Ar, car, c1, c2, h3, h4⟩ := hc k hlt
      clear hc h3 c1
      have hk0 : (0 : Int) ≤ (k : Int) := Int.natCast_nonneg _
      have hk1 : (k : Int) < (X.length : Int) := by omega
      have hs : W64 (totL (X.take (k + 1))) = addW (W64 (totL (X.take k))) (nx X k) := by rw [tot_step hlt, W64_add]
      have HS := Lib.hid hs
      have ha1 : IntKind.i64.wrap (W64 (totL (X.take k)) + nx X k) = addW (W64 (totL (X.take k))) (nx X k) := rfl
      have ha2 : wrap64 (W64 (totL (X.take k)) + nx X k) = addW (W64 (totL (X.take k))) (nx X k) := by unfold addW; rw [IntKind.wrap_i64, wrap64]
      clear hs
      go_wp2
      go_round
      case rel => exact ⟨k + 1, by omega, by go_num, by rw [HS.out]⟩
      case measure => simp [intOf]; omega
    · have hd : decide (k < X.length) = false := by simpa using hlt
      have hkX : k = X.length := by omega
      have HT := Lib.hid (show W64 (totL (X.take k)) = W64 (totL X) by rw [List.take_of_length_le (by omega)])
      rw [HT.out]
      clear hkX
      have hW64 : Hid (W64 (goneTo a b p q a.length) = W64 (totL X)) := by rw [← HX.out]; exact gone_all HOK.out
      generalize W64 (totL X) = ALL at *
      go_wp2
      go_loopw [9, 11] (fun s i wr => ∃ i' : Nat, i' ≤ a.length ∧ i = .int .i64 i' ∧ s = .int .i64 (W64 (goneTo a b p q i')) ∧ Below w6.heap.size w6 wr) (fun _ i _ => a.length - (intOf i).toNat)
      case atStart => exact ⟨0, Nat.zero_le _, rfl, by rw [show goneTo a b p q 0 = 0 from rfl, W64_zero], Below.refl _ _⟩
      case round =>
        obtain ⟨i, hi, rfl, rfl, hW⟩ := hrel
        by_cases hlt2 : i < a.length
        · have hi0 : (0 : Int) ≤ (i : Int) := Int.natCast_nonneg _
          have hi1 : (i : Int) < (a.length : Int) := by omega
          have hi2 : (i : Int) + 1 ≤ (cap : Int) := by omega
          have hi3 : (i : Int) ≤ (i : Int) + 1 := by omega
          have hAr := (hA6.on hW).oneAt hlt2
          have hBr := hB6.on hW
          obtain ⟨Y, hY⟩ : ∃ Y, joinB (oneOf a i) b p q = Y := ⟨_, rfl⟩
          obtain ⟨hYl, hYr⟩ := join_fit (a := oneOf a i) (b := b) (p := p) (q := q)
          rw [hY] at hYl hYr
          have HY := Lib.hid hY
          have HYr := Lib.hid (show ∀ j, j < Y.length → (rx Y j).length ≤ 1099511627776 from fun j hj => by have := hYr j hj; omega)
          clear hY hYr
          go_wp2_with fail
          refine ((implJoined_one _ _ _ _ a b i p q wr hAr hBr (by omega) (HRA.out i hlt2) HRB.out).mono fun _ _ h => OwnBag.b h).mono ?_
          rintro e w8 ⟨vd, esd, rfl, hOd, hed, hb8⟩
          rw [HY.out] at hed
          obtain ⟨Aq, capq, rfl⟩ := hOd.formW hed
          have hY8 := OBag.bagW hOd hed HYr.out
          have hW8 := bel_step hW hb8
          have hX8 := hX6.on hW8
          have HYE := Lib.hid (show Y = togL (inL (rx a i, nx a i) b p q) by rw [← HY.out]; exact one_join HOK.out hlt2)
          have HXY := Lib.hid (show a.length = 1 → X = Y from fun h => by
            have h0 : i = 0 := by omega
            rw [← HX.out, HYE.out, h0]; exact one_all HOK.out h)
          have HNZ := Lib.hid (show ∀ j, j < X.length → timesL X (rx X j) ≠ 0 from fun j hj => by
            have h1 := HX.out
            rw [← h1] at hj ⊢
            exact join_nz hj)
          clear hed hOd hW hb8 hAr hBr
          go_wp2
          go_loopw [9, 13] (fun s j wq => ∃ k2 : Nat, k2 ≤ Y.length ∧ j = .int .i64 k2 ∧ s = .int .i64 (W64 (goneTo a b p q i + totL (Y.take k2))) ∧ ∃ n, wq = w8.drewN n) (fun _ j _ => Y.length - (intOf j).toNat)
          case atStart => exact ⟨0, Nat.zero_le _, rfl, by rw [List.take_zero, show totL [] = 0 from rfl, Int.add_zero], 0, rfl⟩
          case round =>
            obtain ⟨k2, hk2, rfl, rfl, n8, rfl⟩ := hrel
            by_cases hlt3 : k2 < Y.length
            · have hY9 : Bag (w8.drewN n8) (w8.drewN n8).heap.size Aq Y := hY8
              have hX9 : Bag (w8.drewN n8) (w8.drewN n8).heap.size Ax X := hX8
              obtain ⟨by', oy, rfl, hby, hc⟩ := hY9 (by omega)
              obtain ⟨Ar, car, c1, c2, h3, h4⟩ := hc k2 hlt3
              clear hc
              have hk0 : (0 : Int) ≤ (k2 : Int) := Int.natCast_nonneg _
              have hk1 : (k2 : Int) < (Y.length : Int) := by omega
              have hs : W64 (goneTo a b p q i + totL (Y.take (k2 + 1))) = addW (W64 (goneTo a b p q i + totL (Y.take k2))) (nx Y k2) := by rw [tot_step hlt3, W64_add, Int.add_assoc]
              have HS := Lib.hid hs
              have ha1 : IntKind.i64.wrap (W64 (goneTo a b p q i + totL (Y.take k2)) + nx Y k2) = addW (W64 (goneTo a b p q i + totL (Y.take k2))) (nx Y k2) := rfl
              have ha2 : wrap64 (W64 (goneTo a b p q i + totL (Y.take k2)) + nx Y k2) = addW (W64 (goneTo a b p q i + totL (Y.take k2))) (nx Y k2) := by unfold addW; rw [IntKind.wrap_i64, wrap64]
              clear hs
              go_wp2_with fail
              refine (specTimesIn_any Ax Ar capx car X (rx Y k2) (w8.drewN n8) _ _ hX9 h3 (by omega) h4).mono ?_
              rintro e w10 ⟨rfl, n10, rfl⟩
              by_cases h1 : a.length = 1
              · have hxy := HXY.out h1
                have hnz : (timesL X (rx Y k2) == 0) = false := by
                  rw [beq_eq_false_iff_ne, ← hxy]
                  exact HNZ.out k2 (by rw [hxy]; exact hlt3)
                clear h1 hxy
                go_wp2
                go_roundw
                case rel => exact ⟨k2 + 1, by omega, by go_num, by rw [HS.out], n8 + n10, by simp⟩
                case measure => simp [intOf]; omega
              · have h1b : ((a.length : Int) == 1) = false := by rw [beq_eq_false_iff_ne]; omega
                have h1c : ¬ (a.length : Int) = 1 := by omega
                by_cases hz : timesL X (rx Y k2) = 0
                · have hzb : (timesL X (rx Y k2) == 0) = true := by simpa using hz
                  clear hz h1
                  go_wp2
                  go_roundw
                  case rel => exact ⟨k2 + 1, by omega, by go_num, by rw [HS.out], n8 + n10, by simp⟩
                  case measure => simp [intOf]; omega
                · have hzb : (timesL X (rx Y k2) == 0) = false := by simpa using hz
                  clear hz h1
                  go_wp2
                  go_roundw
                  case rel => exact ⟨k2 + 1, by omega, by go_num, by rw [HS.out], n8 + n10, by simp⟩
                  case measure => simp [intOf]; omega
            · have hd3 : decide (k2 < Y.length) = false := by simpa using hlt3
              have HG := Lib.hid (show W64 (goneTo a b p q i + totL (Y.take k2)) = W64 (goneTo a b p q (i + 1)) by
                rw [List.take_of_length_le (by omega), gone_step, HYE.out])
              have hW9 : Below w6.heap.size w6 (w8.drewN n8) := bel_drewN hW8 n8
              go_wp2
              go_roundw
              case rel => exact ⟨i + 1, by omega, by go_num, by rw [HG.out], hW9⟩
              case measure => simp [intOf]; omega
        · have hd2 : decide (i < a.length) = false := by simpa using hlt2
          have HG := Lib.hid (show W64 (goneTo a b p q i) = ALL by rw [show i = a.length by omega]; exact hW64.out)
          rw [HG.out]
          have hb0r := bel_step hb06 hW
          have heq : (ALL == ALL) = true := by simp
          go_wp2
          go_ret
          exact ⟨rfl, hb0r⟩
end Go.Proofs.Ytcfnbpofbcendaa
