/- Contracts of the program's reading functions over bags: slices.Equal at rows, timesOk, TimesIn, BagOk. Each says what the call returns; nothing that lay has turned. For bags and rows of at most 2^40. -/
import Derived.Test.YtoncfodlffofdaaBag3
namespace Go.Proofs.Ytoncfodlffofdaa
open Go.RowKit

set_option maxHeartbeats 1000000 in
theorem slicesEqual_any (A A' : Option Addr) (c c' : Nat) (zs ys : List Int) (w : World) (B B' : Nat) (hI : Ints w B A zs) (hI' : Ints w B' A' ys) (hl : zs.length ≤ 1099511627776) (hl' : ys.length ≤ 1099511627776) :
    Calls Try.prog 98 #[.slice A zs.length c, .slice A' ys.length c'] w fun e w' => e = .returned (.bool (decide (zs = ys))) ∧ ∃ n, w' = w.drewN n := by
  by_cases hne : zs.length = ys.length
  · have hb : ((zs.length : Int) != (ys.length : Int)) = false := by simp [hne]
    have HN := Lib.hid hne
    clear hne
    go_enter Try.func98, Try.ntmps98
    go_wp2
    go_loopw [13] (fun i wr => ∃ k : Nat, k ≤ zs.length ∧ i = .int .i64 k ∧ zs.take k = ys.take k ∧ ∃ n, wr = w.drewN n) (fun i _ => zs.length - (intOf i).toNat)
    case atStart => exact ⟨0, Nat.zero_le _, rfl, by simp, 0, rfl⟩
    case round =>
      obtain ⟨k, hk, rfl, ht, n, rfl⟩ := hrel
      have HT := Lib.hid ht
      clear ht hb
      by_cases hlt : k < zs.length
      · have hlt' : k < ys.length := by have := HN.out; omega
        obtain ⟨b, off, rfl, _, hc⟩ := hI (by omega)
        obtain ⟨b', off', rfl, _, hc'⟩ := hI' (by omega)
        have hck := hc k hlt
        have hck' := hc' k hlt'
        clear hc hc'
        by_cases he : ix zs k = ix ys k
        · have hbe : (ix zs k != ix ys k) = false := by simp [he]
          have HE := Lib.hid he
          clear he
          go_wp2
          go_quiet (fail)
          go_wp2
          go_roundw
          case rel => exact ⟨k + 1, by omega, by go_num, take_ext zs ys k hlt hlt' HT.out HE.out, _, rfl⟩
          case measure => simp [intOf]; omega
        · have hbe : (ix zs k != ix ys k) = true := by simp [he]
          have HE := Lib.hid he
          clear he
          go_wp2
          go_quiet (fail)
          go_wp2
          go_ret
          exact ⟨ret_bool (by rw [decide_eq_false]; intro h; subst h; exact HE.out rfl), n + nq, by rw [World.drewN_drewN]⟩
      · go_wp2
        go_ret
        refine ⟨ret_bool ?_, _, rfl⟩
        have h1 := HT.out
        rw [List.take_of_length_le (by omega), List.take_of_length_le (by have := HN.out; omega)] at h1
        rw [decide_eq_true h1]
  · have hb : ((zs.length : Int) != (ys.length : Int)) = true := by simp; omega
    have HN := Lib.hid hne
    clear hne
    go_enter Try.func98, Try.ntmps98
    go_wp2
    go_ret
    exact ⟨ret_bool (by rw [decide_eq_false]; intro h; subst h; exact HN.out rfl), 0, rfl⟩

theorem timesOk_any (x : Int) (w : World) :
    Calls Try.prog 95 #[.int .i64 x] w fun e w' => e = .returned (.bool (inB x (-1000000) 1000000)) ∧ w = w' := by
  unfold inB
  by_cases h1 : -1000000 ≤ x
  all_goals
    go_enter Try.func95, Try.ntmps95
    go_wp2
    go_ret
    exact ⟨ret_bool (by first | (rw [decide_eq_true (by omega : -1000000 ≤ x)]; simp) | (rw [decide_eq_false (by omega : ¬ -1000000 ≤ x)]; simp)), rfl⟩
theorem timesOk_yes (x : Int) (w : World) (h : inB x (-1000000) 1000000 = true) : Calls Try.prog 95 #[.int .i64 x] w fun e w' => e = .returned (.bool true) ∧ w = w' := by rw [← h]; exact timesOk_any x w
theorem timesOk_no (x : Int) (w : World) (h : inB x (-1000000) 1000000 = false) : Calls Try.prog 95 #[.int .i64 x] w fun e w' => e = .returned (.bool false) ∧ w = w' := by rw [← h]; exact timesOk_any x w

set_option maxRecDepth 100000 in
set_option maxHeartbeats 1000000 in
theorem implTimesIn_any (A A' : Option Addr) (c c' : Nat) (bag : List (List Int × Int)) (row : List Int) (w : World) (hB : Bag w w.heap.size A bag) (hI : Ints w w.heap.size A' row) (hl : bag.length ≤ 1099511627776) (hl' : row.length ≤ 1099511627776) :
    Calls Try.prog 33 #[.slice A bag.length c, .slice A' row.length c'] w fun e w' => e = .returned (.int .i64 (timesL bag row)) ∧ Below w.heap.size w w' := by
  go_enter Try.func33, Try.ntmps33
  go_wp2
  go_loopw [9] (fun i wr => ∃ k : Nat, k ≤ bag.length ∧ i = .int .i64 k ∧ timesL bag row = timesL (bag.drop k) row ∧ Below w.heap.size w wr) (fun i _ => bag.length - (intOf i).toNat)
  case atStart => exact ⟨0, Nat.zero_le _, rfl, rfl, Below.refl _ _⟩
  case round =>
    obtain ⟨k, hk, rfl, ht, hW⟩ := hrel
    have HT := Lib.hid ht
    clear ht
    by_cases hlt : k < bag.length
    · obtain ⟨b, off, rfl, _, hc⟩ := hB.on hW (by omega)
      obtain ⟨Ar, cap, h1, h2, h3, h4⟩ := hc k hlt
      clear hc
      have hIr := hI.on hW
      have bc := (Below.refl wr.heap.size wr).alloc (Nat.le_refl _) (.cells #[.slice Ar (rx bag k).length cap, .int .i64 (nx bag k)] 34)
      have BC := Blk.new wr 34 #[.slice Ar (rx bag k).length cap, .int .i64 (nx bag k)]
      go_wp2_with fail
      generalize wr.alloc (.cells #[.slice Ar (rx bag k).length cap, .int .i64 (nx bag k)] 34) = wa at *
      refine (slicesEqual_any Ar A' cap c' (rx bag k) row wa _ _ (h3.on bc) (hIr.on bc) h4 hl').mono ?_
      rintro e w1 ⟨rfl, n1, rfl⟩
      have hW1 := bel_drewN (bel_step hW bc) n1
      have c1 : (wa.drewN n1).cell? ⟨wr.heap.size, 1, none⟩ = some (.int .i64 (nx bag k)) := (BC.drewN n1).cell 1
      clear h1 h2 h3 hIr BC bc hW
      generalize wa.drewN n1 = wb at *
      by_cases he : rx bag k = row
      · rw [decide_eq_true he]
        have HE := Lib.hid he
        clear he
        go_wp2
        go_ret
        exact ⟨ret_int (by rw [HT.out, times_yes hlt HE.out]), hW1⟩
      · rw [decide_eq_false he]
        have HE := Lib.hid he
        clear he
        go_wp2
        go_roundw
        case rel => exact ⟨k + 1, by omega, by go_num, by rw [HT.out, times_no hlt HE.out], hW1⟩
        case measure => simp [intOf]; omega
    · have hd : decide (k < bag.length) = false := by simpa using hlt
      go_wp2
      go_ret
      refine ⟨ret_int ?_, hW⟩
      rw [HT.out, List.drop_of_length_le (by omega)]; rfl

theorem implRowLess_yes (A A' : Option Addr) (cap cap' : Nat) (zs ys : List Int) (hl : zs.length ≤ 1099511627776) (hl' : ys.length ≤ 1099511627776) (w : World) (hI : Ints w w.heap.size A zs) (hI' : Ints w w.heap.size A' ys) (h : lessB zs ys = true) :
    Calls Try.prog 69 #[.slice A zs.length cap, .slice A' ys.length cap'] w fun e W' => e = .returned (.bool true) ∧ Below w.heap.size w W' := by rw [← h]; exact implRowLess_any A A' cap cap' zs ys hl hl' w hI hI'
theorem implRowLess_no (A A' : Option Addr) (cap cap' : Nat) (zs ys : List Int) (hl : zs.length ≤ 1099511627776) (hl' : ys.length ≤ 1099511627776) (w : World) (hI : Ints w w.heap.size A zs) (hI' : Ints w w.heap.size A' ys) (h : lessB zs ys = false) :
    Calls Try.prog 69 #[.slice A zs.length cap, .slice A' ys.length cap'] w fun e W' => e = .returned (.bool false) ∧ Below w.heap.size w W' := by rw [← h]; exact implRowLess_any A A' cap cap' zs ys hl hl' w hI hI'

theorem bag_long {bag : List (List Int × Int)} (h : ¬ bag.length ≤ 300) : bagOkB bag = false := by unfold bagOkB; rw [decide_eq_false h]; simp
set_option maxRecDepth 100000 in
set_option maxHeartbeats 4000000 in
theorem implBagOk_any (A : Option Addr) (c : Nat) (bag : List (List Int × Int)) (w : World) (hB : Bag w w.heap.size A bag) (hl : bag.length ≤ 1099511627776) :
    Calls Try.prog 76 #[.slice A bag.length c] w fun e w' => e = .returned (.bool (bagOkB bag)) ∧ Below w.heap.size w w' := by
  by_cases hbig : (300 : Int) < bag.length
  · go_enter Try.func76, Try.ntmps76
    go_wp2
    go_ret
    exact ⟨ret_bool (bag_long (by omega)).symm, Below.refl _ _⟩
  have hbd : decide ((300 : Int) < bag.length) = false := by simpa using hbig
  have hl3 : bag.length ≤ 300 := by omega
  clear hbig
  go_enter Try.func76, Try.ntmps76
  go_wp2
  clear hbd
  go_loopw [10] (fun i wr => ∃ k : Nat, k ≤ bag.length ∧ i = .int .i64 k ∧ okFrom none bag = okFrom (prevRow bag k) (bag.drop k) ∧ Below w.heap.size w wr) (fun i _ => bag.length - (intOf i).toNat)
  case atStart => exact ⟨0, Nat.zero_le _, rfl, rfl, Below.refl _ _⟩
  case round =>
    obtain ⟨k, hk, rfl, ht, hW⟩ := hrel
    have HT := Lib.hid ht
    clear ht
    by_cases hlt : k < bag.length
    · have hBr := hB.on hW
      obtain ⟨b, off, rfl, _, hc⟩ := hB.on hW (by omega)
      obtain ⟨Ar, cap, h1, h2, h3, h4⟩ := hc k hlt
      clear hc
      have bc := (Below.refl wr.heap.size wr).alloc (Nat.le_refl _) (.cells #[.slice Ar (rx bag k).length cap, .int .i64 (nx bag k)] 34)
      have BC := Blk.new wr 34 #[.slice Ar (rx bag k).length cap, .int .i64 (nx bag k)]
      go_wp2_with fail
      generalize wr.alloc (.cells #[.slice Ar (rx bag k).length cap, .int .i64 (nx bag k)] 34) = wa at *
      refine (implRowOk_any Ar cap (rx bag k) h4 wa (h3.on bc)).mono ?_
      rintro e w1 ⟨rfl, hb1⟩
      have hW1 := bel_step (bel_step hW bc) hb1
      have hBC1 := BC.below hb1 BC.lt
      have hB1 := (hBr.on bc).on hb1
      have h31 := (h3.on bc).on hb1
      have c0 : w1.cell? ⟨wr.heap.size, 0, none⟩ = some (.slice Ar (rx bag k).length cap) := hBC1.cell 0
      have c1 : w1.cell? ⟨wr.heap.size, 1, none⟩ = some (.int .i64 (nx bag k)) := hBC1.cell 1
      clear h1 h2 h3 BC bc hW hb1 hBr hB
      cases hr : rowOkB (rx bag k) with
      | false =>
        have HR := Lib.hid hr
        clear hr
        go_wp2
        go_ret
        exact ⟨ret_bool (by rw [bag_not]; rw [HT.out, ok_step hlt, HR.out]; rfl), hW1⟩
      | true =>
        have HR := Lib.hid hr
        clear hr
        cases hz : nx bag k == 0 with
        | true =>
          go_wp2
          go_ret
          exact ⟨ret_bool (by rw [bag_not]; rw [HT.out, ok_step hlt, HR.out, bne, hz]; rfl), hW1⟩
        | false =>
          go_wp2_with fail
          refine (timesOk_any (nx bag k) w1).mono ?_
          rintro e w2 ⟨rfl, rfl⟩
          cases hn : inB (nx bag k) (-1000000) 1000000 with
          | false =>
            have HN := Lib.hid hn
            clear hn
            go_wp2
            go_ret
            exact ⟨ret_bool (by rw [bag_not]; rw [HT.out, ok_step hlt, HR.out, bne, hz, HN.out]; rfl), hW1⟩
          | true =>
            have HN := Lib.hid hn
            clear hn
            by_cases h0 : 0 < k
            · obtain ⟨k0, hk0⟩ : ∃ k0 : Nat, k = k0 + 1 := ⟨k - 1, by omega⟩
              obtain ⟨b', off', hbb, _, hc⟩ := hB1 (by omega)
              obtain ⟨rfl, rfl⟩ : b' = b ∧ off' = off := by simpa [eq_comm] using hbb
              obtain ⟨Ap, capp, p1, p2, p3, p4⟩ := hc k0 (by omega)
              clear hc
              have hwr : IntKind.i64.wrap ((k : Int) - 1) = (k0 : Int) := by rw [IntKind.wrap_i64]; omega
              have hk0l : k0 < bag.length := by omega
              have hpr : prevRow bag k = some (rx bag k0) := by rw [hk0]; rfl
              have HPR := Lib.hid hpr
              clear hpr hk0 p2
              go_wp2_with fail
              go_still_tail 11, (by kernel_rfl)
              change wpList _ _ _ _ _ w1.drew
              have hW2 : Below w.heap.size w w1.drew := bel_drewN hW1 1
              have i3 : Ints w1.drew w1.drew.heap.size Ar (rx bag k) := h31
              have i3' : Ints w1.drew w1.drew.heap.size Ap (rx bag k0) := p3
              clear p1 c0 c1 h31 p3 hW1 hBC1 hB1
              generalize w1.drew = wd at *
              go_wp2_with fail
              refine (implRowLess_any Ap Ar capp cap (rx bag k0) (rx bag k) p4 h4 wd i3' i3).mono ?_
              rintro e w3 ⟨rfl, hb3⟩
              have hW3 := bel_step hW2 hb3
              clear hW2 i3 i3' hb3
              cases hls : lessB (rx bag k0) (rx bag k) with
              | false =>
                have HL := Lib.hid hls
                clear hls
                go_wp2
                go_ret
                exact ⟨ret_bool (by rw [bag_not]; rw [HT.out, ok_step hlt, HR.out, bne, hz, HN.out, HPR.out]; simp only [HL.out]; rfl), hW3⟩
              | true =>
                have HL := Lib.hid hls
                clear hls
                go_wp2
                go_roundw
                case rel => exact ⟨k + 1, by omega, by go_num, by rw [HT.out, ok_step hlt, HR.out, bne, hz, HN.out, HPR.out]; simp only [HL.out]; rfl, hW3⟩
                case measure => simp [intOf]; omega
            · have hd0 : decide (0 < k) = false := by simpa using h0
              have hpr : prevRow bag k = none := by rw [show k = 0 by omega]; rfl
              have HPR := Lib.hid hpr
              have H0 := Lib.hid h0
              clear hpr h0
              go_wp2_with fail
              go_quiet (fail)
              go_wp2
              go_roundw
              case rel => exact ⟨k + 1, by omega, by go_num, by rw [HT.out, ok_step hlt, HR.out, bne, hz, HN.out, HPR.out]; rfl, bel_drewN hW1 _⟩
              case measure => simp [intOf]; omega
    · have hd : decide (k < bag.length) = false := by simpa using hlt
      go_wp2
      go_ret
      refine ⟨ret_bool ?_, hW⟩
      unfold bagOkB
      rw [HT.out, List.drop_of_length_le (by omega)]
      have e : okFrom (prevRow bag k) [] = true := by cases prevRow bag k <;> rfl
      rw [e, Bool.true_and, decide_eq_true hl3]
end Go.Proofs.Ytoncfodlffofdaa
