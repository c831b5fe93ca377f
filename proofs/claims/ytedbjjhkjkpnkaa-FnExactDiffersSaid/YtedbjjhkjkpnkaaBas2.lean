/- Contracts of the program's BaseOk, and of the laws' copies, comparisons and sizes of bases; nothing that lay has turned. -/
import Derived.Test.YtedbjjhkjkpnkaaBas1
import Derived.Test.YtedbjjhkjkpnkaaJC
namespace Go.Proofs.Ytedbjjhkjkpnkaa
open Go.RowKit

set_option maxRecDepth 100000 in
set_option maxHeartbeats 4000000 in
theorem implBaseOk_any (A : Option Addr) (c : Nat) (ts : List TB) (w : World) (hT : Tabs w w.heap.size A ts) (hf : fitT 1048576 ts) (hl : ts.length ≤ 1048576) :
    Calls Try.prog 51 #[.slice A ts.length c] w fun e w' => e = .returned (.bool (baseB ts)) ∧ Below w.heap.size w w' := by
  have HFT := Lib.hid hf
  clear hf
  by_cases h4 : 4 < ts.length
  · have HF := Lib.hid (show baseB ts = false by unfold baseB; rw [decide_eq_false (p := ts.length ≤ 4) (by omega), Bool.and_false])
    have hd : (4 : Int) < (ts.length : Int) := by omega
    go_enter Try.func51, Try.ntmps51
    go_wp2
    go_ret
    exact ⟨by rw [HF.out]; rfl, Below.refl _ _⟩
  have hd4 : decide ((4 : Int) < (ts.length : Int)) = false := by simp; omega
  go_enter Try.func51, Try.ntmps51
  go_wp2
  go_loopw [10] (fun i wr => ∃ k : Nat, k ≤ ts.length ∧ i = .int .i64 k ∧ (List.range k).all (okAt ts) = true ∧ Below w.heap.size w wr) (fun i _ => ts.length - (intOf i).toNat)
  case atStart => exact ⟨0, Nat.zero_le _, rfl, rfl, Below.refl _ _⟩
  case round =>
    obtain ⟨k, hk, rfl, ht, hW⟩ := hrel
    have HT := Lib.hid ht
    have hTr := hT.on hW
    clear ht hT hd4
    by_cases hlt : k < ts.length
    · obtain ⟨b, off, Ar, cr, rfl, hb, c0, c1, c2, hR⟩ := hTr.here hlt
      obtain ⟨f1, f2, _⟩ := HFT.out k hlt
      have bc := (Below.refl wr.heap.size wr).alloc (Nat.le_refl _) (.cells #[.string (tx ts k).n, .int .i64 (tx ts k).wd, .slice Ar (tx ts k).rows.length cr] 28)
      have BX := Blk.new wr 28 #[.string (tx ts k).n, .int .i64 (tx ts k).wd, .slice Ar (tx ts k).rows.length cr]
      have hRb := hR.on bc
      have hTb := hTr.on bc
      clear hTr hR
      have hk0 : (0 : Int) ≤ (k : Int) := Int.natCast_nonneg _
      have hk1 : (k : Int) < (ts.length : Int) := by omega
      go_wp2_with fail
      generalize wr.alloc (.cells #[.string (tx ts k).n, .int .i64 (tx ts k).wd, .slice Ar (tx ts k).rows.length cr] 28) = wb at *
      refine (implTableOk_any (tx ts k).n (tx ts k).wd Ar cr (tx ts k).rows wb hRb (by omega) (by omega)).mono ?_
      rintro e w1 ⟨rfl, hb1⟩
      have BX1 := BX.on hb1
      have hT1 := hTb.on hb1
      have hW1 : Below w.heap.size w w1 := bel_step hW (bel_step bc hb1)
      have x0 := BX1.cell 0
      simp only [List.getElem?_toArray, List.getElem?_cons_zero] at x0
      clear bc BX hRb hTb hb1 BX1 hW c0 c1 c2
      generalize wr.heap.size = G at *
      cases hok : (tx ts k).ok with
      | false =>
        have HF := Lib.hid (base_no hlt (okAt_tab hok))
        rw [show tabB (tx ts k).n (tx ts k).wd (tx ts k).rows = false from hok]
        clear hok
        go_wp2
        go_ret
        exact ⟨by rw [HF.out]; rfl, hW1⟩
      | true =>
        rw [show tabB (tx ts k).n (tx ts k).wd (tx ts k).rows = true from hok]
        have HOK := Lib.hid hok
        clear hok
        by_cases h0 : 0 < k
        · obtain ⟨j0, hj0⟩ : ∃ j0 : Nat, k = j0 + 1 := ⟨k - 1, by omega⟩
          obtain ⟨b', off', Ap, cp, e1, _, p0, _⟩ := hT1.here (j := j0) (by omega)
          injection e1 with e1
          injection e1 with e1 e2 _
          subst e1 e2
          have hwr : IntKind.i64.wrap ((k : Int) - 1) = (j0 : Int) := by rw [IntKind.wrap_i64]; omega
          have hj0l : j0 < ts.length := by omega
          have HSt := Lib.hid (show okAt ts k = nlt (tx ts j0).n (tx ts k).n by unfold okAt; rw [HOK.out, decide_eq_false (by omega), show k - 1 = j0 by omega]; simp)
          have hcm := less_nlt (tx ts j0).n (tx ts k).n
          clear hj0
          cases hn : nlt (tx ts j0).n (tx ts k).n with
          | false =>
            rw [hn] at hcm
            have HF := Lib.hid (base_no hlt (HSt.out.trans hn))
            clear hn HSt
            go_wp2_with fail
            go_quiet (fail)
            go_wp2
            go_ret
            exact ⟨by rw [HF.out]; rfl, bel_drewN hW1 _⟩
          | true =>
            rw [hn] at hcm
            have HS := Lib.hid (show (List.range (k + 1)).all (okAt ts) = true by rw [okTo_succ, HT.out, HSt.out, hn]; rfl)
            clear hn HSt HT
            go_wp2_with fail
            go_quiet (fail)
            go_wp2
            go_roundw
            case rel => exact ⟨k + 1, by omega, by go_num, HS.out, bel_drewN hW1 _⟩
            case measure => simp [intOf]; omega
        · have hd0 : decide (0 < k) = false := by simpa using h0
          have HS := Lib.hid (show (List.range (k + 1)).all (okAt ts) = true by
            rw [okTo_succ, HT.out]
            unfold okAt
            rw [HOK.out, decide_eq_true (p := k = 0) (by omega)]; rfl)
          clear h0 HT
          go_wp2_with fail
          go_quiet (fail)
          go_wp2
          go_roundw
          case rel => exact ⟨k + 1, by omega, by go_num, HS.out, bel_drewN hW1 _⟩
          case measure => simp [intOf]; omega
    · have hd : decide (k < ts.length) = false := by simpa using hlt
      have HS := Lib.hid (show baseB ts = true by
        have := HT.out
        rw [show k = ts.length by omega] at this
        unfold baseB
        rw [this, decide_eq_true (by omega)]; rfl)
      go_wp2
      go_ret
      exact ⟨by rw [HS.out]; rfl, hW⟩

set_option maxRecDepth 100000 in
set_option maxHeartbeats 2000000 in
/-- Two bases alike: the laws' eqTableS says so. -/
theorem eqTableS_same (A A' : Option Addr) (c c' : Nat) (ts : List TB) (w : World) (hB : Tabs w w.heap.size A ts) (hB' : Tabs w w.heap.size A' ts) (hf : fitT 1048576 ts) (hl : ts.length ≤ 1099511627776) :
    Calls Try.prog 19 #[.slice A ts.length c, .slice A' ts.length c'] w fun e w' => e = .returned (.bool true) ∧ Below w.heap.size w w' := by
  have hb : ((ts.length : Int) != (ts.length : Int)) = false := by simp
  have HFT := Lib.hid hf
  clear hf
  go_enter Try.func19, Try.ntmps19
  go_wp2
  go_loopw [5] (fun i wr => ∃ k : Nat, k ≤ ts.length ∧ i = .int .i64 k ∧ Below w.heap.size w wr) (fun i _ => ts.length - (intOf i).toNat)
  case atStart => exact ⟨0, Nat.zero_le _, rfl, Below.refl _ _⟩
  case round =>
    obtain ⟨k, hk, rfl, hW⟩ := hrel
    have hBr := hB.on hW
    have hBr' := hB'.on hW
    clear hB hB' hb
    by_cases hlt : k < ts.length
    · obtain ⟨b, off, Ar, cr, rfl, _, h1, h2, h3, h4⟩ := hBr.here hlt
      obtain ⟨b', off', Ar', cr', rfl, _, h1', h2', h3', h4'⟩ := hBr'.here hlt
      obtain ⟨f1, f2, _⟩ := HFT.out k hlt
      go_wp2_with fail
      go_still_tail 8, (by kernel_rfl)
      change wpList _ _ _ _ _ wr.drew
      have hW2 : Below w.heap.size w wr.drew := bel_drewN hW 1
      have i3 : Rws wr.drew wr.drew.heap.size Ar (tx ts k).rows := h4
      have i3' : Rws wr.drew wr.drew.heap.size Ar' (tx ts k).rows := h4'
      clear h1 h2 h3 h1' h2' h3' h4 h4' hW hBr hBr'
      generalize wr.drew = wd at *
      go_wp2_with fail
      refine (eqTable_same (tx ts k).n (tx ts k).wd Ar Ar' cr cr' (tx ts k).rows wd i3 i3' (by omega)).mono ?_
      rintro e w1 ⟨rfl, hb1⟩
      have hW3 : Below w.heap.size w w1 := bel_step hW2 hb1
      go_wp2
      go_roundw
      case rel => exact ⟨k + 1, by omega, by go_num, hW3⟩
      case measure => simp [intOf]; omega
    · have hd : decide (k < ts.length) = false := by simpa using hlt
      go_wp2
      go_ret
      exact ⟨rfl, hW⟩

/-! ### sizes -/
/-- What is left of a size, to the number. -/
def SzE (m : Nat) (left : Int) (w : World) (e : Ending) (w' : World) : Prop := ∃ x, e = .returned (.int .i64 x) ∧ x ≤ left ∧ (0 ≤ x → x + (m : Int) = left) ∧ Below w.heap.size w w'
theorem szI_eq {n : Nat} {left : Int} (h : 0 ≤ szI n left) : szI n left + (n : Int) = left := by
  unfold szI at h ⊢
  split at h
  · omega
  · rename_i h2; rw [if_neg h2]; omega
set_option maxRecDepth 100000 in
set_option maxHeartbeats 2000000 in
theorem szInt64SS_sum (A : Option Addr) (c : Nat) (rows : List (List Int)) (left : Int) (w : World) (hB : RawRows w w.heap.size A rows) (hl : rows.length ≤ maxLen) (hz0 : 0 ≤ left) (hz1 : left ≤ 1048576) :
    Calls Try.prog 38 #[.slice A rows.length c, .int .i64 left] w (SzE (rows.length + rsum rows) left w) := by
  unfold maxLen at hl
  by_cases hbig : left < (rows.length : Int)
  · have hbn : left - (rows.length : Int) < 0 := by omega
    go_enter Try.func38, Try.ntmps38
    go_wp2
    go_ret
    exact ⟨-1, rfl, by omega, fun h => absurd h (by omega), Below.refl _ _⟩
  have hx2 : 0 ≤ left - (rows.length : Int) ∧ left - (rows.length : Int) ≤ 1048576 := by omega
  have hbn : decide (left - (rows.length : Int) < 0) = false := by simp; omega
  have hl2 : rows.length ≤ 1048576 := by omega
  clear hl
  go_enter Try.func38, Try.ntmps38
  go_wp2
  go_loop [1, 5] (fun l i => ∃ (k : Nat) (x : Int), k ≤ rows.length ∧ i = .int .i64 k ∧ l = .int .i64 x ∧ 0 ≤ x ∧ x + (rows.length : Int) + (rsum (rows.take k) : Int) = left) (fun _ i => rows.length - (intOf i).toNat)
  case atStart => exact ⟨0, _, Nat.zero_le _, rfl, rfl, by omega, by simp [rsum]⟩
  case round =>
    obtain ⟨k, x, hk, rfl, rfl, hx0, hx1⟩ := hrel
    have HR := Lib.hid hx1
    have hx3 : x ≤ 1048576 := by omega
    clear hx1 hbn hx2 hbig
    by_cases hlt : k < rows.length
    · obtain ⟨b, off, rfl, _, hc⟩ := hB (by omega)
      obtain ⟨Ar, cap, h1, h3, h4⟩ := hc k hlt
      clear hc
      go_wp2_with fail
      refine (szInt64S_any Ar (rr rows k).length cap x w h4 hx0 hx3).mono ?_
      rintro e w1 ⟨rfl, rfl⟩
      clear h1 h3
      by_cases hs : szI (rr rows k).length x < 0
      · rw [szI_no hs]
        clear hs
        go_wp2
        go_ret
        exact ⟨-1, rfl, by omega, fun h => absurd h (by omega), Below.refl _ _⟩
      · have hs0 : 0 ≤ szI (rr rows k).length x := by omega
        have HS := Lib.hid (show szI (rr rows k).length x + (rows.length : Int) + (rsum (rows.take (k + 1)) : Int) = left by
          have h1 := szI_eq hs0
          have h2 := HR.out
          rw [rsum_take hlt]; omega)
        generalize szI (rr rows k).length x = y at *
        go_wp2
        go_round
        case rel => exact ⟨k + 1, y, by omega, by go_num, rfl, hs0, HS.out⟩
        case measure => simp [intOf]; omega
    · have hd : decide (k < rows.length) = false := by simpa using hlt
      have HE := Lib.hid (show x + ((rows.length + rsum rows : Nat) : Int) = left by
        have := HR.out
        rw [List.take_of_length_le (by omega)] at this
        omega)
      go_wp2
      go_ret
      exact ⟨x, rfl, by have := HE.out; omega, fun _ => HE.out, Below.refl _ _⟩
set_option maxRecDepth 100000 in
set_option maxHeartbeats 2000000 in
theorem szTable_sum (s : ByteArray) (wd : Int) (A : Option Addr) (c : Nat) (rows : List (List Int)) (left : Int) (w : World) (hB : RawRows w w.heap.size A rows) (hs : s.size ≤ maxLen) (hl : rows.length ≤ maxLen) (hz0 : 0 ≤ left) (hz1 : left ≤ 1048576) :
    Calls Try.prog 6 #[.agg #[.string s, .int .i64 wd, .slice A rows.length c], .int .i64 left] w (SzE (s.size + rows.length + rsum rows) left w) := by
  unfold maxLen at hs
  have bc := (Below.refl w.heap.size w).alloc (Nat.le_refl _) (.cells #[.string s, .int .i64 wd, .slice A rows.length c] 24)
  have hBb := hB.on bc
  by_cases hbig : left < (s.size : Int)
  · have hbn : left - (s.size : Int) < 0 := by omega
    go_enter Try.func6, Try.ntmps6
    go_wp2
    go_ret
    exact ⟨-1, rfl, by omega, fun h => absurd h (by omega), bc⟩
  have hx2 : 0 ≤ left - (s.size : Int) ∧ left - (s.size : Int) ≤ 1048576 := by omega
  have hbn : decide (left - (s.size : Int) < 0) = false := by simp; omega
  go_enter Try.func6, Try.ntmps6
  go_wp2_with fail
  generalize w.alloc (.cells #[.string s, .int .i64 wd, .slice A rows.length c] 24) = wb at *
  refine (szInt64SS_sum A c rows (left - (s.size : Int)) wb hBb hl hx2.1 hx2.2).mono ?_
  rintro e w1 ⟨x, rfl, hx1, hx, hb1⟩
  have HX := Lib.hid hx
  have hW := bel_step bc hb1
  clear hx hB hBb hbn bc hb1
  by_cases h0 : x < 0
  · go_wp2
    go_ret
    exact ⟨-1, rfl, by omega, fun h => absurd h (by omega), hW⟩
  · have hx0 : 0 ≤ x := by omega
    go_wp2
    go_ret
    exact ⟨x, rfl, by omega, fun h => by have := HX.out h; omega, hW⟩
set_option maxRecDepth 100000 in
set_option maxHeartbeats 2000000 in
theorem szTableS_sum (A : Option Addr) (c : Nat) (ts : List TB) (left : Int) (w : World) (hB : RawTabs w w.heap.size A ts) (hl : ts.length ≤ maxLen) (hz0 : 0 ≤ left) (hz1 : left ≤ 1048576) :
    Calls Try.prog 15 #[.slice A ts.length c, .int .i64 left] w (SzE (ts.length + twS ts) left w) := by
  unfold maxLen at hl
  by_cases hbig : left < (ts.length : Int)
  · have hbn : left - (ts.length : Int) < 0 := by omega
    go_enter Try.func15, Try.ntmps15
    go_wp2
    go_ret
    exact ⟨-1, rfl, by omega, fun h => absurd h (by omega), Below.refl _ _⟩
  have hx2 : 0 ≤ left - (ts.length : Int) ∧ left - (ts.length : Int) ≤ 1048576 := by omega
  have hbn : decide (left - (ts.length : Int) < 0) = false := by simp; omega
  have hl2 : ts.length ≤ 1048576 := by omega
  clear hl
  go_enter Try.func15, Try.ntmps15
  go_wp2
  go_loopw [1, 5] (fun l i wr => ∃ (k : Nat) (x : Int), k ≤ ts.length ∧ i = .int .i64 k ∧ l = .int .i64 x ∧ 0 ≤ x ∧ x + (ts.length : Int) + (twS (ts.take k) : Int) = left ∧ Below w.heap.size w wr) (fun _ i _ => ts.length - (intOf i).toNat)
  case atStart => exact ⟨0, _, Nat.zero_le _, rfl, rfl, by omega, by simp [twS], Below.refl _ _⟩
  case round =>
    obtain ⟨k, x, hk, rfl, rfl, hx0, hx1, hW⟩ := hrel
    have HR := Lib.hid hx1
    have hx3 : x ≤ 1048576 := by omega
    have hBr := hB.on hW
    clear hx1 hbn hx2 hbig hB
    by_cases hlt : k < ts.length
    · obtain ⟨b, off, rfl, _, hc⟩ := hBr (by omega)
      obtain ⟨Ar, cr, c0, c1, c2, hR, hrl, hnl⟩ := hc k hlt
      clear hc
      go_wp2_with fail
      refine (szTable_sum (tx ts k).n (tx ts k).wd Ar cr (tx ts k).rows x wr hR hnl hrl hx0 hx3).mono ?_
      rintro e w1 ⟨y, rfl, hy1, hy, hb1⟩
      have HY := Lib.hid hy
      have hW1 := bel_step hW hb1
      clear c0 c1 c2 hy hR hb1 hW hBr
      by_cases hs : y < 0
      · go_wp2
        go_ret
        exact ⟨-1, rfl, by omega, fun h => absurd h (by omega), hW1⟩
      · have hs0 : 0 ≤ y := by omega
        have HS := Lib.hid (show y + (ts.length : Int) + (twS (ts.take (k + 1)) : Int) = left by
          have h1 := HY.out hs0
          have h2 := HR.out
          rw [twS_take hlt]
          unfold tw
          omega)
        clear HY
        go_wp2
        go_roundw
        case rel => exact ⟨k + 1, y, by omega, by go_num, rfl, hs0, HS.out, hW1⟩
        case measure => simp [intOf]; omega
    · have hd : decide (k < ts.length) = false := by simpa using hlt
      have HE := Lib.hid (show x + ((ts.length + twS ts : Nat) : Int) = left by
        have := HR.out
        rw [List.take_of_length_le (by omega)] at this
        omega)
      go_wp2
      go_ret
      exact ⟨x, rfl, by have := HE.out; omega, fun _ => HE.out, hW⟩
end Go.Proofs.Ytedbjjhkjkpnkaa
