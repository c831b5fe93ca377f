/- Contracts of the laws' comparison of bags: whether they are the same; nothing that lay has turned. For bags and rows of at most 2^40. -/
import Derived.Test.YtoncfodlffofdaaBag1
import Derived.StillTailTactics
namespace Go.Proofs.Ytoncfodlffofdaa
open Go.RowKit

/-- Blocks that the call makes and forgets: the world stands behind the first one. -/
theorem bel_two {w : World} (o o' : Obj) : Below w.heap.size w ((w.alloc o).alloc o') := ((Below.refl _ _).alloc (Nat.le_refl _) o).alloc (by simp) o'
set_option maxHeartbeats 1000000 in
theorem eqCount_any (A A' : Option Addr) (c c' : Nat) (zs ys : List Int) (n m : Int) (w : World) (hI : Ints w w.heap.size A zs) (hI' : Ints w w.heap.size A' ys) (hl : zs.length ≤ 1099511627776) (hl' : ys.length ≤ 1099511627776) :
    Calls Try.prog 137 #[.agg #[.slice A zs.length c, .int .i64 n], .agg #[.slice A' ys.length c', .int .i64 m]] w fun e w' => e = .returned (.bool (decide ((zs, n) = (ys, m)))) ∧ Below w.heap.size w w' := by
  have hb2 := bel_two (w := w) (.cells #[.slice A zs.length c, .int .i64 n] 34) (.cells #[.slice A' ys.length c', .int .i64 m] 34)
  have B1 := (Blk.new w 34 #[.slice A zs.length c, .int .i64 n]).alloc (.cells #[.slice A' ys.length c', .int .i64 m] 34)
  have B2 := Blk.new (w.alloc (.cells #[.slice A zs.length c, .int .i64 n] 34)) 34 #[.slice A' ys.length c', .int .i64 m]
  rw [show (w.alloc (.cells #[.slice A zs.length c, .int .i64 n] 34)).heap.size = w.heap.size + 1 by simp] at B2
  go_enter Try.func137, Try.ntmps137
  go_wp2_with fail
  generalize ((w.alloc (.cells #[.slice A zs.length c, .int .i64 n] 34)).alloc (.cells #[.slice A' ys.length c', .int .i64 m] 34)) = w2 at *
  refine (eqInt64S_any A A' c c' zs ys w2 w.heap.size w.heap.size (hI.below hb2) (hI'.below hb2) hl hl').mono ?_
  rintro e w1 ⟨rfl, n1, rfl⟩
  have hb3 := bel_drewN hb2 n1
  have c1 : (w2.drewN n1).cell? ⟨w.heap.size, 1, none⟩ = some (.int .i64 n) := (B1.drewN n1).cell 1
  have c2 : (w2.drewN n1).cell? ⟨w.heap.size + 1, 1, none⟩ = some (.int .i64 m) := (B2.drewN n1).cell 1
  clear B1 B2 hb2
  generalize w2.drewN n1 = w3 at *
  by_cases he : zs = ys
  · rw [decide_eq_true he]
    have HE := Lib.hid he
    clear he
    by_cases hn : n = m
    · have hb : (n != m) = false := by simp [hn]
      have HN := Lib.hid hn
      clear hn
      go_wp2
      go_ret
      exact ⟨ret_bool (by rw [decide_eq_true (by rw [HE.out, HN.out])]), hb3⟩
    · have hb : (n != m) = true := by simp [hn]
      have HN := Lib.hid hn
      clear hn
      go_wp2
      go_ret
      exact ⟨ret_bool (by rw [decide_eq_false (fun h => HN.out (Prod.mk.inj h).2)]), hb3⟩
  · rw [decide_eq_false he]
    have HE := Lib.hid he
    clear he
    go_wp2
    go_ret
    exact ⟨ret_bool (by rw [decide_eq_false (fun h => HE.out (Prod.mk.inj h).1)]), hb3⟩
theorem bag_ix {bag : List (List Int × Int)} {k : Nat} (h : k < bag.length) : bag[k] = (rx bag k, nx bag k) := by simp [rx, nx, h]
theorem bag_take_ext {b1 b2 : List (List Int × Int)} {k : Nat} (h : k < b1.length) (h' : k < b2.length) (ht : b1.take k = b2.take k) (e : (rx b1 k, nx b1 k) = (rx b2 k, nx b2 k)) : b1.take (k + 1) = b2.take (k + 1) := by
  rw [List.take_succ_eq_append_getElem h, List.take_succ_eq_append_getElem h', ht, bag_ix h, bag_ix h', e]

set_option maxRecDepth 100000 in
set_option maxHeartbeats 2000000 in
theorem eqCountS_any (A A' : Option Addr) (c c' : Nat) (b1 b2 : List (List Int × Int)) (w : World) (hB : Bag w w.heap.size A b1) (hB' : Bag w w.heap.size A' b2) (hl : b1.length ≤ 1099511627776) (hl' : b2.length ≤ 1099511627776) :
    Calls Try.prog 77 #[.slice A b1.length c, .slice A' b2.length c'] w fun e w' => e = .returned (.bool (decide (b1 = b2))) ∧ Below w.heap.size w w' := by
  by_cases hne : b1.length = b2.length
  · have hb : ((b1.length : Int) != (b2.length : Int)) = false := by simp [hne]
    have HN := Lib.hid hne
    clear hne
    go_enter Try.func77, Try.ntmps77
    go_wp2
    go_loopw [5] (fun i wr => ∃ k : Nat, k ≤ b1.length ∧ i = .int .i64 k ∧ b1.take k = b2.take k ∧ Below w.heap.size w wr) (fun i _ => b1.length - (intOf i).toNat)
    case atStart => exact ⟨0, Nat.zero_le _, rfl, by simp, Below.refl _ _⟩
    case round =>
      obtain ⟨k, hk, rfl, ht, hW⟩ := hrel
      have hBr := hB.on hW
      have hBr' := hB'.on hW
      have HT := Lib.hid ht
      clear hB hB' ht hb
      by_cases hlt : k < b1.length
      · have hlt' : k < b2.length := by have := HN.out; omega
        obtain ⟨b, off, rfl, _, hc⟩ := hBr (by omega)
        obtain ⟨b', off', rfl, _, hc'⟩ := hBr' (by omega)
        obtain ⟨Ar, cap, h1, h2, h3, h4⟩ := hc k hlt
        obtain ⟨Ar', cap', h1', h2', h3', h4'⟩ := hc' k hlt'
        clear hc hc'
        go_wp2_with fail
        go_still_tail 8, (by kernel_rfl)
        change wpList _ _ _ _ _ wr.drew
        have hW2 : Below w.heap.size w wr.drew := bel_drewN hW 1
        have i3 : Ints wr.drew wr.drew.heap.size Ar (rx b1 k) := h3
        have i3' : Ints wr.drew wr.drew.heap.size Ar' (rx b2 k) := h3'
        clear h1 h2 h1' h2' h3 h3' hW hBr hBr'
        generalize wr.drew = wd at *
        go_wp2_with fail
        refine (eqCount_any Ar Ar' cap cap' (rx b1 k) (rx b2 k) (nx b1 k) (nx b2 k) wd i3 i3' h4 h4').mono ?_
        rintro e w1 ⟨rfl, hb1⟩
        have hW3 : Below w.heap.size w w1 := hW2.trans (hb1.mono hW2.size)
        by_cases he : (rx b1 k, nx b1 k) = (rx b2 k, nx b2 k)
        · rw [decide_eq_true he]
          have HE := Lib.hid he
          clear he
          go_wp2
          go_roundw
          case rel => exact ⟨k + 1, by omega, by go_num, bag_take_ext hlt hlt' HT.out HE.out, hW3⟩
          case measure => simp [intOf]; omega
        · rw [decide_eq_false he]
          have HE := Lib.hid he
          clear he
          go_wp2
          go_ret
          exact ⟨ret_bool (by rw [decide_eq_false]; intro h; subst h; exact HE.out rfl), hW3⟩
      · have hd : decide (k < b1.length) = false := by simpa using hlt
        go_wp2
        go_ret
        refine ⟨ret_bool ?_, hW⟩
        have h1 := HT.out
        rw [List.take_of_length_le (by omega), List.take_of_length_le (by have := HN.out; omega)] at h1
        rw [decide_eq_true h1]
  · have hb : ((b1.length : Int) != (b2.length : Int)) = true := by simp; omega
    have HN := Lib.hid hne
    clear hne
    go_enter Try.func77, Try.ntmps77
    go_wp2
    go_ret
    exact ⟨ret_bool (by rw [decide_eq_false]; intro h; subst h; exact HN.out rfl), Below.refl _ _⟩
end Go.Proofs.Ytoncfodlffofdaa
