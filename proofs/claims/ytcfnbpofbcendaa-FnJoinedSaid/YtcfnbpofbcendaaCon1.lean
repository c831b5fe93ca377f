/- Contracts of slices.Grow of nothing and of slices.Concat of two rows, as they are translated: the one row and the other behind it, in a row of the call's own. For a first row that is not empty; rows of at most 2^40. -/
import Derived.Test.YtcfnbpofbcendaaJB
import Derived.Lib.AppendZerosOnto
import Derived.Lib.AppendZeros
namespace Go.Proofs.Ytcfnbpofbcendaa
open Go.RowKit

set_option maxRecDepth 100000 in
set_option maxHeartbeats 1000000 in
theorem grow_any (n : Nat) (w : World) (h0 : 0 < n) (hn : n ≤ 2199023255552) :
    Calls Try.prog 74 #[.slice none 0 0, .int .i64 n] w fun e w' => ∃ v, e = .returned v ∧ w'.ownsRow w.heap.size 2 1 v 0 [] ∧ Below w.heap.size w w' := by
  obtain ⟨i0, hi0, hz0, hz1, hz2⟩ := info_parts info_i64
  have hrz : ∀ ty, (Builtin.append_ #[32, 3] ty #[.slice none 0 0, .int .i64 (n : Int)]).run Try.prog w =
      .ok (.slice (some ⟨w.heap.size, 0, none⟩) n (grownCap w n 0 2)) (w.drew.alloc (.cells (#[] ++ Builtin.zeroCells (Value.int .i64 0).cells n ++ Builtin.zeroCells (Value.int .i64 0).cells (grownCap w n 0 2 - n)) 2)) := fun ty => by
    have h := Lib.run_append_grow_zeros w 32 3 ty 2 i0 (.int .i64 0) .i64 .i64 Try.underlying32 Try.underlying3 hi0 hz0 none 0 0 [] (by rw [hz1]; exact run_firstCells_none w.drew 1 0 0 0) n h0 (by omega) (by omega) (by omega) (by rw [hz2]; omega)
      (by rw [hz2]; exact growslice_fits (by omega) (by omega))
    simpa using h
  have hGn : n ≤ grownCap w n 0 2 := grownCap_ge w _ _ _
  have hGx := grownCap_le_maxLen w n 0 2 (by simp only [maxLen]; omega)
  obtain ⟨G, hG⟩ : ∃ G, G = grownCap w n 0 2 := ⟨_, rfl⟩
  rw [← hG] at hrz hGn hGx
  clear hG
  obtain ⟨cs, hcs⟩ : ∃ cs, cs = (#[] ++ Builtin.zeroCells (Value.int .i64 0).cells n ++ Builtin.zeroCells (Value.int .i64 0).cells (G - n) : Array Value) := ⟨_, rfl⟩
  have hsz : cs.size = G := by rw [hcs]; simp [Builtin.zeroCells, Value.cells]; omega
  rw [← hcs] at hrz
  have HX := Lib.hid hGx
  have HGN := Lib.hid hGn
  have HSZ := Lib.hid hsz
  clear hcs hsz hGx
  have hn0 : ¬ ((n : Int) < 0) := by omega
  have hnp : (0 : Int) < (n : Int) := by omega
  have hg63 : (G : Int) ≤ 9223372036854775807 := by have := HX.out; simp only [maxLen] at this; omega
  go_enter Try.func74, Try.ntmps74
  go_wp2_with (at_builtin; refine Lib.wpList_append_run _ rfl _ _ _ _ rfl _ _ rfl rfl _ _ (hrz _) ?_)
  go_ret
  refine ⟨_, rfl, ?_, (bel_drewN (Below.refl w.heap.size w) 1).alloc (Nat.le_refl _) _⟩
  exact ⟨rfl, .inr ⟨w.heap.size, G, cs, rfl, Nat.le_refl _, Blk.new w.drew 2 cs, Nat.zero_le _, HX.out, by rw [HSZ.out]; omega, by simp⟩⟩

set_option maxRecDepth 100000 in
set_option maxHeartbeats 4000000 in
theorem concat_any (b : Nat) (A A' : Option Addr) (c c' : Nat) (zs ys : List Int) (w : World) (hb : b < w.heap.size) (k0 : w.cell? ⟨b, 0, none⟩ = some (.slice A zs.length c)) (k1 : w.cell? ⟨b, 1, none⟩ = some (.slice A' ys.length c')) (hI : Ints w w.heap.size A zs) (hI' : Ints w w.heap.size A' ys) (h0 : 0 < zs.length) (hl : zs.length ≤ 1099511627776) (hl' : ys.length ≤ 1099511627776) :
    Calls Try.prog 47 #[.slice (some ⟨b, 0, none⟩) 2 2] w fun e w' => ∃ v, e = .returned v ∧ w'.ownsRow w.heap.size 2 1 v (zs ++ ys).length (i64l (zs ++ ys)) ∧ Below w.heap.size w w' := by
  obtain ⟨i0, hi0, hz0, hz1, hz2⟩ := info_parts info_i64
  obtain ⟨n, hn⟩ : ∃ n, n = zs.length + ys.length := ⟨_, rfl⟩
  have HNE := Lib.hid hn
  have HNI := Lib.hid (show (n : Int) = (zs.length : Int) + (ys.length : Int) by omega)
  have hn1 : 0 < n := by omega
  have hn2 : n ≤ 2199023255552 := by omega
  clear hn
  go_enter Try.func47, Try.ntmps47
  go_wp2
  go_loop [3, 11] (fun s i => (i = .int .i64 0 ∧ s = .int .i64 0) ∨ (i = .int .i64 1 ∧ s = .int .i64 zs.length) ∨ (i = .int .i64 2 ∧ s = .int .i64 n)) (fun _ i => 2 - (intOf i).toNat)
  case atStart => exact .inl ⟨rfl, rfl⟩
  case round =>
    rcases hrel with ⟨rfl, rfl⟩ | ⟨rfl, rfl⟩ | ⟨rfl, rfl⟩
    · have hn0 : ¬ ((zs.length : Int) < 0) := by omega
      go_wp2
      go_round
      case rel => exact .inr (.inl ⟨by go_num, by go_num⟩)
      case measure => simp [intOf]
    · have hn0 : ¬ ((zs.length : Int) + (ys.length : Int) < 0) := by omega
      go_wp2
      go_round
      case rel => exact .inr (.inr ⟨by go_num, by rw [HNI.out]⟩)
      case measure => simp [intOf]
    · go_wp2_with fail
      refine (grow_any n w hn1 hn2).mono ?_
      rintro e w1 ⟨v1, rfl, hown1, hb1⟩
      clear hn1 hn2
      go_wp2
      go_loopw [6, 27] (fun v i wr => ∃ k : Nat, i = .int .i64 k ∧ k ≤ 2 ∧ Below w.heap.size w wr ∧ ((k = 0 ∧ wr.ownsRow w.heap.size 2 1 v 0 []) ∨ (k = 1 ∧ wr.ownsRow w.heap.size 2 1 v zs.length (i64l zs)) ∨ (k = 2 ∧ wr.ownsRow w.heap.size 2 1 v (zs.length + ys.length) (i64l zs ++ i64l ys)))) (fun _ i _ => 2 - (intOf i).toNat)
      case atStart => exact ⟨0, rfl, by omega, hb1, .inl ⟨rfl, hown1⟩⟩
      case round =>
        obtain ⟨k, rfl, hk, hW, hr⟩ := hrel
        clear hown1 hb1
        have k0r := (hW.cell (p := ⟨b, 0, none⟩) hb).trans k0
        have k1r := (hW.cell (p := ⟨b, 1, none⟩) hb).trans k1
        have hs1 : w.heap.size ≤ wr.heap.size := hW.size
        rcases hr with ⟨rfl, hown⟩ | ⟨rfl, hown⟩ | ⟨rfl, hown⟩
        · have hR := reads_ints (hI.on hW)
          go_wp2_with (at_builtin; refine wpList_append_any _ rfl (.tmp 31) (.tmp 32) 32 rfl w.heap.size 2 i0 (.int .i64 0) 1 8 Try.underlying32 hi0 hz0 hz1 hz2 rfl (by decide) _ _ _ rfl hown _ A zs.length c (i64l zs) rfl hR (i64l_one _) (by simp only [maxLen]; omega) (by omega) hs1 ?_; intro v5 w5 hown5 hg5 hat5)
          have hb5 : Below w.heap.size w w5 := hW.grown hg5 hs1 (fun g e => (hown.lt g e).1)
          simp only [Nat.zero_add, List.nil_append] at hown5
          clear hown hR hat5 hg5 k0r k1r hW
          go_wp2
          go_roundw
          case rel => exact ⟨1, by go_num, by omega, hb5, .inr (.inl ⟨rfl, hown5⟩)⟩
          case measure => simp [intOf]
        · have hR := reads_ints (hI'.on hW)
          go_wp2_with (at_builtin; refine wpList_append_any _ rfl (.tmp 31) (.tmp 32) 32 rfl w.heap.size 2 i0 (.int .i64 0) 1 8 Try.underlying32 hi0 hz0 hz1 hz2 rfl (by decide) _ _ _ rfl hown _ A' ys.length c' (i64l ys) rfl hR (i64l_one _) (by simp only [maxLen]; omega) (by omega) hs1 ?_; intro v5 w5 hown5 hg5 hat5)
          have hb5 : Below w.heap.size w w5 := hW.grown hg5 hs1 (fun g e => (hown.lt g e).1)
          clear hown hR hat5 hg5 k0r k1r hW
          go_wp2
          go_roundw
          case rel => exact ⟨2, by go_num, by omega, hb5, .inr (.inr ⟨rfl, hown5⟩)⟩
          case measure => simp [intOf]
        · go_wp2
          go_ret
          refine ⟨_, rfl, ?_, hW⟩
          rw [List.length_append, show i64l (zs ++ ys) = i64l zs ++ i64l ys by simp [i64l]]
          exact hown
theorem concat_as (b : Nat) (A A' : Option Addr) (c c' : Nat) (zs ys rs : List Int) (w : World) (hrs : rs = zs ++ ys) (hb : b < w.heap.size) (k0 : w.cell? ⟨b, 0, none⟩ = some (.slice A zs.length c)) (k1 : w.cell? ⟨b, 1, none⟩ = some (.slice A' ys.length c')) (hI : Ints w w.heap.size A zs) (hI' : Ints w w.heap.size A' ys) (h0 : 0 < zs.length) (hl : zs.length ≤ 1099511627776) (hl' : ys.length ≤ 1099511627776) :
    Calls Try.prog 47 #[.slice (some ⟨b, 0, none⟩) 2 2] w fun e w' => ∃ A1 c1 g1, e = .returned (.slice A1 rs.length c1) ∧ w.heap.size ≤ g1 ∧ Row w' 2 A1 rs g1 ∧ Below w.heap.size w w' := by
  subst hrs
  refine (concat_any b A A' c c' zs ys w hb k0 k1 hI hI' h0 hl hl').mono ?_
  rintro e w1 ⟨v, rfl, hown, hb1⟩
  obtain ⟨A1, c1, g1, rfl, h1, h2⟩ := rowAt_of_own hown
  exact ⟨A1, c1, g1, rfl, h1, h2, hb1⟩
end Go.Proofs.Ytcfnbpofbcendaa
