/- Contracts of the drawings of chapter 1: what is drawn is one or two slices of int64 in new memory, of so many numbers at most; nothing that lay before has turned. -/
import Derived.Test.YtcfnbpofbcendabDraw2
import Derived.Test.YtcfnbpofbcendabJA
namespace Go.Proofs.Ytcfnbpofbcendab
open Go.RowKit

theorem l1Max_any (a b : Int) (w : World) :
    Calls Try.prog 32 #[.int .i64 a, .int .i64 b] w fun e w' => e = .returned (.int .i64 (max a b)) ∧ w = w' := by
  by_cases h : b < a
  all_goals
    go_enter Try.func32, Try.ntmps32
    go_wp2
    go_ret
    exact ⟨ret_int (by omega), rfl⟩
theorem own_other {w w' : World} {base s : Nat} {e : TypeId} {size : Nat} {v : Value} {n : Nat} {xs : List Value} {row : Option Nat} (h : w.ownsRow base e size v n xs) (hg : w.grownBy w' row) (hr : ∀ r, row = some r → s ≤ r) (hv : ∀ g, v.ownBlock = some g → g < s) : w'.ownsRow base e size v n xs := by
  refine h.kept hg ?_
  cases hb : v.ownBlock with
  | none => exact .inl rfl
  | some g => right; intro e; have h1 := hr g e.symm; have h2 := hv g hb; omega
theorem own_lt {w : World} {base : Nat} {e : TypeId} {size : Nat} {v : Value} {n : Nat} {xs : List Value} (h : w.ownsRow base e size v n xs) : ∀ g, v.ownBlock = some g → g < w.heap.size := fun g hg => (h.lt g hg).2

set_option maxRecDepth 100000 in
set_option maxHeartbeats 4000000 in
theorem l1DrawPlaces_any (c : Nat) (n : Nat) (w : World) (hC : Cur w c) (hn : n ≤ 1000000) :
    Calls Try.prog 16 #[.pointer (some ⟨c, 0, none⟩), .int .i64 n] w (Drawn c 4 w) := by
  obtain ⟨i0, hi0, hz0, hz1, hz2⟩ := info_parts info_i64
  have hcl := hC.lt
  have hE := ownsRow_empty w 2 w.heap.size (Nat.le_refl _)
  have hC0 : Cur (w.alloc (.cells #[] 2)) c := hC.below ((Below.refl _ _).alloc (Nat.le_refl _) _)
  have hG0 : w.grownBy (w.alloc (.cells #[] 2)) (some c) := World.grownBy_alloc w _ _
  have hmx : (1 : Int) ≤ max 1 (n : Int) ∧ max 1 (n : Int) ≤ 1000000 := by omega
  go_enter Try.func16, Try.ntmps16
  go_wp2_with fail
  refine (l1Below_any c 3 _ hC0 (by omega) (by omega)).mono ?_
  rintro e w1 ⟨x, rfl, hx0, hx1, _, hC1, hg1⟩
  obtain ⟨m, rfl⟩ := Int.eq_ofNat_of_zero_le hx0
  have hm3 : m < 3 := by have := hx1 (by omega); omega
  have hE1 := own_keep hE hg1 hcl
  have hG1 : w.grownBy w1 (some c) := grown_trans hG0 hg1
  clear hx0 hx1 hE hC0 hG0 hg1
  go_wp2
  go_loopw [5, 6] (fun v k wr => ∃ (j : Nat) (zs : List Int), zs.length + j ≤ 3 ∧ k = .int .i64 j ∧ wr.ownsRow w.heap.size 2 1 v zs.length (i64l zs) ∧ Cur wr c ∧ w.grownBy wr (some c)) (fun _ k _ => (intOf k).toNat)
  case atStart => exact ⟨1 + m, [], by simp; omega, by go_num, hE1, hC1, hG1⟩
  case round =>
    obtain ⟨j, zs, hjl, rfl, hown, hCr, hGr⟩ := hrel
    clear hE1 hC1 hG1
    by_cases h0 : 0 < j
    · go_wp2_with fail
      refine (l1Max_any 1 n _).mono ?_
      rintro e w' ⟨rfl, rfl⟩
      generalize max 1 (n : Int) = mx at *
      go_wp2_with fail
      refine (l1Below_any c mx _ hCr (by omega) (by omega)).mono ?_
      rintro e w1 ⟨x, rfl, hx0, hx1, _, hC1, hg1⟩
      have hx2 := hx1 (by omega)
      have hown1 := own_keep hown hg1 hcl
      have hG1 : w.grownBy w1 (some c) := grown_trans hGr hg1
      clear hx1 hown hg1 hGr hCr
      go_wp2_with (at_builtin; refine wpList_append_own _ rfl _ _ 25 rfl w.heap.size 2 i0 (.int .i64 0) 1 8 Try.underlying25 hi0 hz0 hz1 hz2 rfl (by decide) _ _ _ rfl (hown1.alloc _) ⟨w1.heap.size, 0, none⟩ 1 1 [.int .i64 x] rfl rfl (cell_one_new _ _ _) (by simp [Value.oneCell']) (by simp only [maxLen]; omega) (by omega) (by have := hG1.size; simp; omega) ?_; intro v' w2 hown2 hgrow2 _)
      have hG2 : w.grownBy w2 (some c) := grown_own (grown_own hG1 (World.grownBy_alloc w1 _ none) (fun r e => by cases e)) hgrow2 (fun r e => (hown1.lt r e).1)
      have hC2 : Cur w2 c := (hC1.below ((Below.refl _ _).alloc (Nat.le_refl _) _)).grown hgrow2 (fun r e => by have := (hown1.lt r e).1; omega)
      clear hgrow2 hown1 hC1 hG1
      go_roundw
      case rel => exact ⟨j - 1, zs ++ [x], by simp; omega, by go_num, by simpa [i64l] using hown2, hC2, hG2⟩
      case measure => simp [intOf]; omega
    · have hd : decide (0 < j) = false := by simpa using h0
      go_wp2_with fail
      refine (l1Once_any c 14 _ hCr (by omega) (by omega)).mono ?_
      rintro e w3 ⟨b3, rfl, hC3, hg3⟩
      have hown3 := own_keep hown hg3 hcl
      have hG3 : w.grownBy w3 (some c) := grown_trans hGr hg3
      clear hown hCr hGr hg3
      cases b3 with
      | false =>
        go_wp2
        go_ret
        exact ⟨_, zs, rfl, by omega, hown3, hC3, hG3⟩
      | true =>
        go_wp2_with fail
        refine (l1From_any c (-1) 6 _ hC3 (by omega) (by omega) (by omega)).mono ?_
        rintro e w4 ⟨x, rfl, hx0, hx1, hC4, hg4⟩
        have hown4 := own_keep hown3 hg4 hcl
        have hG4 : w.grownBy w4 (some c) := grown_trans hG3 hg4
        clear hown3 hC3 hG3 hg4
        go_wp2_with (at_builtin; refine wpList_append_own _ rfl _ _ 25 rfl w.heap.size 2 i0 (.int .i64 0) 1 8 Try.underlying25 hi0 hz0 hz1 hz2 rfl (by decide) _ _ _ rfl (hown4.alloc _) ⟨w4.heap.size, 0, none⟩ 1 1 [.int .i64 x] rfl rfl (cell_one_new _ _ _) (by simp [Value.oneCell']) (by simp only [maxLen]; omega) (by omega) (by have := hG4.size; simp; omega) ?_; intro v' w2 hown2 hgrow2 _)
        have hG2 : w.grownBy w2 (some c) := grown_own (grown_own hG4 (World.grownBy_alloc w4 _ none) (fun r e => by cases e)) hgrow2 (fun r e => (hown4.lt r e).1)
        have hC2 : Cur w2 c := (hC4.below ((Below.refl _ _).alloc (Nat.le_refl _) _)).grown hgrow2 (fun r e => by have := (hown4.lt r e).1; omega)
        go_ret
        exact ⟨_, zs ++ [x], rfl, by simp; omega, by simpa [i64l] using hown2, hC2, hG2⟩

/-- One slice drawn from a code: new memory; nothing that lay has turned. -/
def Drawn1 (most : Nat) (w : World) (e : Ending) (w' : World) : Prop :=
  ∃ v zs, e = .returned v ∧ zs.length ≤ most ∧ w'.ownsRow w.heap.size 2 1 v zs.length (i64l zs) ∧ Below w.heap.size w w'
/-- Two slices. -/
def Drawn2 (m1 m2 : Nat) (w : World) (e : Ending) (w' : World) : Prop :=
  ∃ v zs v' zs', e = .returned (.tuple #[v, v']) ∧ zs.length ≤ m1 ∧ zs'.length ≤ m2 ∧ w'.ownsRow w.heap.size 2 1 v zs.length (i64l zs) ∧ w'.ownsRow w.heap.size 2 1 v' zs'.length (i64l zs') ∧ Below w.heap.size w w'

theorem reads_own {w : World} {base : Nat} {A : Option Addr} {cap n : Nat} {xs : List Value} {e : TypeId} (h : w.ownsRow base e 1 (.slice A n cap) n xs) : Reads w w.heap.size 1 A n xs := Reads.of_own h

end Go.Proofs.Ytcfnbpofbcendab
