/- Contracts of the drawing of rows: what is drawn is a slice of int64 in new memory, of so many numbers at most; the cursor goes on; nothing else that lay has turned. -/
import Derived.Test.YtcfnbpofbcendabDraw1
namespace Go.Proofs.Ytcfnbpofbcendab
open Go.RowKit

theorem grown_own {a b d : World} {c : Nat} {row : Option Nat} (h : a.grownBy b (some c)) (k : b.grownBy d row) (hr : ∀ r, row = some r → a.heap.size ≤ r) : a.grownBy d (some c) :=
  ⟨k.os.trans h.os, k.tape.trans h.tape, k.output.trans h.output, Nat.le_trans h.size k.size, fun i hi hne => (k.block i (Nat.lt_of_lt_of_le hi h.size) (fun e => by have := hr i e.symm; omega)).trans (h.block i hi hne)⟩
theorem own_keep {w w' : World} {base : Nat} {e : TypeId} {size : Nat} {v : Value} {n c : Nat} {xs : List Value} (h : w.ownsRow base e size v n xs) (hg : w.grownBy w' (some c)) (hc : c < base) : w'.ownsRow base e size v n xs := by
  refine h.kept hg ?_
  cases hv : v.ownBlock with
  | none => exact .inl rfl
  | some g => right; intro e; injection e with e; have := (h.lt g hv).1; omega
theorem own_mono {w : World} {base base' : Nat} {e : TypeId} {size : Nat} {v : Value} {n : Nat} {xs : List Value} (h : w.ownsRow base e size v n xs) (hb : base' ≤ base) : w.ownsRow base' e size v n xs := by
  rcases h with ⟨h1, h2⟩
  refine ⟨h1, ?_⟩
  rcases h2 with h2 | ⟨g, cap, cur, h3, h4, h5⟩
  · exact .inl h2
  · exact .inr ⟨g, cap, cur, h3, by omega, h5⟩
/-- What a drawing of numbers leaves: so many of them, at most, in new memory; the cursor c; nothing else has turned. -/
def Drawn (c most : Nat) (w : World) (e : Ending) (w' : World) : Prop :=
  ∃ v zs, e = .returned v ∧ zs.length ≤ most ∧ w'.ownsRow w.heap.size 2 1 v zs.length (i64l zs) ∧ Cur w' c ∧ w.grownBy w' (some c)

set_option maxRecDepth 100000 in
set_option maxHeartbeats 2000000 in
theorem l1DrawRow_any (c : Nat) (n : Nat) (w : World) (hC : Cur w c) (hn : n ≤ 1000) :
    Calls Try.prog 30 #[.pointer (some ⟨c, 0, none⟩), .int .i64 n] w (Drawn c n w) := by
  obtain ⟨i0, hi0, hz0, hz1, hz2⟩ := info_parts info_i64
  have hcl := hC.lt
  have hE := ownsRow_empty w 2 w.heap.size (Nat.le_refl _)
  have hC0 : Cur (w.alloc (.cells #[] 2)) c := hC.below ((Below.refl _ _).alloc (Nat.le_refl _) _)
  have hG0 : w.grownBy (w.alloc (.cells #[] 2)) (some c) := World.grownBy_alloc w _ _
  go_enter Try.func30, Try.ntmps30
  go_wp2
  go_loopw [1, 5] (fun k v wr => ∃ (j : Nat) (zs : List Int), j ≤ n ∧ zs.length + j ≤ n ∧ k = .int .i64 j ∧ wr.ownsRow w.heap.size 2 1 v zs.length (i64l zs) ∧ Cur wr c ∧ w.grownBy wr (some c)) (fun k _ _ => (intOf k).toNat)
  case atStart => exact ⟨n, [], Nat.le_refl _, by simp, rfl, hE, hC0, hG0⟩
  case round =>
    obtain ⟨j, zs, hj, hjl, rfl, hown, hCr, hGr⟩ := hrel
    clear hE hC0 hG0
    by_cases h0 : 0 < j
    · go_wp2_with fail
      refine (l1Below_any c 4 _ hCr (by omega) (by omega)).mono ?_
      rintro e w1 ⟨x, rfl, hx0, hx1, _, hC1, hg1⟩
      have hx2 := hx1 (by omega)
      have hown1 := own_keep hown hg1 hcl
      have hG1 : w.grownBy w1 (some c) := grown_trans hGr hg1
      clear hx1 hown hg1 hGr hCr
      go_wp2_with (at_builtin; refine wpList_append_own _ rfl _ _ 25 rfl w.heap.size 2 i0 (.int .i64 0) 1 8 Try.underlying25 hi0 hz0 hz1 hz2 rfl (by decide) _ _ _ rfl (hown1.alloc _) ⟨w1.heap.size, 0, none⟩ 1 1 [.int .i64 (x - 1)] rfl rfl (cell_one_new _ _ _) (by simp [Value.oneCell']) (by simp only [maxLen]; omega) (by omega) (by have := hG1.size; simp; omega) ?_; intro v' w2 hown2 hgrow2 _)
      have hG2 : w.grownBy w2 (some c) := grown_own (grown_own hG1 (World.grownBy_alloc w1 _ none) (fun r e => by cases e)) hgrow2 (fun r e => (hown1.lt r e).1)
      have hC2 : Cur w2 c := (hC1.below ((Below.refl _ _).alloc (Nat.le_refl _) _)).grown hgrow2 (fun r e => by have := (hown1.lt r e).1; omega)
      clear hgrow2 hown1 hC1 hG1
      go_roundw
      case rel => exact ⟨j - 1, zs ++ [x - 1], by omega, by simp; omega, by go_num, by simpa [i64l] using hown2, hC2, hG2⟩
      case measure => simp [intOf]; omega
    · have hd : decide (0 < j) = false := by simpa using h0
      go_wp2
      go_ret
      exact ⟨_, zs, rfl, by omega, hown, hCr, hGr⟩

theorem four_cell (w : World) (x0 x1 x2 x3 : Value) (t : TypeId) (q : Nat) (hq : q < 4) (hx : ∀ v ∈ [x0, x1, x2, x3], ∃ y, v = .int .i64 y) : ∃ y, (w.alloc (.cells #[x0, x1, x2, x3] t)).cell? ⟨w.heap.size, q, none⟩ = some (.int .i64 y) := by
  have hB := Blk.new w t #[x0, x1, x2, x3]
  rw [hB.cell q]
  obtain ⟨y0, rfl⟩ := hx x0 (by simp)
  obtain ⟨y1, rfl⟩ := hx x1 (by simp)
  obtain ⟨y2, rfl⟩ := hx x2 (by simp)
  obtain ⟨y3, rfl⟩ := hx x3 (by simp)
  match q, hq with
  | 0, _ => exact ⟨y0, rfl⟩
  | 1, _ => exact ⟨y1, rfl⟩
  | 2, _ => exact ⟨y2, rfl⟩
  | 3, _ => exact ⟨y3, rfl⟩

set_option maxRecDepth 100000 in
set_option maxHeartbeats 4000000 in
theorem l1DrawAny_any (c : Nat) (w : World) (hC : Cur w c) :
    Calls Try.prog 31 #[.pointer (some ⟨c, 0, none⟩)] w (Drawn c 8 w) := by
  obtain ⟨i0, hi0, hz0, hz1, hz2⟩ := info_parts info_i64
  have hcl := hC.lt
  go_enter Try.func31, Try.ntmps31
  go_wp2_with fail
  refine (l1Below_any c 4 _ hC (by omega) (by omega)).mono ?_
  rintro e w1 ⟨x, rfl, hx0, hx1, _, hC1, hg1⟩
  obtain ⟨n, rfl⟩ := Int.eq_ofNat_of_zero_le hx0
  have hn4 : n < 4 := by have := hx1 (by omega); omega
  clear hx0 hx1 hC
  go_wp2_with fail
  refine (l1DrawRow_any c n _ hC1 (by omega)).mono ?_
  rintro e w2 ⟨v2, zs, rfl, hzl, hown2, hC2, hg2⟩
  have hown2' : w2.ownsRow w.heap.size 2 1 v2 zs.length (i64l zs) := own_mono hown2 hg1.size
  have hG2 : w.grownBy w2 (some c) := grown_trans hg1 hg2
  clear hown2 hg2 hg1 hC1
  go_wp2_with fail
  refine (l1Once_any c 8 _ hC2 (by omega) (by omega)).mono ?_
  rintro e w3 ⟨b3, rfl, hC3, hg3⟩
  have hown3 := own_keep hown2' hg3 hcl
  have hG3 : w.grownBy w3 (some c) := grown_trans hG2 hg3
  clear hown2' hG2 hC2 hg3
  cases b3 with
  | false =>
    go_wp2_with fail
    refine (l1Once_any c 14 _ hC3 (by omega) (by omega)).mono ?_
    rintro e w7 ⟨b7, rfl, hC7, hg7⟩
    have hown7 := own_keep hown3 hg7 hcl
    have hG7 : w.grownBy w7 (some c) := grown_trans hG3 hg7
    cases b7 with
    | false =>
      go_wp2
      go_ret
      exact ⟨_, zs, rfl, by omega, hown7, hC7, hG7⟩
    | true =>
      go_wp2_with fail
      refine (l1Below_any c 2 _ hC7 (by omega) (by omega)).mono ?_
      rintro e w8 ⟨x8, rfl, h80, h81, _, hC8, hg8⟩
      obtain ⟨n8, rfl⟩ := Int.eq_ofNat_of_zero_le h80
      have hn8 : n8 < 2 := by have := h81 (by omega); omega
      have hG8 : w.grownBy w8 (some c) := grown_trans hG7 hg8
      clear h80 h81
      go_wp2_with fail
      rw [show (6 : Int) + (n8 : Int) = ((6 + n8 : Nat) : Int) by omega]
      refine (l1DrawRow_any c (6 + n8) _ hC8 (by omega)).mono ?_
      rintro e w9 ⟨v9, zs9, rfl, hl9, hown9, hC9, hg9⟩
      go_wp2
      go_ret
      exact ⟨_, zs9, rfl, by omega, own_mono hown9 hG8.size, hC9, grown_trans hG8 hg9⟩
  | true =>
    go_wp2_with fail
    have hC4 := hC3.below ((Below.refl _ _).alloc (Nat.le_refl _) (.cells #[.int .i64 1000000000, .int .i64 1000000001, .int .i64 (-1000000001), .int .i64 4611686018427387904] 2))
    refine (l1Below_any c 4 _ hC4 (by omega) (by omega)).mono ?_
    rintro e w5 ⟨x5, rfl, h50, h51, _, hC5, hg5⟩
    obtain ⟨q, rfl⟩ := Int.eq_ofNat_of_zero_le h50
    have hq4 : q < 4 := by have := h51 (by omega); omega
    obtain ⟨y, hy⟩ := four_cell w3 (.int .i64 1000000000) (.int .i64 1000000001) (.int .i64 (-1000000001)) (.int .i64 4611686018427387904) 2 q hq4 (by simp)
    have hy5 : w5.cell? ⟨w3.heap.size, q, none⟩ = some (.int .i64 y) := hg5.cell hy (by have := hG3.size; simp; omega)
    have hown5 := own_keep (hown3.alloc (.cells #[.int .i64 1000000000, .int .i64 1000000001, .int .i64 (-1000000001), .int .i64 4611686018427387904] 2)) hg5 hcl
    have hG5 : w.grownBy w5 (some c) := grown_trans (grown_own hG3 (World.grownBy_alloc w3 _ none) (fun r e => by cases e)) hg5
    clear hy hC4 hown3 hg5 h50 h51
    go_wp2_with (at_builtin; refine wpList_append_own _ rfl _ _ 25 rfl w.heap.size 2 i0 (.int .i64 0) 1 8 Try.underlying25 hi0 hz0 hz1 hz2 rfl (by decide) _ _ _ rfl (hown5.alloc _) ⟨w5.heap.size, 0, none⟩ 1 1 [.int .i64 y] rfl rfl (cell_one_new _ _ _) (by simp [Value.oneCell']) (by simp only [maxLen]; omega) (by omega) (by have := hG5.size; simp; omega) ?_; intro v' w6 hown6 hgrow6 _)
    have hG6 : w.grownBy w6 (some c) := grown_own (grown_own hG5 (World.grownBy_alloc w5 _ none) (fun r e => by cases e)) hgrow6 (fun r e => (hown5.lt r e).1)
    have hC6 : Cur w6 c := (hC5.below ((Below.refl _ _).alloc (Nat.le_refl _) _)).grown hgrow6 (fun r e => by have := (hown5.lt r e).1; omega)
    have hown6' : w6.ownsRow w.heap.size 2 1 v' (zs ++ [y]).length (i64l (zs ++ [y])) := by simpa [i64l] using hown6
    clear hgrow6 hown5 hC5 hG5 hown6 hy5
    go_wp2_with fail
    refine (l1Once_any c 14 _ hC6 (by omega) (by omega)).mono ?_
    rintro e w7 ⟨b7, rfl, hC7, hg7⟩
    have hown7 := own_keep hown6' hg7 hcl
    have hG7 : w.grownBy w7 (some c) := grown_trans hG6 hg7
    cases b7 with
    | false =>
      go_wp2
      go_ret
      exact ⟨_, zs ++ [y], rfl, by simp; omega, hown7, hC7, hG7⟩
    | true =>
      go_wp2_with fail
      refine (l1Below_any c 2 _ hC7 (by omega) (by omega)).mono ?_
      rintro e w8 ⟨x8, rfl, h80, h81, _, hC8, hg8⟩
      obtain ⟨n8, rfl⟩ := Int.eq_ofNat_of_zero_le h80
      have hn8 : n8 < 2 := by have := h81 (by omega); omega
      have hG8 : w.grownBy w8 (some c) := grown_trans hG7 hg8
      clear h80 h81
      go_wp2_with fail
      rw [show (6 : Int) + (n8 : Int) = ((6 + n8 : Nat) : Int) by omega]
      refine (l1DrawRow_any c (6 + n8) _ hC8 (by omega)).mono ?_
      rintro e w9 ⟨v9, zs9, rfl, hl9, hown9, hC9, hg9⟩
      go_wp2
      go_ret
      exact ⟨_, zs9, rfl, by omega, own_mono hown9 hG8.size, hC9, grown_trans hG8 hg9⟩
end Go.Proofs.Ytcfnbpofbcendab
