/- Contracts of the drawing of rows: what is drawn is a slice of int64 in new memory, of so many numbers at most; the cursor goes on; nothing else that lay has turned. -/
import Derived.Test.YtedbjjhkjkpnkaaDraw1
namespace Go.Proofs.Ytedbjjhkjkpnkaa
open Go.RowKit

theorem grown_own {a b d : World} {c : Nat} {row : Option Nat} (h : a.grownBy b (some c)) (k : b.grownBy d row) (hr : ∀ r, row = some r → a.heap.size ≤ r) : a.grownBy d (some c) :=
  ⟨k.os.trans h.os, k.tape.trans h.tape, k.output.trans h.output, Nat.le_trans h.size k.size, fun i hi hne => (k.block i (Nat.lt_of_lt_of_le hi h.size) (fun e => by have := hr i e.symm; omega)).trans (h.block i hi hne)⟩
theorem own_keep {w w' : World} {base : Nat} {e : TypeId} {size : Nat} {v : Value} {n c : Nat} {xs : List Value} (h : w.ownsRow base e size v n xs) (hg : w.grownBy w' (some c)) (hc : c < base) : w'.ownsRow base e size v n xs := by
  refine h.kept hg ?_
  cases hv : v.ownBlock with
  | none => exact .inl rfl
  | some g => right; intro e; injection e with e; have := (h.lt g hv).1; omega
theorem own_mono {w : World} {base base' : Nat} {e : TypeId} {size : Nat} {v : Value} {n : Nat} {xs : List Value} (h : w.ownsRow base e size v n xs) (hb : base' ≤ base) : w.ownsRow base' e size v n xs := by
  rcases h with ⟨h1, h2⟩
  refine ⟨h1, ?_⟩
  rcases h2 with h2 | ⟨g, cap, cur, h3, h4, h5⟩
  · exact .inl h2
  · exact .inr ⟨g, cap, cur, h3, by omega, h5⟩
/-- What a drawing of numbers leaves: so many of them, at most, in new memory; the cursor c; nothing else has turned. -/
def Drawn (c most : Nat) (w : World) (e : Ending) (w' : World) : Prop :=
  ∃ v zs, e = .returned v ∧ zs.length ≤ most ∧ w'.ownsRow w.heap.size 2 1 v zs.length (i64l zs) ∧ Cur w' c ∧ w.grownBy w' (some c)

set_option maxRecDepth 100000 in
set_option maxHeartbeats 2000000 in
theorem l1DrawRow_any (c : Nat) (n : Nat) (w : World) (hC : Cur w c) (hn : n ≤ 1000) :
    Calls Try.prog 59 #[.pointer (some ⟨c, 0, none⟩), .int .i64 n] w (Drawn c n w) := by
  obtain ⟨i0, hi0, hz0, hz1, hz2⟩ := info_parts info_i64
  have hcl := hC.lt
  have hE := ownsRow_empty w 2 w.heap.size (Nat.le_refl _)
  have hC0 : Cur (w.alloc (.cells #[] 2)) c := hC.below ((Below.refl _ _).alloc (Nat.le_refl _) _)
  have hG0 : w.grownBy (w.alloc (.cells #[] 2)) (some c) := World.grownBy_alloc w _ _
  go_enter Try.func59, Try.ntmps59
  go_wp2
  go_loopw [1, 5] (fun k v wr => ∃ (j : Nat) (zs : List Int), j ≤ n ∧ zs.length + j ≤ n ∧ k = .int .i64 j ∧ wr.ownsRow w.heap.size 2 1 v zs.length (i64l zs) ∧ Cur wr c ∧ w.grownBy wr (some c)) (fun k _ _ => (intOf k).toNat)
  case atStart => exact ⟨n, [], Nat.le_refl _, by simp, rfl, hE, hC0, hG0⟩
  case round =>
    obtain ⟨j, zs, hj, hjl, rfl, hown, hCr, hGr⟩ := hrel
    clear hE hC0 hG0
    by_cases h0 : 0 < j
    · go_wp2_with fail
      refine (l1Below_any c 4 _ hCr (by omega) (by omega)).mono ?_
      rintro e w1 ⟨x, rfl, hx0, hx1, _, hC1, hg1⟩
      have hx2 := hx1 (by omega)
      have hown1 := own_keep hown hg1 hcl
      have hG1 : w.grownBy w1 (some c) := grown_trans hGr hg1
      clear hx1 hown hg1 hGr hCr
      go_wp2_with (at_builtin; refine wpList_append_own _ rfl _ _ 45 rfl w.heap.size 2 i0 (.int .i64 0) 1 8 Try.underlying45 hi0 hz0 hz1 hz2 rfl (by decide) _ _ _ rfl (hown1.alloc _) ⟨w1.heap.size, 0, none⟩ 1 1 [.int .i64 (x - 1)] rfl rfl (cell_one_new _ _ _) (by simp [Value.oneCell']) (by simp only [maxLen]; omega) (by omega) (by have := hG1.size; simp; omega) ?_; intro v' w2 hown2 hgrow2 _)
      have hG2 : w.grownBy w2 (some c) := grown_own (grown_own hG1 (World.grownBy_alloc w1 _ none) (fun r e => by cases e)) hgrow2 (fun r e => (hown1.lt r e).1)
      have hC2 : Cur w2 c := (hC1.below ((Below.refl _ _).alloc (Nat.le_refl _) _)).grown hgrow2 (fun r e => by have := (hown1.lt r e).1; omega)
      clear hgrow2 hown1 hC1 hG1
      go_roundw
      case rel => exact ⟨j - 1, zs ++ [x - 1], by omega, by simp; omega, by go_num, by simpa [i64l] using hown2, hC2, hG2⟩
      case measure => simp [intOf]; omega
    · have hd : decide (0 < j) = false := by simpa using h0
      go_wp2
      go_ret
      exact ⟨_, zs, rfl, by omega, hown, hCr, hGr⟩

theorem four_cell (w : World) (x0 x1 x2 x3 : Value) (t : TypeId) (q : Nat) (hq : q < 4) (hx : ∀ v ∈ [x0, x1, x2, x3], ∃ y, v = .int .i64 y) : ∃ y, (w.alloc (.cells #[x0, x1, x2, x3] t)).cell? ⟨w.heap.size, q, none⟩ = some (.int .i64 y) := by
  have hB := Blk.new w t #[x0, x1, x2, x3]
  rw [hB.cell q]
  obtain ⟨y0, rfl⟩ := hx x0 (by simp)
  obtain ⟨y1, rfl⟩ := hx x1 (by simp)
  obtain ⟨y2, rfl⟩ := hx x2 (by simp)
  obtain ⟨y3, rfl⟩ := hx x3 (by simp)
  match q, hq with
  | 0, _ => exact ⟨y0, rfl⟩
  | 1, _ => exact ⟨y1, rfl⟩
  | 2, _ => exact ⟨y2, rfl⟩
  | 3, _ => exact ⟨y3, rfl⟩

end Go.Proofs.Ytedbjjhkjkpnkaa
