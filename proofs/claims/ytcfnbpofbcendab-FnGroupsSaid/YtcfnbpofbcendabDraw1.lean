/- Contracts of the model's drawing helpers: a cursor over the bytes of a draw. Each says what the call may return and which memory may have turned: nothing of what is drawn is told beyond its bounds. -/
import Derived.Test.YtcfnbpofbcendabJA
import Derived.Laws.BitsLemmas
namespace Go.Proofs.Ytcfnbpofbcendab
open Go.RowKit

/-- The slice value '.slice A zs.length c' holds the bytes zs, in a block below B. -/
def U8s (w : World) (B : Nat) (A : Option Addr) (zs : List Int) : Prop :=
  0 < zs.length → ∃ b off, A = some ⟨b, off, none⟩ ∧ b < B ∧ ∀ j, j < zs.length → w.cell? ⟨b, off + j, none⟩ = some (.int .u8 (ix zs j)) ∧ 0 ≤ ix zs j ∧ ix zs j ≤ 255
theorem U8s.keep {w w' : World} {B : Nat} {A : Option Addr} {zs : List Int} (h : U8s w B A zs) (hk : ∀ p : Addr, p.block < B → w'.cell? p = w.cell? p) : U8s w' B A zs := fun hn => by
  obtain ⟨b, off, e, hb, hc⟩ := h hn
  exact ⟨b, off, e, hb, fun j hj => ⟨(hk _ hb).trans (hc j hj).1, (hc j hj).2⟩⟩

/-- Block c is a cursor: its bytes lie below it and are at most 2^20. -/
def Cur (w : World) (c : Nat) : Prop :=
  ∃ (A : Option Addr) (cap : Nat) (zs : List Int) (i : Nat) (h : Int), Blk w c 49 #[.slice A zs.length cap, .int .i64 i, .int .i64 h] ∧ U8s w c A zs ∧ i ≤ zs.length ∧ zs.length ≤ 1048576

theorem i64_and255 (n : Int) : bits .and .i64 n 255 = n % 256 := by
  have h255 : (BitVec.ofInt 64 255).toNat = 2 ^ 8 - 1 := by decide
  have key : (BitVec.ofInt 64 n &&& BitVec.ofInt 64 255).toNat = (n % ((2 ^ 64 : Nat) : Int)).toNat % 2 ^ 8 := by
    rw [BitVec.toNat_and, BitVec.toNat_ofInt, h255, Nat.and_two_pow_sub_one_eq_mod]
  show IntKind.i64.wrap ((BitVec.ofInt 64 n &&& BitVec.ofInt 64 255).toNat : Nat) = n % 256
  rw [key, IntKind.wrap_i64]
  omega
theorem and255_in (n : Int) : 0 ≤ bits .and .i64 n 255 ∧ bits .and .i64 n 255 ≤ 255 := by rw [i64_and255]; omega
theorem Cur.of_blk {w : World} {c : Nat} {A : Option Addr} {cap : Nat} {zs : List Int} {i : Nat} {h : Int} (hB : Blk w c 49 #[.slice A zs.length cap, .int .i64 i, .int .i64 h]) (hU : U8s w c A zs) (hi : i ≤ zs.length) (hl : zs.length ≤ 1048576) : Cur w c :=
  ⟨A, cap, zs, i, h, hB, hU, hi, hl⟩
theorem U8s.set {w : World} {c : Nat} {A : Option Addr} {zs : List Int} (h : U8s w c A zs) (j : Nat) (v : Value) : U8s (w.setCell ⟨c, j, none⟩ v) c A zs :=
  h.keep fun p hp => World.cell?_setCell_other w ⟨c, j, none⟩ p v (fun e => by subst e; exact Nat.lt_irrefl _ hp)

set_option maxRecDepth 100000 in
set_option maxHeartbeats 2000000 in
theorem l1Byte_any (c : Nat) (w : World) (hC : Cur w c) :
    Calls Try.prog 44 #[.pointer (some ⟨c, 0, none⟩)] w fun e w' => ∃ x, e = .returned (.int .i64 x) ∧ 0 ≤ x ∧ x ≤ 255 ∧ Cur w' c ∧ w.grownBy w' (some c) := by
  obtain ⟨A, cap, zs, i, h, hB, hU, hi, hl⟩ := hC
  have c0 : w.cell? ⟨c, 0, none⟩ = some (.slice A zs.length cap) := hB.cell 0
  have c1 : w.cell? ⟨c, 1, none⟩ = some (.int .i64 i) := hB.cell 1
  have c2 : w.cell? ⟨c, 2, none⟩ = some (.int .i64 h) := hB.cell 2
  have f1 := hB.frozen 1
  have f2 := hB.frozen 2
  go_enter Try.func44, Try.ntmps44
  go_wp2
  have hB2 := hB.set_ 2 (.int .i64 (wrap64 (wrap64 (h * 6364136223846793005) + 1442695040888963407)))
  have hU2 := hU.set 2 (.int .i64 (wrap64 (wrap64 (h * 6364136223846793005) + 1442695040888963407)))
  have hg2 := grown_setCell w c 2 (.int .i64 (wrap64 (wrap64 (h * 6364136223846793005) + 1442695040888963407)))
  generalize wrap64 (wrap64 (h * 6364136223846793005) + 1442695040888963407) = h2 at *
  generalize w.setCell ⟨c, 2, none⟩ (.int .i64 h2) = w2 at *
  have hB3 : Blk w2 c 49 #[.slice A zs.length cap, .int .i64 i, .int .i64 h2] := hB2
  have d0 : w2.cell? ⟨c, 0, none⟩ = some (.slice A zs.length cap) := hB3.cell 0
  have d1 : w2.cell? ⟨c, 1, none⟩ = some (.int .i64 i) := hB3.cell 1
  have d2 : w2.cell? ⟨c, 2, none⟩ = some (.int .i64 h2) := hB3.cell 2
  have g1 := hB3.frozen 1
  clear c0 c1 c2 f1 f2 hB hB2 hU
  go_quiet (fail)
  go_wp2
  obtain ⟨hx0, hx1⟩ := and255_in (bits BinOp.xor IntKind.i64 (h2 / 8589934592) (h2 / 35184372088832))
  generalize bits BinOp.and IntKind.i64 (bits BinOp.xor IntKind.i64 (h2 / 8589934592) (h2 / 35184372088832)) 255 = x at *
  generalize bits BinOp.xor IntKind.i64 (h2 / 8589934592) (h2 / 35184372088832) = y at *
  have hB4 : Blk (w2.drewN nq) c 49 #[.slice A zs.length cap, .int .i64 i, .int .i64 h2] := hB3
  have hU4 : U8s (w2.drewN nq) c A zs := hU2
  have hg4 : w.grownBy (w2.drewN nq) (some c) := grown_trans hg2 (grown_drewN w2 nq _)
  clear d0 d1 d2 g1 hB3 hU2 hg2
  generalize w2.drewN nq = w4 at *
  have d0 : w4.cell? ⟨c, 0, none⟩ = some (.slice A zs.length cap) := hB4.cell 0
  have d1 : w4.cell? ⟨c, 1, none⟩ = some (.int .i64 i) := hB4.cell 1
  have g1 := hB4.frozen 1
  by_cases hlt : i < zs.length
  · obtain ⟨b, off, rfl, hbb, hc⟩ := hU4 (by omega)
    obtain ⟨hc1, hz0, hz1⟩ := hc i hlt
    clear hc
    go_quiet (fail)
    go_wp2
    go_quiet (fail)
    go_wp2
    go_ret
    obtain ⟨hy0, hy1⟩ := and255_in (x + ix zs i)
    refine ⟨_, rfl, hy0, hy1, Cur.of_blk (A := some ⟨b, off, none⟩) (cap := cap) (zs := zs) (i := i + 1) (h := h2) ?_ (U8s.set hU4 1 _) (by omega) hl, grown_trans hg4 (grown_trans (grown_drewN _ _ _) (grown_setCell _ c 1 _))⟩
    rw [Int.natCast_add]
    exact Blk.set_ (hB4.drewN _) 1 (.int .i64 ((i : Int) + 1))
  · have hd : decide (i < zs.length) = false := by simpa using hlt
    go_quiet (fail)
    go_wp2
    go_ret
    exact ⟨x, rfl, hx0, hx1, Cur.of_blk (hB4.drewN _) hU4 hi hl, grown_trans hg4 (grown_drewN _ _ _)⟩

theorem Cur.lt {w : World} {c : Nat} (h : Cur w c) : c < w.heap.size := by
  obtain ⟨A, cap, zs, i, h, hB, _⟩ := h
  exact hB.lt
/-- What turns nothing but blocks made since keeps a cursor. -/
theorem Cur.below {w w' : World} {c : Nat} (h : Cur w c) (hb : Below w.heap.size w w') : Cur w' c := by
  have hlt := h.lt
  obtain ⟨A, cap, zs, i, h, hB, hU, hi, hl⟩ := h
  exact ⟨A, cap, zs, i, h, hB.below hb hlt, hU.keep fun p hp => hb.cell (Nat.lt_trans hp hlt), hi, hl⟩
theorem Cur.grown {w w' : World} {c : Nat} {row : Option Nat} (h : Cur w c) (hg : w.grownBy w' row) (hr : ∀ r, row = some r → c < r) : Cur w' c := by
  have hlt := h.lt
  obtain ⟨A, cap, zs, i, h, hB, hU, hi, hl⟩ := h
  refine ⟨A, cap, zs, i, h, hB.grown hg (fun e => by have := hr c e.symm; omega), hU.keep fun p hp => ?_, hi, hl⟩
  exact World.cell?_of_block (hg.block p.block (Nat.lt_trans hp hlt) (fun e => by have := hr _ e.symm; omega))

set_option maxRecDepth 100000 in
set_option maxHeartbeats 2000000 in
theorem l1Below_any (c : Nat) (n : Int) (w : World) (hC : Cur w c) (hn1 : n ≤ 1000000000000) (hn0 : -1000000000000 ≤ n) :
    Calls Try.prog 28 #[.pointer (some ⟨c, 0, none⟩), .int .i64 n] w fun e w' => ∃ x, e = .returned (.int .i64 x) ∧ 0 ≤ x ∧ (0 < n → x < n) ∧ (n ≤ 0 → x = 0) ∧ Cur w' c ∧ w.grownBy w' (some c) := by
  by_cases hpos : n ≤ 0
  · go_enter Try.func28, Try.ntmps28
    go_wp2
    go_ret
    exact ⟨0, rfl, by omega, fun h => by omega, fun _ => rfl, hC, World.grownBy.refl _ _⟩
  · by_cases h256 : n ≤ 256
    · have hne : (n == 0) = false := by rw [beq_eq_false_iff_ne]; omega
      go_enter Try.func28, Try.ntmps28
      go_wp2_with fail
      refine (l1Byte_any c _ hC).mono ?_
      rintro e w1 ⟨x, rfl, hx0, hx1, hC1, hg1⟩
      have hm0 : 0 ≤ x % n := Int.emod_nonneg _ (by omega)
      have hm1 : x % n < n := Int.emod_lt_of_pos _ (by omega)
      go_wp2
      go_ret
      exact ⟨_, rfl, hm0, fun _ => hm1, fun h => by omega, hC1, hg1⟩
    · have hne : (n == 0) = false := by rw [beq_eq_false_iff_ne]; omega
      go_enter Try.func28, Try.ntmps28
      go_wp2_with fail
      refine (l1Byte_any c _ hC).mono ?_
      rintro e w1 ⟨x1, rfl, hx10, hx11, hC1, hg1⟩
      go_wp2_with fail
      refine (l1Byte_any c _ hC1).mono ?_
      rintro e w2 ⟨x2, rfl, hx20, hx21, hC2, hg2⟩
      go_wp2_with fail
      refine (l1Byte_any c _ hC2).mono ?_
      rintro e w3 ⟨x3, rfl, hx30, hx31, hC3, hg3⟩
      go_wp2_with fail
      refine (l1Byte_any c _ hC3).mono ?_
      rintro e w4 ⟨x4, rfl, hx40, hx41, hC4, hg4⟩
      have hm0 : 0 ≤ (x1 * 16777216 + x2 * 65536 + x3 * 256 + x4) % n := Int.emod_nonneg _ (by omega)
      have hm1 : (x1 * 16777216 + x2 * 65536 + x3 * 256 + x4) % n < n := Int.emod_lt_of_pos _ (by omega)
      go_wp2
      go_ret
      exact ⟨_, rfl, hm0, fun _ => hm1, fun h => by omega, hC4, grown_trans (grown_trans (grown_trans hg1 hg2) hg3) hg4⟩

theorem l1Once_any (c : Nat) (n : Int) (w : World) (hC : Cur w c) (hn1 : n ≤ 1000000000000) (hn0 : -1000000000000 ≤ n) :
    Calls Try.prog 14 #[.pointer (some ⟨c, 0, none⟩), .int .i64 n] w fun e w' => ∃ b : Bool, e = .returned (.bool b) ∧ Cur w' c ∧ w.grownBy w' (some c) := by
  go_enter Try.func14, Try.ntmps14
  go_wp2_with fail
  refine (l1Below_any c n _ hC hn1 hn0).mono ?_
  rintro e w1 ⟨x, rfl, _, _, _, hC1, hg1⟩
  go_wp2
  go_ret
  exact ⟨_, rfl, hC1, hg1⟩
theorem l1From_any (c : Nat) (lo hi : Int) (w : World) (hC : Cur w c) (h0 : -1000000000 ≤ lo) (h1 : lo ≤ hi) (h2 : hi ≤ 1000000000) :
    Calls Try.prog 17 #[.pointer (some ⟨c, 0, none⟩), .int .i64 lo, .int .i64 hi] w fun e w' => ∃ x, e = .returned (.int .i64 x) ∧ lo ≤ x ∧ x ≤ hi ∧ Cur w' c ∧ w.grownBy w' (some c) := by
  go_enter Try.func17, Try.ntmps17
  go_wp2_with fail
  refine (l1Below_any c (hi - lo + 1) _ hC (by omega) (by omega)).mono ?_
  rintro e w1 ⟨x, rfl, hx0, hx1, _, hC1, hg1⟩
  have hx2 := hx1 (by omega)
  clear hx1
  go_wp2
  go_ret
  exact ⟨_, rfl, by omega, by omega, hC1, hg1⟩
theorem and30_in (n : Int) : 0 ≤ bits .and .i64 n 1073741823 ∧ bits .and .i64 n 1073741823 ≤ 1073741823 := by
  have h30 : (BitVec.ofInt 64 1073741823).toNat = 2 ^ 30 - 1 := by decide
  have key : (BitVec.ofInt 64 n &&& BitVec.ofInt 64 1073741823).toNat = (n % ((2 ^ 64 : Nat) : Int)).toNat % 2 ^ 30 := by
    rw [BitVec.toNat_and, BitVec.toNat_ofInt, h30, Nat.and_two_pow_sub_one_eq_mod]
  have e : bits .and .i64 n 1073741823 = IntKind.i64.wrap ((BitVec.ofInt 64 n &&& BitVec.ofInt 64 1073741823).toNat : Nat) := rfl
  rw [e, key, IntKind.wrap_i64]
  omega

set_option maxRecDepth 100000 in
set_option maxHeartbeats 2000000 in
theorem l1New_any (A : Option Addr) (cap : Nat) (zs : List Int) (w : World) (hU : U8s w w.heap.size A zs) (hl : zs.length ≤ 1048576) :
    Calls Try.prog 12 #[.slice A zs.length cap] w fun e w' => e = .returned (.pointer (some ⟨w.heap.size, 0, none⟩)) ∧ Cur w' w.heap.size ∧ Below w.heap.size w w' := by
  go_enter Try.func12, Try.ntmps12
  go_wp2
  go_loop [3, 4] (fun h i => ∃ (k : Nat) (x : Int), k ≤ zs.length ∧ i = .int .i64 k ∧ h = .int .i64 x ∧ 0 ≤ x ∧ x ≤ 1073741823) (fun _ i => zs.length - (intOf i).toNat)
  case atStart => exact ⟨0, _, Nat.zero_le _, rfl, rfl, by omega, by omega⟩
  case round =>
    obtain ⟨k, x, hk, rfl, rfl, hx0, hx1⟩ := hrel
    by_cases hlt : k < zs.length
    · obtain ⟨b, off, rfl, hb, hc⟩ := hU (by omega)
      obtain ⟨hck, hz0, hz1⟩ := hc k hlt
      clear hc
      go_wp2
      go_round
      case rel => exact ⟨k + 1, _, by omega, by go_num, rfl, (and30_in _).1, (and30_in _).2⟩
      case measure => simp [intOf]; omega
    · go_wp2
      go_ret
      refine ⟨rfl, Cur.of_blk (A := A) (cap := cap) (zs := zs) (i := 0) (h := x) (Blk.new w _ _) (hU.keep fun p hp => World.cell?_alloc_lt w _ p hp) (Nat.zero_le _) hl, (Below.refl _ _).alloc (Nat.le_refl _) _⟩
end Go.Proofs.Ytcfnbpofbcendab
