/- The laws' words on lists of texts: comparing, marking, whether the marks stand; nothing that lay has turned but the row that is marked. -/
import Derived.Test.YtpadhcoboapodaaDoorTbo1
import Derived.Test.YtpadhcoboapodaaDoorMkT
import Derived.Deep.RegionHeld3
namespace Go.Proofs.YtpadhcoboapodaaDoor
open Go.RowKit

set_option maxRecDepth 100000 in
set_option maxHeartbeats 1000000 in
theorem eqStringS_same (A A' : Option Addr) (c c' : Nat) (l : List ByteArray) (w : World) (hB : Strs w w.heap.size A l) (hB' : Strs w w.heap.size A' l) (hl : l.length ≤ 1099511627776) :
    Calls Tryd.prog 21 #[.slice A l.length c, .slice A' l.length c'] w fun e w' => e = .returned (.bool true) ∧ Below w.heap.size w w' := by
  have hb : ((l.length : Int) != (l.length : Int)) = false := by simp
  go_enter Tryd.func21, Tryd.ntmps21
  go_wp2
  go_loopw [5] (fun i wr => ∃ k : Nat, k ≤ l.length ∧ i = .int .i64 k ∧ Below w.heap.size w wr) (fun i _ => l.length - (intOf i).toNat)
  case atStart => exact ⟨0, Nat.zero_le _, rfl, Below.refl _ _⟩
  case round =>
    obtain ⟨k, hk, rfl, hW⟩ := hrel
    by_cases hlt : k < l.length
    · obtain ⟨b, off, rfl, hbb, hc⟩ := (hB.below hW) (by omega)
      obtain ⟨b', off', rfl, hbb', hc'⟩ := (hB'.below hW) (by omega)
      have h1 := hc k hlt
      have h2 := hc' k hlt
      have hbs : ((sx l k).toList != (sx l k).toList) = false := by simp
      have hki : (k : Int) < (l.length : Int) := by omega
      clear hc hc' hB hB' hb
      go_wp2_with fail
      go_quiet (fail)
      have hW2 := bel_drewN hW nq
      go_wp2
      go_roundw
      case rel => exact ⟨k + 1, by omega, by go_num, hW2⟩
      case measure => simp [intOf]; omega
    · have hd : decide (k < l.length) = false := by simpa using hlt
      go_wp2
      go_ret
      exact ⟨rfl, hW⟩
/-- Marks of texts from m on, n of them. -/
def mkT (m n : Nat) : List ByteArray := (List.range n).map fun j => mt (m + j)
theorem mkT_length (m n : Nat) : (mkT m n).length = n := by simp [mkT]
theorem mkT_sx (m n j : Nat) (h : j < n) : sx (mkT m n) j = mt (m + j) := by simp [sx, mkT, h]
def mkg (m : Nat) (l : List ByteArray) (j : Nat) : List ByteArray := mkT m j ++ l.drop j
theorem mkg_length {m : Nat} {l : List ByteArray} {j : Nat} (h : j ≤ l.length) : (mkg m l j).length = l.length := by simp [mkg, mkT_length]; omega
theorem mkg_step {m : Nat} {l : List ByteArray} {j : Nat} (h : j < l.length) : (strl (mkg m l j)).set j (.string (mt (m + j))) = strl (mkg m l (j + 1)) := by
  have hl := mkg_length (m := m) (l := l) (j := j) (by omega)
  have hl2 := mkg_length (m := m) (l := l) (j := j + 1) (by omega)
  apply List.ext_getElem?
  intro q
  rw [List.getElem?_set]
  unfold strl
  rw [List.length_map, hl]
  by_cases e : j = q
  · subst e
    rw [if_pos rfl, if_pos h, List.getElem?_map]
    unfold mkg
    rw [List.getElem?_append_left (by rw [mkT_length]; omega)]
    simp [mkT]
  · rw [if_neg e, List.getElem?_map, List.getElem?_map]
    congr 1
    unfold mkg
    by_cases hq : q < j
    · rw [List.getElem?_append_left (by rw [mkT_length]; omega), List.getElem?_append_left (by rw [mkT_length]; omega)]
      simp [mkT, hq, show q < j + 1 by omega]
    · rw [List.getElem?_append_right (by rw [mkT_length]; omega), List.getElem?_append_right (by rw [mkT_length]; omega), mkT_length, mkT_length, List.getElem?_drop, List.getElem?_drop]
      congr 1
      omega
theorem own_set {w : World} {base n c g j : Nat} {e : TypeId} {xs : List Value} (h : w.ownsRow base e 1 (.slice (some ⟨g, 0, none⟩) n c) n xs) (u : Value) : (w.setCell ⟨g, j, none⟩ u).ownsRow base e 1 (.slice (some ⟨g, 0, none⟩) n c) n (xs.set j u) := by
  obtain ⟨h1, h2⟩ := h
  refine ⟨by rw [List.length_set]; exact h1, ?_⟩
  rcases h2 with ⟨h3, _⟩ | ⟨g', cap, cur, h3, h4, h5, h6, h7, h8, h9⟩
  · cases h3
  · injection h3 with e1 e2 e3
    injection e1 with e1
    injection e1 with e1 _ _
    subst e1
    refine .inr ⟨g, cap, cur.setIfInBounds j u, by rw [e3], h4, Blk.set_ (t := e) h5 j u, h6, h7, by simpa using h8, ?_⟩
    rw [Array.toList_setIfInBounds, ← h9, List.take_set]
set_option maxRecDepth 100000 in
set_option maxHeartbeats 1000000 in
theorem markStringS_any (g c m base : Nat) (l : List ByteArray) (w : World) (hO : w.ownsRow base 9 1 (.slice (some ⟨g, 0, none⟩) l.length c) l.length (strl l)) (hl : l.length ≤ 1048576) (hm1 : 1 ≤ m) (hm : m ≤ 100000000) :
    Calls Tryd.prog 23 #[.slice (some ⟨g, 0, none⟩) l.length c, .int .i64 m] w fun e w' => e = .returned (.int .i64 ((m + l.length : Nat) : Int)) ∧ w'.ownsRow base 9 1 (.slice (some ⟨g, 0, none⟩) l.length c) l.length (strl (mkT m l.length)) ∧ w.grownBy w' (some g) := by
  obtain ⟨n, hn⟩ : ∃ n, l.length = n := ⟨_, rfl⟩
  have HNL := Lib.hid hn
  rw [hn] at hO hl ⊢
  have o0 : w.ownsRow base 9 1 (.slice (some ⟨g, 0, none⟩) n c) n (strl (mkg m l 0)) := by unfold mkg mkT; simpa using hO
  clear hO hn
  go_enter Tryd.func23, Tryd.ntmps23
  go_wp2
  go_loopw [1, 5] (fun mm i wr => ∃ k : Nat, k ≤ n ∧ i = .int .i64 k ∧ mm = .int .i64 ((m + k : Nat) : Int) ∧ wr.ownsRow base 9 1 (.slice (some ⟨g, 0, none⟩) n c) n (strl (mkg m l k)) ∧ w.grownBy wr (some g)) (fun _ i _ => n - (intOf i).toNat)
  case atStart => exact ⟨0, Nat.zero_le _, rfl, rfl, o0, World.grownBy.refl w _⟩
  case round =>
    clear o0
    obtain ⟨k, hk, rfl, rfl, hO, hW⟩ := hrel
    by_cases hlt : k < n
    · go_wp2_with fail
      refine (markText_any (m + k) wr (by omega) (by omega)).mono ?_
      rintro e w1 ⟨rfl, hb1⟩
      have hO1 := hO.kept (grown_of_below hb1) (.inr (by simp [Value.ownBlock]))
      have hgl := (hO1.lt g rfl).2
      have x0 : w1.cell? ⟨g, k, none⟩ = (strl (mkg m l k))[k]? := hO1.cellAt k (by omega)
      obtain ⟨u, hu⟩ : ∃ u, (strl (mkg m l k))[k]? = some u := ⟨_, List.getElem?_eq_getElem (by have := hO1.1; omega)⟩
      rw [hu] at x0
      have f0 := hO1.frozenAt k
      have hS := Lib.hid (own_set (j := k) hO1 (.string (mt (m + k))))
      have hW1 : w.grownBy (w1.setCell ⟨g, k, none⟩ (.string (mt (m + k)))) (some g) := grown_trans (grown_trans hW (by have := grown_of_below hb1; exact ⟨this.os, this.tape, this.output, this.size, fun j hj _ => this.block j hj (by simp)⟩)) (grown_setCell _ _ _ _)
      have HW1 := Lib.hid hW1
      have HST := Lib.hid (mkg_step (m := m) (l := l) (j := k) (by have := HNL.out; omega))
      have hwr : IntKind.i64.wrap (((m + k : Nat) : Int) + 1) = ((m + (k + 1) : Nat) : Int) := by rw [IntKind.wrap_i64]; omega
      clear hO hW hW1 hO1 hu hb1
      obtain ⟨M, hM⟩ : ∃ M : Int, ((m + k : Nat) : Int) = M := ⟨_, rfl⟩
      rw [hM] at hwr ⊢
      generalize mt (m + k) = tx at *
      clear hM
      go_wp2
      go_roundw
      case rel => exact ⟨k + 1, by omega, by go_num, by first | rfl | (congr 1), by rw [← HST.out]; exact hS.out, HW1.out⟩
      case measure => simp [intOf]; omega
    · have hd : decide (k < n) = false := by simpa using hlt
      obtain rfl : k = n := by omega
      have HE := Lib.hid (show mkg m l k = mkT m k by unfold mkg; rw [List.drop_eq_nil_iff.2 (by have := HNL.out; omega), List.append_nil])
      rw [HE.out] at hO
      obtain ⟨M, hM⟩ : ∃ M : Int, ((m + k : Nat) : Int) = M := ⟨_, rfl⟩
      rw [hM]
      have HM := Lib.hid hM
      clear hM
      go_wp2
      go_ret
      exact ⟨ret_int HM.out.symm, hO, hW⟩
set_option maxRecDepth 100000 in
set_option maxHeartbeats 1000000 in
theorem heldStringS_any (A : Option Addr) (c m n : Nat) (w : World) (hS : Strs w w.heap.size A (mkT m n)) (hl : n ≤ 1048576) (hm1 : 1 ≤ m) (hm : m ≤ 100000000) :
    Calls Tryd.prog 24 #[.slice A n c, .int .i64 m] w fun e w' => e = .returned (.int .i64 ((m + n : Nat) : Int)) ∧ Below w.heap.size w w' := by
  go_enter Tryd.func24, Tryd.ntmps24
  go_wp2
  go_loopw [1, 5] (fun mm i wr => ∃ k : Nat, k ≤ n ∧ i = .int .i64 k ∧ mm = .int .i64 ((m + k : Nat) : Int) ∧ Below w.heap.size w wr) (fun _ i _ => n - (intOf i).toNat)
  case atStart => exact ⟨0, Nat.zero_le _, rfl, rfl, Below.refl _ _⟩
  case round =>
    obtain ⟨k, hk, rfl, rfl, hW⟩ := hrel
    by_cases hlt : k < n
    · obtain ⟨b, off, rfl, hb, hc⟩ := (hS.below hW) (by rw [mkT_length]; omega)
      have hck := hc k (by rw [mkT_length]; exact hlt)
      rw [mkT_sx m n k hlt] at hck
      have HMT := Lib.hid (show ∀ W, Calls Tryd.prog 51 #[.int .i64 ((m + k : Nat) : Int)] W fun e w' => e = .returned (.string (mt (m + k))) ∧ Below W.heap.size W w' from fun W => markText_any (m + k) W (by omega) (by omega))
      have hbl : b < wr.heap.size := by have := hW.size; omega
      have hwr : IntKind.i64.wrap (((m + k : Nat) : Int) + 1) = ((m + (k + 1) : Nat) : Int) := by rw [IntKind.wrap_i64]; omega
      have hki : (k : Int) < (n : Int) := by omega
      obtain ⟨M, hM⟩ : ∃ M : Int, ((m + k : Nat) : Int) = M := ⟨_, rfl⟩
      rw [hM] at hwr HMT ⊢
      generalize mt (m + k) = tx at *
      have htx : (tx.toList != tx.toList) = false := by simp
      have HCK := Lib.hid hck
      clear hM hc hS
      go_wp2_with fail
      go_region_held3 (fun w' => w'.cell? ⟨b, off + k, none⟩ = some (.string tx))
        (first | go_keep | exact k0)
        (first | (go_at_call 51; refine (HMT.out _).mono ?_; rintro e w3 ⟨rfl, hb3⟩; have hk3 : Below wr.heap.size wr w3 := (bel_drewN (Below.refl _ _) 1).trans hb3; have k0 := (hk3.cell (p := ⟨b, off + k, none⟩) hbl).trans HCK.out))
      have hW3 := bel_step hW hk3
      go_wp2
      go_roundw
      case rel => exact ⟨k + 1, by omega, by go_num, by first | rfl | (congr 1), hW3⟩
      case measure => simp [intOf]; omega
    · have hd : decide (k < n) = false := by simpa using hlt
      obtain rfl : k = n := by omega
      obtain ⟨M, hM⟩ : ∃ M : Int, ((m + k : Nat) : Int) = M := ⟨_, rfl⟩
      rw [hM]
      have HM := Lib.hid hM
      clear hM
      go_wp2
      go_ret
      exact ⟨ret_int HM.out.symm, hW⟩
end Go.Proofs.YtpadhcoboapodaaDoor
