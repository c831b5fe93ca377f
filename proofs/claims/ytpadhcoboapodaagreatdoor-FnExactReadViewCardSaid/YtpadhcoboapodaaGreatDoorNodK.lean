/- Where words have one: slices.Index over texts; no condition. -/
import Derived.Test.YtpadhcoboapodaaGreatDoorNodP
namespace Go.Proofs.YtpadhcoboapodaaGreatDoor
open Go.RowKit

/-- Where a word stands; -1: nowhere. -/
def idxW (l : List (List UInt8)) (x : List UInt8) : Int := if x ∈ l then (l.findIdx (· == x) : Int) else -1
theorem idxW_at {ws : List ByteArray} {t : ByteArray} {k : Nat} (hk : k < ws.length) (h : ∀ j, j < k → bl (sx ws j) ≠ bl t) (e : bl (sx ws k) = bl t) : idxW (ws.map bl) (bl t) = k := by
  have hk2 : k < (ws.map bl).length := by simpa using hk
  have hm : bl t ∈ ws.map bl := by rw [← e, ← word_at ws hk hk2]; exact List.getElem_mem hk2
  unfold idxW
  rw [if_pos hm]
  congr 1
  rw [List.findIdx_eq hk2]
  refine ⟨by rw [word_at ws hk hk2, e]; simp, fun j hj => ?_⟩
  rw [word_at ws (by omega) (by simp; omega)]
  exact beq_eq_false_iff_ne.2 (h j hj)
theorem idxW_no {ws : List ByteArray} {t : ByteArray} (h : ∀ j, j < ws.length → bl (sx ws j) ≠ bl t) : idxW (ws.map bl) (bl t) = -1 := by
  unfold idxW
  rw [if_neg]
  intro hm
  obtain ⟨u, hu, e⟩ := List.mem_map.1 hm
  obtain ⟨j, hj, rfl⟩ := List.mem_iff_getElem.1 hu
  exact h j hj (by rw [sx_eq ws j hj]; exact e)
set_option maxRecDepth 100000 in
set_option maxHeartbeats 800000 in
theorem slicesIndex_any (A : Option Addr) (c : Nat) (ws : List ByteArray) (t : ByteArray) (w : World) (hS : Strs w w.heap.size A ws) (hl : ws.length ≤ 1073741825) :
    Calls Tryz.prog 47 #[.slice A ws.length c, .string t] w fun e w' => e = .returned (.int .i64 (idxW (ws.map bl) (bl t))) ∧ w = w' := by
  obtain ⟨R, hR⟩ : ∃ R, idxW (ws.map bl) (bl t) = R := ⟨_, rfl⟩
  have HR := Lib.hid hR
  rw [hR]
  clear hR
  go_enter Tryz.func47, Tryz.ntmps47
  go_wp2
  go_loop [8] (fun i => ∃ k : Nat, k ≤ ws.length ∧ i = .int .i64 k ∧ ∀ j, j < k → bl (sx ws j) ≠ bl t) (fun i => ws.length - (intOf i).toNat)
  case atStart => exact ⟨0, Nat.zero_le _, rfl, fun j hj => absurd hj (by omega)⟩
  case round =>
    obtain ⟨k, hk, rfl, ht⟩ := hrel
    have HT := Lib.hid ht
    clear ht
    by_cases hlt : k < ws.length
    · obtain ⟨b, off, rfl, hb, hc⟩ := hS (by omega)
      have hck := hc k hlt
      clear hc
      by_cases hy : bl (sx ws k) = bl t
      · have HD := Lib.hid (show R = k by rw [← HR.out]; exact idxW_at hlt HT.out hy)
        have hbe : (t.toList == (sx ws k).toList) = true := by rw [toList_bl, toList_bl, hy]; simp
        clear hy
        go_wp2
        go_ret
        exact ⟨by rw [HD.out]; rfl, rfl⟩
      · have HN := Lib.hid (show ∀ j, j < k + 1 → bl (sx ws j) ≠ bl t from fun j hj => by
          by_cases e : j = k
          · subst e; exact hy
          · exact HT.out j (by omega))
        have hbe : (t.toList == (sx ws k).toList) = false := by rw [toList_bl, toList_bl]; simp; exact fun e => hy e.symm
        clear hy
        go_wp2
        go_round
        case rel => exact ⟨k + 1, by omega, by go_num, HN.out⟩
        case measure => simp [intOf]; omega
    · obtain rfl : k = ws.length := by omega
      have HD := Lib.hid (show R = -1 by rw [← HR.out]; exact idxW_no HT.out)
      go_wp2
      go_ret
      exact ⟨by rw [HD.out]; rfl, rfl⟩
end Go.Proofs.YtpadhcoboapodaaGreatDoor
