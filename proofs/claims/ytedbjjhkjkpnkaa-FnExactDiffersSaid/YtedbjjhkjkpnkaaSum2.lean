/- Contracts of the model's Minus, Change and IsSet. -/
import Derived.Test.YtedbjjhkjkpnkaaSum1
import Derived.Test.YtedbjjhkjkpnkaaJB
namespace Go.Proofs.Ytedbjjhkjkpnkaa
open Go.RowKit

theorem minus_take {a : List (List Int × Int)} {k : Nat} (h : k < a.length) : minusL (a.take (k + 1)) = minusL (a.take k) ++ [(rx a k, -nx a k)] := by
  rw [List.take_succ_eq_append_getElem h]
  unfold minusL
  rw [List.map_append]
  simp [rx, nx, h]
theorem minus_step {a b : List (List Int × Int)} {k : Nat} (h : k < a.length) (hb : b = minusL (a.take k) ++ a.drop k) : rx b k = rx a k ∧ nx b k = nx a k ∧ b.take k ++ (rx a k, -nx a k) :: b.drop (k + 1) = minusL (a.take (k + 1)) ++ a.drop (k + 1) := by
  have hl : (minusL (a.take k)).length = k := by simp [minusL]; omega
  subst hb
  refine ⟨?_, ?_, ?_⟩
  · unfold rx; rw [List.getElem?_append_right (by omega), hl, List.getElem?_drop]; simp
  · unfold nx; rw [List.getElem?_append_right (by omega), hl, List.getElem?_drop]; simp
  · rw [List.take_append_of_le_length (by omega), List.take_of_length_le (by omega), List.drop_append, minus_take h, hl, List.drop_of_length_le (by omega), List.drop_drop]
    simp
set_option maxRecDepth 100000 in
set_option maxHeartbeats 4000000 in
theorem l3Minus_any (A : Option Addr) (c : Nat) (a : List (List Int × Int)) (w : World) (hA : Bag w w.heap.size A a) (hl : a.length ≤ 1000000) (hn : ∀ p ∈ a, -1000000 ≤ p.2 ∧ p.2 ≤ 1000000) :
    Calls Try.prog 81 #[.slice A a.length c] w (OwnBag w.heap.size (minusL a) w) := by
  have HN := Lib.hid hn
  clear hn
  go_enter Try.func81, Try.ntmps81
  go_wp2_with fail
  refine (l2Copy_any A c a w hA (by omega)).mono ?_
  rintro e w1 ⟨v, es, rfl, hO, ⟨g, hg⟩, he, hb⟩
  obtain ⟨cap, rfl, hOB⟩ := hO.ob hg
  have hel : es.length = a.length := by rw [← he, List.length_map]
  have HE0 := Lib.hid he
  have hO2 : OBag w1 w.heap.size (.slice (some ⟨g, 0, none⟩) a.length cap) es := by rw [← hel]; exact hOB
  rw [hel]
  clear he hg hO hel hOB hA
  go_wp2
  go_loopw [4] (fun s wr => ∃ (k : Nat) (es : List Ent), k ≤ a.length ∧ s = .int .i64 k ∧ OBag wr w.heap.size (.slice (some ⟨g, 0, none⟩) a.length cap) es ∧ es.map Ent.pair = minusL (a.take k) ++ a.drop k ∧ Below w.heap.size w wr) (fun s _ => a.length - (intOf s).toNat)
  case atStart => exact ⟨0, es, Nat.zero_le _, rfl, hO2, by rw [HE0.out]; simp [minusL], hb⟩
  case round =>
    clear hO2 hb HE0
    obtain ⟨k, es, hk, rfl, hO, he, hW⟩ := hrel
    have HE := Lib.hid he
    have hel : es.length = a.length := by have := hO.len; omega
    have HEL := Lib.hid hel
    clear he hel
    by_cases hlt : k < a.length
    · have hke : k < es.length := by rw [HEL.out]; exact hlt
      obtain ⟨k0, k1, kf⟩ := OBag.cellsAt hO hke
      obtain ⟨m1, m2, m3⟩ := minus_step hlt HE.out
      have hnk : es[k].n = nx a k := by rw [← m2, nx_map hke]
      have hrk : rx (es.map Ent.pair) k = rx a k := m1
      have hbd : -1000000 ≤ nx a k ∧ nx a k ≤ 1000000 := by
        have := HN.out a[k] (List.getElem_mem hlt)
        rwa [show nx a k = a[k].2 by simp [nx, hlt]]
      have hOB : OB wr w.heap.size g cap es := by unfold OB; rw [HEL.out]; exact hO
      have hgl := hOB.lt
      have hOs : OBag (wr.setCell ⟨g, k * 2 + 1, none⟩ (.int .i64 (-nx a k))) w.heap.size (.slice (some ⟨g, 0, none⟩) a.length cap) (es.set k { es[k] with n := -nx a k }) := by
        have := hOB.setN hke (-nx a k)
        unfold OB at this
        rwa [List.length_set, HEL.out] at this
      have HE1 := Lib.hid (show (es.set k { es[k] with n := -nx a k }).map Ent.pair = minusL (a.take (k + 1)) ++ a.drop (k + 1) by rw [pair_setN hke, hrk, m3])
      have hWs : Below w.heap.size w (wr.setCell ⟨g, k * 2 + 1, none⟩ (.int .i64 (-nx a k))) := hW.setCell (p := ⟨g, k * 2 + 1, none⟩) (by simp; omega) _
      rw [hnk] at k1
      have HO := Lib.hid hOs
      clear m1 m2 m3 hnk hrk k0 hOB hO hOs hW
      generalize nx a k = y at *
      go_wp2
      go_roundw
      case rel => exact ⟨k + 1, _, by omega, by go_num, HO.out, HE1.out, hWs⟩
      case measure => simp [intOf]; omega
    · have hd : decide (k < a.length) = false := by simpa using hlt
      go_wp2
      go_ret
      refine ⟨g, cap, es, by rw [HEL.out]; rfl, ?_, by rw [HE.out, List.take_of_length_le (by omega), List.drop_of_length_le (by omega), List.append_nil], hW⟩
      unfold OB; rw [HEL.out]; exact hO
def isSetB (b : List (List Int × Int)) : Bool := (b.all fun p => p.2 == 1) && bagOkB b
theorem isSet_no {b : List (List Int × Int)} {k : Nat} (h : k < b.length) (hn : nx b k ≠ 1) : isSetB b = false := by
  unfold isSetB
  rw [List.all_eq_false.2 ⟨b[k], List.getElem_mem h, by simpa [nx, h] using hn⟩]; rfl
end Go.Proofs.Ytedbjjhkjkpnkaa
