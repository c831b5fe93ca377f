/- Contracts of the model's Minus, Change, l1Min and Least: own bags that read as told; a number; nothing that lay has turned. -/
import Derived.Test.YtedbjjhkjkpnkaaSum2
import Derived.Test.YtedbjjhkjkpnkaaMergeThy
namespace Go.Proofs.Ytedbjjhkjkpnkaa
open Go.RowKit

theorem OwnBag.low {lo lo' : Nat} {bag : List (List Int × Int)} {w0 w : World} {e : Ending} {w' : World} (h : OwnBag lo bag w e w') (hl : lo' ≤ lo) (hb : Below lo' w0 w) : OwnBag lo' bag w0 e w' := by
  obtain ⟨g, cap, es, he, hO, hp, hb'⟩ := h
  exact ⟨g, cap, es, he, OBag.lower hO hl, hp, hb.trans (hb'.mono hl)⟩
/-- A bag in order turned round; else the empty bag. -/
def minusB (a : List (List Int × Int)) : List (List Int × Int) := if bagOkB a = true then minusL a else []
set_option maxRecDepth 100000 in
set_option maxHeartbeats 4000000 in
theorem l3Change_any (A A' : Option Addr) (c c' : Nat) (a b : List (List Int × Int)) (w : World) (hA : Bag w w.heap.size A a) (hB : Bag w w.heap.size A' b) (hl : a.length ≤ 1000000) (hl' : b.length ≤ 1000000) (hn : ∀ p ∈ a, -1000000 ≤ p.2 ∧ p.2 ≤ 1000000) :
    Calls Try.prog 49 #[.slice A a.length c, .slice A' b.length c'] w (OwnBag w.heap.size (changeL a b) w) := by
  have HR := Lib.hid (show ∀ p ∈ minusL a, p.1.length ≤ 1099511627776 from fun p hp => by
    obtain ⟨q, hq, rfl⟩ := List.mem_map.1 hp
    exact rows_mem.1 hA.le q hq)
  go_enter Try.func49, Try.ntmps49
  go_wp2_with fail
  refine (l3Minus_any A c a w hA hl hn).mono ?_
  rintro e w1 ⟨g, cap, es, rfl, hO1, he1, hb1⟩
  have hel : es.length = (minusL a).length := by rw [← he1, List.length_map]
  have hM : Bag w1 w1.heap.size (some ⟨g, 0, none⟩) (minusL a) := OBag.bagW hO1 he1 (rows_mem.2 HR.out)
  have hB1 := hB.on hb1
  have hml : (minusL a).length ≤ 1000000 := by rw [minus_length]; exact hl
  rw [hel]
  clear hel he1 hn
  obtain ⟨m, hm⟩ : ∃ m, minusL a = m := ⟨_, rfl⟩
  have HC := Lib.hid (show changeL a b = plusL b m by unfold changeL; rw [hm])
  rw [hm] at hM hml ⊢
  clear hm HR hA
  go_wp2_with fail
  refine (l3Plus_any A' _ c' cap b m w1 hB1 hM hl' hml).mono ?_
  rintro e w3 hq
  obtain ⟨g3, cap3, es3, rfl, hO3, he3, hb3⟩ := hq.low hb1.size hb1
  have HE := Lib.hid he3
  clear he3
  go_wp2
  go_ret
  exact ⟨g3, cap3, es3, rfl, hO3, by rw [HE.out, HC.out], hb3⟩
/-- Two bags in order: what comes from the one to the other; else the empty bag. -/
def changeB (a b : List (List Int × Int)) : List (List Int × Int) := if (bagOkB a && bagOkB b) = true then changeL a b else []
/-- The least number of the first k counts (of the first one alone where k is 0). -/
def lstTo (b : List (List Int × Int)) (k : Nat) : Int := (b.take k).foldl (fun m p => min m p.2) (nx b 0)
theorem lst_zero (b : List (List Int × Int)) : lstTo b 0 = nx b 0 := by simp [lstTo]
theorem lst_succ {b : List (List Int × Int)} {k : Nat} (h : k < b.length) : lstTo b (k + 1) = min (lstTo b k) (nx b k) := by
  unfold lstTo
  rw [List.take_succ_eq_append_getElem h, List.foldl_append]
  simp [nx, h]
theorem lst_one {b : List (List Int × Int)} (h : 0 < b.length) : lstTo b 1 = nx b 0 := by
  rw [lst_succ h, lst_zero]; omega
def leastB (b : List (List Int × Int)) : Int := if bagOkB b = true ∧ 0 < b.length then lstTo b b.length else 0
end Go.Proofs.Ytedbjjhkjkpnkaa
