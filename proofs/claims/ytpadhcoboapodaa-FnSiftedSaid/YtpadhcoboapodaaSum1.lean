/- Contracts of the model's sums: l3Plus, Plus, l3Minus, Minus, l3Change, Change, IsSet, l1Min, Least: a bag of the call's own that reads as told; nothing that lay has turned. -/
import Derived.Test.YtpadhcoboapodaaJC
import Derived.Test.YtpadhcoboapodaaBagI2
namespace Go.Proofs.Ytpadhcoboapodaa
open Go.RowKit

theorem plus_take {a b : List (List Int × Int)} {k : Nat} (h : k < b.length) : plusL a (b.take (k + 1)) = withL (plusL a (b.take k)) (rx b k) (nx b k) := by
  rw [List.take_succ_eq_append_getElem h]
  unfold plusL
  rw [List.foldl_append]
  simp [rx, nx, h]
set_option maxRecDepth 100000 in
set_option maxHeartbeats 4000000 in
theorem l3Plus_any (A A' : Option Addr) (c c' : Nat) (a b : List (List Int × Int)) (w : World) (hA : Bag w w.heap.size A a) (hB : Bag w w.heap.size A' b) (hl : a.length ≤ 1000000) (hl' : b.length ≤ 1000000) :
    Calls Try.prog 23 #[.slice A a.length c, .slice A' b.length c'] w (OwnBag w.heap.size (plusL a b) w) := by
  have HLa := Lib.hid (rows_mem.1 hA.le)
  have HLb := Lib.hid (rows_mem.1 hB.le)
  go_enter Try.func23, Try.ntmps23
  go_wp2_with fail
  refine (l2Copy_any A c a w hA (by omega)).mono ?_
  rintro e w1 ⟨v, es, rfl, hO, ⟨g, hg⟩, he, hb⟩
  obtain ⟨cap, rfl, hOB⟩ := hO.ob hg
  have HE0 := Lib.hid he
  clear he hg hO
  go_wp2
  go_loopw [5, 6] (fun v s wr => ∃ (k g cap : Nat) (es : List Ent), k ≤ b.length ∧ s = .int .i64 k ∧ v = .slice (some ⟨g, 0, none⟩) es.length cap ∧ OB wr w.heap.size g cap es ∧ es.map Ent.pair = plusL a (b.take k) ∧ Below w.heap.size w wr) (fun _ s _ => b.length - (intOf s).toNat)
  case atStart => exact ⟨0, g, cap, es, Nat.zero_le _, rfl, rfl, hOB, HE0.out, hb⟩
  case round =>
    clear hOB hb HE0
    obtain ⟨k, g, cap, es, hk, rfl, rfl, hO, he, hW⟩ := hrel
    have HE := Lib.hid he
    have hel : es.length ≤ 2000000 := by
      have h1 := congrArg List.length HE.out
      have h2 := plus_length (b.take k) a
      rw [List.length_map] at h1
      rw [List.length_take] at h2
      omega
    have HES := Lib.hid (show ∀ e ∈ es, e.r.length ≤ 1099511627776 from fun e hm => by
      have : e.pair ∈ plusL a (b.take k) := by rw [← HE.out]; exact List.mem_map_of_mem hm
      exact plus_rows HLa.out (fun p hp => HLb.out p (List.mem_of_mem_take hp)) _ this)
    clear he
    by_cases hlt : k < b.length
    · obtain ⟨bb, off, rfl, hbl, hc⟩ := hB (by omega)
      obtain ⟨Ar, cr, c1, c2, c3, h4⟩ := hc k hlt
      have h1 : wr.cell? ⟨bb, off + k * 2, none⟩ = some (.slice Ar (rx b k).length cr) := (hW.cell hbl).trans c1
      have h2 : wr.cell? ⟨bb, off + k * 2 + 1, none⟩ = some (.int .i64 (nx b k)) := (hW.cell hbl).trans c2
      have h3 := c3.on hW
      clear hc c1 c2 c3
      have HC := Lib.hid (And.intro h1 h2)
      have hk0 : (0 : Int) ≤ (k : Int) := Int.natCast_nonneg _
      have hk1 : (k : Int) < (b.length : Int) := by omega
      have hsz : w.heap.size ≤ wr.heap.size := hW.size
      go_wp2_with fail
      go_region_held3 (fun w' => w'.cell? ⟨bb, off + k * 2, none⟩ = some (.slice Ar (rx b k).length cr) ∧ w'.cell? ⟨bb, off + k * 2 + 1, none⟩ = some (.int .i64 (nx b k)))
        (first | go_keep | exact ⟨(hb1.cell hbl).trans HC.out.1, (hb1.cell hbl).trans HC.out.2⟩)
        (first | (go_at_call 31; refine (l2With_any w.heap.size g cap es Ar cr (rx b k) (nx b k) _ (by exact hsz) (by exact hO) (by exact h3) (by omega) h4 HES.out).mono ?_; rintro e w2 ⟨g1, cap1, es1, rfl, hO1, he1, hb1⟩))
      have HE1 := Lib.hid (show es1.map Ent.pair = plusL a (b.take (k + 1)) by rw [he1, HE.out, plus_take hlt])
      have hW1 : Below w.heap.size w w2 := (bel_drewN hW 1).trans hb1
      clear he1 hO hW hb1 h1 h2 h3 HC
      go_wp2
      go_roundw
      case rel => exact ⟨k + 1, g1, cap1, es1, by omega, by go_num, rfl, hO1, HE1.out, hW1⟩
      case measure => simp [intOf]; omega
    · have hd : decide (k < b.length) = false := by simpa using hlt
      go_wp2
      go_ret
      exact ⟨g, cap, es, rfl, hO, by rw [HE.out, List.take_of_length_le (by omega)], hW⟩
/-- Two bags in order: their sum; else the empty bag. -/
def plusB (a b : List (List Int × Int)) : List (List Int × Int) := if (bagOkB a && bagOkB b) = true then plusL a b else []
set_option maxRecDepth 100000 in
set_option maxHeartbeats 4000000 in
theorem specPlus_any (A A' : Option Addr) (c c' : Nat) (a b : List (List Int × Int)) (w : World) (hA : Bag w w.heap.size A a) (hB : Bag w w.heap.size A' b) (hl : a.length ≤ 1099511627776) (hl' : b.length ≤ 1099511627776) :
    Calls Try.prog 10 #[.slice A a.length c, .slice A' b.length c'] w (OwnBag w.heap.size (plusB a b) w) := by
  go_enter Try.func10, Try.ntmps10
  go_wp2_with fail
  refine (specBagOk_any A c a w _ hA hl).mono ?_
  rintro e w1 ⟨rfl, n1, hw1⟩
  have hA1 : Bag w1 w1.heap.size A a := by rw [hw1]; exact hA
  have hB1 : Bag w1 w1.heap.size A' b := by rw [hw1]; exact hB
  have hb1 : Below w.heap.size w w1 := by rw [hw1]; exact bel_drewN (Below.refl _ _) n1
  have hs1 : w1.heap.size = w.heap.size := by rw [hw1]; rfl
  have HS1 := Lib.hid hs1
  clear hw1 hA hB hs1
  cases hoa : bagOkB a with
  | false =>
    have HO := Lib.hid hoa
    clear hoa
    go_wp2
    go_ret
    refine ⟨_, 0, [], rfl, OBag.nil (by have := empty_counts w1; rwa [HS1.out] at this ⊢), by simp [plusB, HO.out], hb1.alloc hb1.size _⟩
  | true =>
    have HO := Lib.hid hoa
    clear hoa
    go_wp2_with fail
    refine (specBagOk_any A' c' b w1 _ hB1 hl').mono ?_
    rintro e w2 ⟨rfl, n2, hw2⟩
    have hA2 : Bag w2 w2.heap.size A a := by rw [hw2]; exact hA1
    have hB2 : Bag w2 w2.heap.size A' b := by rw [hw2]; exact hB1
    have hb2 : Below w.heap.size w w2 := by rw [hw2]; exact bel_drewN hb1 n2
    have HS2 := Lib.hid (show w2.heap.size = w.heap.size by rw [hw2]; exact HS1.out)
    clear hw2 hA1 hB1 hb1 HS1
    cases hob : bagOkB b with
    | false =>
      have HO2 := Lib.hid hob
      clear hob
      go_wp2
      go_ret
      refine ⟨_, 0, [], rfl, OBag.nil (by have := empty_counts w2; rwa [HS2.out] at this ⊢), by simp [plusB, HO2.out], hb2.alloc hb2.size _⟩
    | true =>
      have HO2 := Lib.hid hob
      have hla := (bagOk_fit HO.out).2
      have hlb := (bagOk_fit HO2.out).2
      clear hob
      go_wp2_with fail
      refine (l3Plus_any A A' c c' a b w2 hA2 hB2 (by omega) (by omega)).mono ?_
      rintro e w3 ⟨g, cap, es, rfl, hO3, he3, hb3⟩
      rw [HS2.out] at hO3 hb3
      have HE := Lib.hid he3
      clear he3
      go_wp2
      go_ret
      exact ⟨g, cap, es, rfl, hO3, by rw [HE.out]; simp [plusB, HO.out, HO2.out], hb2.trans hb3⟩
end Go.Proofs.Ytpadhcoboapodaa
