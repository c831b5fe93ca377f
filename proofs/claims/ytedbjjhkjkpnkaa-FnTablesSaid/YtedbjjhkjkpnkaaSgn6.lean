/- Contracts of the program's Plus and Change: an own bag that reads as told; nothing that lay has turned. -/
import Derived.Test.YtedbjjhkjkpnkaaSgn5
namespace Go.Proofs.Ytedbjjhkjkpnkaa
open Go.RowKit

theorem OwnB.low {bag : List (List Int × Int)} {w0 w : World} {e : Ending} {w' : World} (h : OwnB bag w e w') (hb : Below w0.heap.size w0 w) : OwnB bag w0 e w' := by
  obtain ⟨v, es, he, hO, hp, hb'⟩ := h
  exact ⟨v, es, he, hO.lower hb.size, hp, hb.trans (hb'.mono hb.size)⟩
theorem plusB_yes {a b : List (List Int × Int)} (ha : bagOkB a = true) (hb : bagOkB b = true) : plusB a b = mergeL a b := by
  have fa := bagOk_fit ha
  have fb := bagOk_fit hb
  unfold plusB
  rw [ha, hb, merge_plus fa.1 fb.1 (by omega)]
  rfl
theorem merge_rows {m : Nat} {a b : List (List Int × Int)} (ha : bagOkB a = true) (hb : bagOkB b = true) (h1 : ∀ p ∈ a, p.1.length ≤ m) (h2 : ∀ p ∈ b, p.1.length ≤ m) : ∀ p ∈ mergeL a b, p.1.length ≤ m := by
  rw [merge_plus (bagOk_fit ha).1 (bagOk_fit hb).1 (by have := (bagOk_fit hb).2; omega)]
  exact plus_rows h1 h2

set_option maxRecDepth 100000 in
set_option maxHeartbeats 4000000 in
theorem implPlus_any (A A' : Option Addr) (c c' : Nat) (a b : List (List Int × Int)) (w : World) (hA : Bag w w.heap.size A a) (hB : Bag w w.heap.size A' b) (hca : a.length ≤ c) (hcb : b.length ≤ c') (hl : a.length ≤ 1099511627776) (hl' : b.length ≤ 1099511627776) :
    Calls Try.prog 37 #[.slice A a.length c, .slice A' b.length c'] w (OwnB (plusB a b) w) := by
  go_enter Try.func37, Try.ntmps37
  go_wp2_with fail
  refine (implBagOk_any A c a w hA hl).mono ?_
  rintro e w1 ⟨rfl, hb1⟩
  have hA1 := hA.on hb1
  have hB1 := hB.on hb1
  have hs1 := hb1.size
  clear hA hB
  cases hoa : bagOkB a with
  | false =>
    have HM := Lib.hid (show plusB a b = [] by simp [plusB, hoa])
    clear hoa
    go_wp2
    go_ret
    exact ⟨_, [], rfl, empty_at w1 _ hs1, by rw [HM.out]; rfl, hb1.alloc hs1 _⟩
  | true =>
    have HOA := Lib.hid hoa
    clear hoa
    go_wp2_with fail
    refine (implBagOk_any A' c' b w1 hB1 hl').mono ?_
    rintro e w2 ⟨rfl, hb2⟩
    have hA2 := hA1.on hb2
    have hB2 := hB1.on hb2
    have hW2 := bel_step hb1 hb2
    have hs2 := hW2.size
    clear hA1 hB1 hb1 hb2 hs1
    cases hob : bagOkB b with
    | false =>
      have HM := Lib.hid (show plusB a b = [] by simp [plusB, hob])
      clear hob
      go_wp2
      go_ret
      exact ⟨_, [], rfl, empty_at w2 _ hs2, by rw [HM.out]; rfl, hW2.alloc hs2 _⟩
    | true =>
      have HM := Lib.hid (plusB_yes HOA.out hob)
      have hla := (bagOk_fit HOA.out).2
      have hlb := (bagOk_fit hob).2
      have HNA := Lib.hid (bagOk_fit HOA.out).1.2.2
      have HNB := Lib.hid (bagOk_fit hob).1.2.2
      have hml : (mergeL a b).length ≤ 1099511627776 := by
        have := plus_length b a
        rw [← merge_plus (bagOk_fit HOA.out).1 (bagOk_fit hob).1 (by omega)] at this
        omega
      clear hob
      go_wp2_with fail
      refine (merged_any A A' c c' a b w2 hA2 hB2 hca hcb (by omega) (by omega) HNA.out HNB.out).mono ?_
      rintro e w3 ⟨v3, es3, rfl, hO3, he3, hb3⟩
      obtain ⟨A3, cap3, rfl⟩ := hO3.form
      have hT : Bag w3 w3.heap.size A3 (mergeL a b) := by rw [← he3]; exact hO3.bag hb3.size
      have hel : es3.length = (mergeL a b).length := by rw [← he3, List.length_map]
      rw [hel]
      have hW3 : Below w.heap.size w w3 := hW2.trans (hb3.mono hs2)
      have hs3 : w.heap.size ≤ w3.heap.size := hW3.size
      clear hel he3 hO3 hb3 hA2 hB2 hW2 hs2
      generalize mergeL a b = m at *
      have b4 := (Below.refl w3.heap.size w3).alloc (Nat.le_refl _) (.cells #[] 63)
      have BE := Blk.new w3 63 #[]
      have hW4 := hW3.alloc hs3 (.cells #[] 63)
      go_wp2_with fail
      generalize w3.alloc (.cells #[] 63) = w4 at *
      refine (appendCopies_fresh w3.heap.size A3 cap3 m w4 BE (hT.on b4) hml).mono ?_
      rintro e w5 ⟨v5, es5, rfl, hO5, he5, hg5, _⟩
      have HE5 := Lib.hid he5
      clear he5
      go_wp2
      go_ret
      exact ⟨_, es5, rfl, hO5.lower hs3, by rw [HE5.out, HM.out], hW4.grown hg5 hW4.size (fun g e => by cases e; exact hs3)⟩

set_option maxRecDepth 100000 in
set_option maxHeartbeats 4000000 in
theorem implChange_any (A A' : Option Addr) (c c' : Nat) (a b : List (List Int × Int)) (w : World) (hA : Bag w w.heap.size A a) (hB : Bag w w.heap.size A' b) (hcb : b.length ≤ c') (hl : a.length ≤ 1099511627776) (hl' : b.length ≤ 1099511627776) :
    Calls Try.prog 52 #[.slice A a.length c, .slice A' b.length c'] w (OwnB (changeB a b) w) := by
  have HR := Lib.hid (show ∀ p ∈ minusL a, p.1.length ≤ 1099511627776 from fun p hp => by
    obtain ⟨q, hq, rfl⟩ := List.mem_map.1 hp
    exact rows_mem.1 hA.le q hq)
  go_enter Try.func52, Try.ntmps52
  go_wp2_with fail
  refine (implBagOk_any A c a w hA hl).mono ?_
  rintro e w1 ⟨rfl, hb1⟩
  have hA1 := hA.on hb1
  have hB1 := hB.on hb1
  have hs1 := hb1.size
  clear hA hB
  cases hoa : bagOkB a with
  | false =>
    have HM := Lib.hid (show changeB a b = [] by simp [changeB, hoa])
    clear hoa
    go_wp2
    go_ret
    exact ⟨_, [], rfl, empty_at w1 _ hs1, by rw [HM.out]; rfl, hb1.alloc hs1 _⟩
  | true =>
    have HM := Lib.hid (show changeB a b = plusB b (minusL a) by
      unfold changeB plusB changeL
      rw [bagOk_minus, hoa, Bool.and_comm])
    have HMB := Lib.hid (show minusB a = minusL a by simp [minusB, hoa])
    clear hoa
    go_wp2_with fail
    refine (implMinus_any A c a w1 hA1 hl).mono ?_
    rintro e w2 ⟨v2, es2, rfl, hO2, he2, hb2⟩
    rw [HMB.out] at he2
    obtain ⟨A2, cap2, rfl⟩ := hO2.formW he2
    have hM : Bag w2 w2.heap.size A2 (minusL a) := OBag.bagW hO2 he2 (rows_mem.2 HR.out)
    have hcap : (minusL a).length ≤ cap2 := OBag.cap hO2
    have hml : (minusL a).length ≤ 1099511627776 := by rw [minus_length]; exact hl
    have hW2 := bel_step hb1 hb2
    have hB2 := hB1.on hb2
    clear he2 hO2 hA1 hB1 hb1 hb2 HMB HR
    generalize minusL a = m at *
    go_wp2_with fail
    refine (implPlus_any A' A2 c' cap2 b m w2 hB2 hM hcb hcap hl' hml).mono ?_
    rintro e w3 hq
    obtain ⟨v3, es3, rfl, hO3, he3, hb3⟩ := hq.low hW2
    have HE := Lib.hid he3
    clear he3 hq
    go_wp2
    go_ret
    exact ⟨_, es3, rfl, hO3, by rw [HE.out, HM.out], hb3⟩
end Go.Proofs.Ytedbjjhkjkpnkaa
