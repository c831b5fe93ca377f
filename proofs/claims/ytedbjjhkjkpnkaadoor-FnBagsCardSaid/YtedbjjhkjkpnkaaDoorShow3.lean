/- Contracts of ShowBag, the model's: what a bag shows as; nothing that lay has turned. For bags and rows of at most 2^40. -/
import Derived.Test.YtedbjjhkjkpnkaaDoorShow2
import Derived.Test.YtedbjjhkjkpnkaaDoorJB
import Derived.Lib.AppendStr
namespace Go.Proofs.YtedbjjhkjkpnkaaDoor
open Go.RowKit

/-- What a count shows as, when it is right. -/
def cntL (p : List Int × Int) : List UInt8 := showL p.1 ++ (if p.2 = 1 then [] else 120 :: Lib.itoa p.2)
def bagT (bag : List (List Int × Int)) : List ByteArray := bag.map fun p => ⟨(cntL p).toArray⟩
def bagText (bag : List (List Int × Int)) : List UInt8 := catT ⟨#[59]⟩ (bagT bag)
def showBagL (bag : List (List Int × Int)) : List UInt8 := if bagOkB bag = true then bagText bag else []
theorem bagT_length (bag : List (List Int × Int)) : (bagT bag).length = bag.length := by simp [bagT]
theorem bagT_take_succ (bag : List (List Int × Int)) (k : Nat) (h : k < bag.length) : bagT (bag.take (k + 1)) = bagT (bag.take k) ++ [⟨(cntL (rx bag k, nx bag k)).toArray⟩] := by
  unfold bagT
  rw [List.take_succ_eq_append_getElem h, List.map_append, bag_ix h]; rfl
theorem okFrom_all : ∀ (bag : List (List Int × Int)) (p : Option (List Int)), okFrom p bag = true → ∀ q ∈ bag, rowOkB q.1 = true ∧ inB q.2 (-1000000) 1000000 = true
  | [], _, _, q, hq => by cases hq
  | (r, n) :: bs, p, h, q, hq => by
    simp only [okFrom, Bool.and_eq_true] at h
    rcases List.mem_cons.1 hq with rfl | hq
    · exact ⟨h.1.1.1.1, h.1.1.2⟩
    · exact okFrom_all bs (some r) h.2 q hq
theorem bagOk_at {bag : List (List Int × Int)} (h : bagOkB bag = true) {k : Nat} (hk : k < bag.length) : rowOkB (rx bag k) = true ∧ -1000000 ≤ nx bag k ∧ nx bag k ≤ 1000000 := by
  unfold bagOkB at h
  rw [Bool.and_eq_true] at h
  have := okFrom_all bag none h.1 bag[k] (List.getElem_mem hk)
  rw [bag_ix hk] at this
  refine ⟨this.1, ?_⟩
  have h2 := this.2
  simp only [inB, Bool.and_eq_true, decide_eq_true_eq] at h2
  exact h2
theorem bagOk_len {bag : List (List Int × Int)} (h : bagOkB bag = true) : bag.length ≤ 300 := by
  unfold bagOkB at h
  rw [Bool.and_eq_true] at h
  exact of_decide_eq_true h.2
theorem showL_len (zs : List Int) (h : rowOkB zs = true) : (showL zs).length ≤ 132 := by
  obtain ⟨h1, h2⟩ := rowOkB_all h
  unfold showL
  rw [if_pos h]
  split
  · decide
  · have := (numbersL_len zs h1).1; omega
theorem cntL_len {bag : List (List Int × Int)} (h : bagOkB bag = true) {k : Nat} (hk : k < bag.length) : (cntL (rx bag k, nx bag k)).length ≤ 154 := by
  obtain ⟨h1, h2, h3⟩ := bagOk_at h hk
  have := showL_len _ h1
  have := Lib.itoa_length_le (nx bag k) (by omega) (by omega)
  unfold cntL
  split <;> simp <;> omega
theorem bagText_take {bag : List (List Int × Int)} (h : bagOkB bag = true) : ∀ k, k ≤ bag.length → (bagText (bag.take k)).length ≤ 155 * k
  | 0, _ => by simp [bagText, bagT, catT, cat]
  | k + 1, hk => by
    have ih := bagText_take h k (by omega)
    have hc := cntL_len h (show k < bag.length by omega)
    unfold bagText at ih ⊢
    rw [bagT_take_succ bag k (by omega)]
    by_cases h0 : k = 0
    · subst h0
      simp only [List.take_zero, bagT, List.map_nil, List.nil_append, catT, List.map_cons, cat]
      rw [bl_mk]; omega
    · have hne : (bagT (bag.take k)).map bl ≠ [] := by
        intro e
        have := congrArg List.length e
        rw [List.length_map, bagT_length, List.length_take, List.length_nil] at this
        omega
      unfold catT at ih ⊢
      rw [List.map_append, List.map_cons, List.map_nil, cat_snoc _ _ _ hne, bl_mk (cntL (rx bag k, nx bag k))]
      rw [List.length_append, List.length_append, show (bl ⟨#[59]⟩).length = 1 from rfl]
      omega
theorem bagText_step {bag : List (List Int × Int)} {k : Nat} (h : k < bag.length) (h0 : 0 < k) : bagText (bag.take (k + 1)) = bagText (bag.take k) ++ [59] ++ cntL (rx bag k, nx bag k) := by
  unfold bagText catT
  have hne : (bagT (bag.take k)).map bl ≠ [] := by
    intro e
    have := congrArg List.length e
    rw [List.length_map, bagT_length, List.length_take, List.length_nil] at this
    omega
  rw [bagT_take_succ bag k h, List.map_append, List.map_cons, List.map_nil, cat_snoc _ _ _ hne, bl_mk]
  rfl
theorem bagText_first {bag : List (List Int × Int)} (h : 0 < bag.length) : bagText (bag.take 1) = cntL (rx bag 0, nx bag 0) := by
  unfold bagText catT
  rw [show (1 : Nat) = 0 + 1 from rfl, bagT_take_succ bag 0 h]
  simp only [List.take_zero, bagT, List.map_nil, List.nil_append, List.map_cons, cat]
  rw [bl_mk]

theorem strl_snoc (ts : List ByteArray) (t : ByteArray) : strl (ts ++ [t]) = strl ts ++ [.string t] := by simp [strl]
theorem bytes_cat (a b : List UInt8) : (⟨a.toArray⟩ : ByteArray) ++ ⟨b.toArray⟩ = ⟨(a ++ b).toArray⟩ := by
  apply bl_eta
  rw [bl_append, bl_mk, bl_mk]
theorem size_mk (l : List UInt8) : (⟨l.toArray⟩ : ByteArray).size = l.length := by simp [ByteArray.size]

set_option maxRecDepth 100000 in
set_option maxHeartbeats 2000000 in
theorem specShowBag_no (A : Option Addr) (c : Nat) (bag : List (List Int × Int)) (w : World) (hB : Bag w w.heap.size A bag) (hl : bag.length ≤ 1099511627776) (hok : bagOkB bag = false) :
    Calls Tryd.prog 14 #[.slice A bag.length c] w fun e w' => e = .returned (.string ⟨(showBagL bag).toArray⟩) ∧ Below w.heap.size w w' := by
  have hpos : 0 < bag.length := by
    rcases Nat.eq_zero_or_pos bag.length with h | h
    · have : bag = [] := List.length_eq_zero_iff.1 h
      subst this
      cases hok
    · exact h
  have HS := Lib.hid (show showBagL bag = [] by unfold showBagL; rw [hok]; rfl)
  have HOK := Lib.hid hok
  clear hok
  have hB0 : Below w.heap.size w (w.alloc (.cells #[] 9)) := (Below.refl _ _).alloc (Nat.le_refl _) _
  go_enter Tryd.func14, Tryd.ntmps14
  go_wp2
  go_loopw [3, 4, 5] (fun v i _ wr => i = .int .i64 0 ∧ v = .slice (some ⟨w.heap.size, 0, none⟩) 0 0 ∧ Below w.heap.size w wr) (fun _ _ _ _ => 0)
  case atStart => exact ⟨rfl, rfl, hB0⟩
  case round =>
    obtain ⟨rfl, rfl, hW⟩ := hrel
    go_wp2_with fail
    refine (specBagOk_any A c bag wr _ (hB.on hW) hl).mono ?_
    rintro e w1 ⟨rfl, n1, hw1⟩
    have hW1 : Below w.heap.size w w1 := by rw [hw1]; exact bel_drewN hW n1
    rw [HOK.out]
    clear hw1 hW
    go_wp2_with fail
    refine (l1Words_any (some ⟨w.heap.size, 0, none⟩) 0 [] ⟨#[59]⟩ w1 w1.heap.size (fun h => absurd h (by simp)) (by simp) (by decide) (by simp [catT, cat])).mono ?_
    rintro e w2 ⟨rfl, rfl⟩
    go_wp2
    go_ret
    exact ⟨ret_str (by rw [HS.out]; rfl), hW1⟩

set_option maxRecDepth 100000 in
set_option maxHeartbeats 4000000 in
theorem specShowBag_yes (A : Option Addr) (c : Nat) (bag : List (List Int × Int)) (w : World) (hB : Bag w w.heap.size A bag) (hl : bag.length ≤ 1099511627776) (hok : bagOkB bag = true) :
    Calls Tryd.prog 14 #[.slice A bag.length c] w fun e w' => e = .returned (.string ⟨(showBagL bag).toArray⟩) ∧ Below w.heap.size w w' := by
  obtain ⟨i0, hi0, hz0, hz1, hz2⟩ := info_parts info_str
  have HS := Lib.hid (show showBagL bag = bagText bag by unfold showBagL; rw [hok]; rfl)
  have hl3 := bagOk_len hok
  have HOK := Lib.hid hok
  clear hok
  have hB0 : Below w.heap.size w (w.alloc (.cells #[] 9)) := (Below.refl _ _).alloc (Nat.le_refl _) _
  go_enter Tryd.func14, Tryd.ntmps14
  go_wp2
  go_loopw [3, 4, 5] (fun v i _ wr => ∃ k : Nat, k ≤ bag.length ∧ i = .int .i64 k ∧ wr.ownsRow w.heap.size 9 1 v k (strl (bagT (bag.take k))) ∧ Below w.heap.size w wr) (fun _ i _ _ => bag.length - (intOf i).toNat)
  case atStart => exact ⟨0, Nat.zero_le _, rfl, by simpa [bagT, strl] using (World.ownsRow_made w #[] 0 (Nat.le_refl _) (Nat.zero_le _) rfl : (w.alloc (.cells #[] 9)).ownsRow w.heap.size 9 1 (.slice (some ⟨w.heap.size, 0, none⟩) 0 0) 0 []), hB0⟩
  case round =>
    obtain ⟨k, hk, rfl, hown, hW⟩ := hrel
    by_cases hlt : k < bag.length
    · obtain ⟨hr, hn0, hn1⟩ := bagOk_at HOK.out hlt
      have hsl := showL_len _ hr
      have hil := Lib.itoa_length_le (nx bag k) (by omega) (by omega)
      have HR := Lib.hid hr
      clear hr
      go_wp2_with fail
      refine (specBagOk_any A c bag wr _ (hB.on hW) hl).mono ?_
      rintro e w1 ⟨rfl, n1, hw1⟩
      have hW1 : Below w.heap.size w w1 := by rw [hw1]; exact bel_drewN hW n1
      have hown1 : w1.ownsRow w.heap.size 9 1 u3 k (strl (bagT (bag.take k))) := by rw [hw1]; exact hown
      rw [HOK.out]
      clear hw1 hW hown
      obtain ⟨b, off, rfl, _, hc⟩ := hB.on hW1 (by omega)
      obtain ⟨Ar, cap, h1, h2, h3, h4⟩ := hc k hlt
      clear hc
      go_wp2_with fail
      refine (specShowRow_any Ar cap (rx bag k) w1 h3 h4).mono ?_
      rintro e w2 ⟨rfl, hb2⟩
      have hown2 := own_keepB hown1 (fun g hg => hb2.block g (hown1.lt g hg).2)
      have hW2 := bel_step hW1 hb2
      have d2 : w2.cell? ⟨b, off + k * 2 + 1, none⟩ = some (.int .i64 (nx bag k)) := by
        obtain ⟨b', off', e, hb', hc⟩ := hB.on hW2 (by omega)
        obtain ⟨rfl, rfl⟩ : b = b' ∧ off = off' := by simpa using e
        exact (hc k hlt).choose_spec.choose_spec.2.1
      obtain ⟨sx1, hsx1⟩ : ∃ s : ByteArray, s = ⟨(showL (rx bag k)).toArray⟩ := ⟨_, rfl⟩
      rw [← hsx1]
      have hss : sx1.size ≤ 132 := by rw [hsx1, size_mk]; exact hsl
      have HSX := Lib.hid hsx1
      clear hsx1 hsl h1 h2 h3 hown1 hW1 hb2
      by_cases hn : nx bag k = 1
      · have hz : (nx bag k != 1) = false := by simpa using hn
        have HN := Lib.hid (show (⟨(cntL (rx bag k, nx bag k)).toArray⟩ : ByteArray) = sx1 by rw [HSX.out]; unfold cntL; rw [if_pos hn, List.append_nil])
        clear hn
        go_wp2_with (at_builtin; refine wpList_append_own _ rfl _ _ 52 rfl w.heap.size 9 i0 (.string ⟨#[]⟩) 1 16 Tryd.underlying52 hi0 hz0 hz1 hz2 rfl (by decide) _ _ _ rfl (hown2.alloc _) ⟨w2.heap.size, 0, none⟩ 1 1 [.string sx1] rfl rfl (cell_one_new _ _ _) (by simp [Value.oneCell']) (by simp only [maxLen]; omega) (by omega) (by have := hW2.size; simp; omega) ?_; intro v' w3 hown3 hgrow3 _)
        have hb3 : Below w.heap.size w w3 := (hW2.alloc hW2.size _).grown hgrow3 (by have := hW2.size; simp; omega) (fun g hg => (hown2.lt g hg).1)
        clear hgrow3 hown2 d2
        go_roundw
        case rel => exact ⟨k + 1, by omega, by go_num, by rw [bagT_take_succ bag k hlt, HN.out, strl_snoc]; exact hown3, hb3⟩
        case measure => simp [intOf]; omega
      · have hz : (nx bag k != 1) = true := by simpa using hn
        have hsz2 : (sx1 ++ ⟨#[120]⟩).size ≤ 133 := by rw [ByteArray.size_append]; have : (⟨#[120]⟩ : ByteArray).size = 1 := rfl; omega
        go_wp2_with fail
        refine (l1Int_any (nx bag k) w2 (by omega) (by omega)).mono ?_
        rintro e w3 ⟨rfl, hb3⟩
        have hown3 := own_keepB hown2 (fun g hg => hb3.block g (hown2.lt g hg).2)
        have hW3 := bel_step hW2 hb3
        obtain ⟨tx, htx⟩ : ∃ s : ByteArray, s = ⟨(Lib.itoa (nx bag k)).toArray⟩ := ⟨_, rfl⟩
        rw [← htx]
        have hts : tx.size ≤ 21 := by rw [htx, size_mk]; exact hil
        have HN := Lib.hid (show (⟨(cntL (rx bag k, nx bag k)).toArray⟩ : ByteArray) = sx1 ++ ⟨#[120]⟩ ++ tx by
          rw [HSX.out, htx]; unfold cntL; rw [if_neg hn, show (⟨#[120]⟩ : ByteArray) = ⟨[120].toArray⟩ from rfl, bytes_cat, bytes_cat]; simp)
        clear hn htx hown2 hW2 hb3 d2
        go_wp2_with (at_builtin; refine wpList_append_own _ rfl _ _ 52 rfl w.heap.size 9 i0 (.string ⟨#[]⟩) 1 16 Tryd.underlying52 hi0 hz0 hz1 hz2 rfl (by decide) _ _ _ rfl (hown3.alloc _) ⟨w3.heap.size, 0, none⟩ 1 1 [.string (sx1 ++ ⟨#[120]⟩ ++ tx)] rfl rfl (cell_one_new _ _ _) (by simp [Value.oneCell']) (by simp only [maxLen]; omega) (by omega) (by have := hW3.size; simp; omega) ?_; intro v' w4 hown4 hgrow4 _)
        have hb4 : Below w.heap.size w w4 := (hW3.alloc hW3.size _).grown hgrow4 (by have := hW3.size; simp; omega) (fun g hg => (hown3.lt g hg).1)
        clear hgrow4 hown3
        go_roundw
        case rel => exact ⟨k + 1, by omega, by go_num, by rw [bagT_take_succ bag k hlt, HN.out, strl_snoc]; exact hown4, hb4⟩
        case measure => simp [intOf]; omega
    · have hd : decide (k < bag.length) = false := by simpa using hlt
      have hkl : k = bag.length := by omega
      rw [List.take_of_length_le (by omega), hkl, ← bagT_length bag] at hown
      obtain ⟨A', cap', rfl, hS⟩ := strs_of_own hown
      have hl2 : (bagT bag).length ≤ 1048576 := by rw [bagT_length]; omega
      have hsum : (catT ⟨#[59]⟩ (bagT bag)).length ≤ 1099511627776 := by
        have := bagText_take HOK.out bag.length (Nat.le_refl _)
        rw [List.take_length] at this
        unfold bagText at this
        omega
      clear hown hkl
      go_wp2_with fail
      refine (l1Words_any _ _ (bagT bag) ⟨#[59]⟩ wr wr.heap.size hS hl2 (by decide) hsum).mono ?_
      rintro e w' ⟨rfl, rfl⟩
      go_wp2
      go_ret
      exact ⟨ret_str (by rw [HS.out]; rfl), hW⟩
theorem specShowBag_any (A : Option Addr) (c : Nat) (bag : List (List Int × Int)) (w : World) (hB : Bag w w.heap.size A bag) (hl : bag.length ≤ 1099511627776) :
    Calls Tryd.prog 14 #[.slice A bag.length c] w fun e w' => e = .returned (.string ⟨(showBagL bag).toArray⟩) ∧ Below w.heap.size w w' := by
  cases h : bagOkB bag with
  | true => exact specShowBag_yes A c bag w hB hl h
  | false => exact specShowBag_no A c bag w hB hl h
end Go.Proofs.YtedbjjhkjkpnkaaDoor
