/- Contracts of the program's RowAt and BagIn: a row, a bag of the call's own; nothing that lay has turned. -/
import Derived.Test.YtedbjjhkjkpnkaaJC
import Derived.Test.YtedbjjhkjkpnkaaJD
import Derived.Test.YtedbjjhkjkpnkaaJE
import Derived.Test.YtedbjjhkjkpnkaaJB
namespace Go.Proofs.Ytedbjjhkjkpnkaa
open Go.RowKit

theorem tab_sk {s : ByteArray} {wd : Int} {rows : List (List Int)} (h : tabB s wd rows = true) : SK rows := by
  unfold tabB at h
  rw [Bool.and_eq_true] at h
  exact (rowsOk_iff.1 h.2).2.1
theorem there_fnd {s : ByteArray} {wd : Int} {rows : List (List Int)} (h : tabB s wd rows = true) (q : Int) : thereB s wd rows q = fndB rows q := by
  unfold thereB
  rw [h, Bool.true_and, (idx_fnd (tab_sk h) q).1]
theorem at_fnd {s : ByteArray} {wd : Int} {rows : List (List Int)} (h : tabB s wd rows = true) {q : Int} (hf : fndB rows q = true) : atL s wd rows q = rr rows (plcK rows q) ∧ plcK rows q < rows.length := by
  have e := (idx_fnd (tab_sk h) q).2 hf
  have hi : idxK rows q < rows.length := of_decide_eq_true (by rw [(idx_fnd (tab_sk h) q).1]; exact hf)
  unfold atL
  rw [there_fnd h, hf, if_pos rfl, e]
  exact ⟨rfl, by rw [← e]; exact hi⟩
theorem at_none {s : ByteArray} {wd : Int} {rows : List (List Int)} {q : Int} (h : thereB s wd rows q = false) : atL s wd rows q = [] := by
  unfold atL; rw [h]; rfl
set_option maxRecDepth 100000 in
set_option maxHeartbeats 4000000 in
theorem implRowAt_any (s : ByteArray) (wd : Int) (A : Option Addr) (c : Nat) (rows : List (List Int)) (q : Int) (w : World) (hR : Rws w w.heap.size A rows) (hs : s.size ≤ 1099511627776) (hl : rows.length ≤ 1099511627776) :
    Calls Try.prog 27 #[.agg #[.string s, .int .i64 wd, .slice A rows.length c], .int .i64 q] w (AtRow (atL s wd rows q) (thereB s wd rows q) w) := by
  have bc := (Below.refl w.heap.size w).alloc (Nat.le_refl _) (.cells #[.string s, .int .i64 wd, .slice A rows.length c] 28)
  have BC := Blk.new w 28 #[.string s, .int .i64 wd, .slice A rows.length c]
  have hRb := hR.on bc
  have hGl := BC.lt
  go_enter Try.func27, Try.ntmps27
  go_wp2_with fail
  clear hR
  generalize w.alloc (.cells #[.string s, .int .i64 wd, .slice A rows.length c] 28) = wb at *
  refine (implTableOk_any s wd A c rows wb hRb hs hl).mono ?_
  rintro e w1 ⟨rfl, hb1⟩
  have B1 := BC.below hb1 hGl
  have hR1 := hRb.on hb1
  have hW1 : Below w.heap.size w w1 := bc.trans (hb1.mono bc.size)
  have hs1 : w.heap.size ≤ w1.heap.size := hW1.size
  have d2 := B1.cell 2
  simp only [List.getElem?_toArray, List.getElem?_cons_zero, List.getElem?_cons_succ] at d2
  clear bc BC hRb hGl hb1 B1
  cases ht : tabB s wd rows with
  | false =>
    have HT := Lib.hid (show thereB s wd rows q = false by unfold thereB; rw [ht]; rfl)
    have HA := Lib.hid (at_none HT.out)
    clear ht
    go_wp2
    go_ret2
    rw [HA.out, HT.out]
    exact ⟨_, rfl, ownsRow_empty w1 2 w.heap.size hs1, hW1.alloc hs1 _⟩
  | true =>
    have HT := Lib.hid (there_fnd ht q)
    have HAF := Lib.hid (show fndB rows q = true → atL s wd rows q = rr rows (plcK rows q) ∧ plcK rows q < rows.length from fun h => at_fnd ht h)
    have hSK := tab_sk ht
    have hPos := tab_pos ht
    clear ht
    go_wp2_with fail
    refine (placeOfKey_any A c rows q w1 w1.heap.size hR1 hSK hPos hl).mono ?_
    rintro e w2 ⟨rfl, rfl⟩
    clear hSK hPos
    cases hf : fndB rows q with
    | false =>
      have HF := Lib.hid (show thereB s wd rows q = false by rw [HT.out, hf])
      have HA := Lib.hid (at_none HF.out)
      clear hf
      go_wp2
      go_ret2
      rw [HA.out, HF.out]
      exact ⟨_, rfl, ownsRow_empty w1 2 w.heap.size hs1, hW1.alloc hs1 _⟩
    | true =>
      have HF := Lib.hid (show thereB s wd rows q = true by rw [HT.out, hf])
      obtain ⟨hA, hi⟩ := HAF.out hf
      obtain ⟨i, hii⟩ : ∃ i, plcK rows q = i := ⟨_, rfl⟩
      rw [hii] at hA hi ⊢
      have HA := Lib.hid hA
      have hi0 : (0 : Int) ≤ (i : Int) := Int.natCast_nonneg _
      obtain ⟨b, off, Ar, cap, rfl, hb, h1, h2, h3⟩ := hR1.here1 hi
      clear hf hA hii HAF HT
      go_wp2_with fail
      refine (copyOfRow_any Ar cap (rr rows i) w1 h2 h3).mono ?_
      rintro e w2 ⟨v2, rfl, hown2, hb2⟩
      go_wp2
      go_ret2
      rw [HA.out, HF.out]
      exact ⟨v2, rfl, own_low hown2 hs1, hW1.trans (hb2.mono hs1)⟩

/-- The part cut out reads as its list. -/
theorem Rws.cut {w : World} {B : Nat} {A A' : Option Addr} {rows : List (List Int)} {f e : Nat} (h : Rws w B A rows) (hf : f ≤ e) (he : e ≤ rows.length) (hA : ∀ b off, A = some ⟨b, off, none⟩ → f < e → A' = some ⟨b, off + f, none⟩) : Rws w B A' ((rows.take e).drop f) := fun hn => by
  rw [List.length_drop, List.length_take, Nat.min_eq_left he] at hn
  obtain ⟨b, off, hAe, hb, hc⟩ := h (by omega)
  refine ⟨b, off + f, hA b off hAe (by omega), hb, fun j hj => ?_⟩
  rw [List.length_drop, List.length_take, Nat.min_eq_left he] at hj
  have er : rr ((rows.take e).drop f) j = rr rows (f + j) := by
    unfold rr
    rw [List.getElem?_drop, List.getElem?_take, if_pos (by omega)]
  obtain ⟨Ar, cap, h1, h2, h3⟩ := hc (f + j) (by omega)
  rw [er]
  exact ⟨Ar, cap, by rw [Nat.add_assoc]; exact h1, h2, h3⟩
theorem OwnBag.wide {lo lo' : Nat} {bag : List (List Int × Int)} {w w0 w' : World} {e : Ending} (h : OwnBag lo bag w e w') (hl : lo' ≤ lo) (hb : Below lo' w0 w) : OwnBag lo' bag w0 e w' := by
  obtain ⟨g, cap, es, h1, h2, h3, h4⟩ := h
  exact ⟨g, cap, es, h1, OBag.lower h2 hl, h3, hb.trans (h4.mono hl)⟩
set_option maxRecDepth 100000 in
set_option maxHeartbeats 4000000 in
theorem implBagIn_any (s : ByteArray) (wd : Int) (A : Option Addr) (c : Nat) (rows : List (List Int)) (f t : Int) (w : World) (hR : Rws w w.heap.size A rows) (hs : s.size ≤ 1099511627776) (hl : rows.length ≤ 1099511627776) (hc : rows.length ≤ c) :
    Calls Try.prog 9 #[.agg #[.string s, .int .i64 wd, .slice A rows.length c], .int .i64 f, .int .i64 t] w (OwnBag w.heap.size (bagInB s wd rows f t) w) := by
  have bc := (Below.refl w.heap.size w).alloc (Nat.le_refl _) (.cells #[.string s, .int .i64 wd, .slice A rows.length c] 28)
  have BC := Blk.new w 28 #[.string s, .int .i64 wd, .slice A rows.length c]
  have hRb := hR.on bc
  have hGl := BC.lt
  go_enter Try.func9, Try.ntmps9
  go_wp2_with fail
  clear hR
  generalize w.alloc (.cells #[.string s, .int .i64 wd, .slice A rows.length c] 28) = wb at *
  refine (implTableOk_any s wd A c rows wb hRb hs hl).mono ?_
  rintro e w1 ⟨rfl, hb1⟩
  have B1 := BC.below hb1 hGl
  have hR1 := hRb.on hb1
  have hW1 : Below w.heap.size w w1 := bc.trans (hb1.mono bc.size)
  have hs1 : w.heap.size ≤ w1.heap.size := hW1.size
  have d2 := B1.cell 2
  simp only [List.getElem?_toArray, List.getElem?_cons_zero, List.getElem?_cons_succ] at d2
  clear bc BC hRb hGl hb1 B1
  cases ht : tabB s wd rows with
  | false =>
    have HB := Lib.hid (show bagInB s wd rows f t = [] by unfold bagInB; rw [ht]; rfl)
    clear ht
    go_wp2
    go_ret
    rw [HB.out]
    exact ⟨w1.heap.size, 0, [], rfl, OBag.lower (OBag.nil (empty_counts w1)) hs1, rfl, hW1.alloc hs1 _⟩
  | true =>
    have HB := Lib.hid (show bagOfL (cutL rows f t) = bagInB s wd rows f t by
      unfold bagInB
      rw [ht, if_pos rfl]
      unfold tabB at ht
      rw [Bool.and_eq_true] at ht
      exact bagOf_cut ht.2)
    have hSK := tab_sk ht
    have hPos := tab_pos ht
    have hlen := tab_len ht
    have hue := up_le rows t
    have huf := up_le rows f
    clear ht
    go_wp2_with fail
    refine (rowsUpTo_any A c rows t w1 w1.heap.size hR1 hSK hPos hl).mono ?_
    rintro e w2 ⟨rfl, rfl⟩
    go_wp2_with fail
    refine (rowsUpTo_any A c rows f w1 w1.heap.size hR1 hSK hPos hl).mono ?_
    rintro e w2 ⟨rfl, rfl⟩
    clear hSK hPos
    have hcut : cutL rows f t = (rows.take (upK rows t)).drop (min (upK rows f) (upK rows t)) := rfl
    generalize upK rows t = e at *
    generalize upK rows f = d at *
    have HCL := Lib.hid hcut
    clear hcut
    by_cases hde : d < e
    · have HC := Lib.hid (show (rows.take e).drop d = cutL rows f t by rw [HCL.out, Nat.min_eq_left (by omega)])
      have hlc : ((rows.take e).drop d).length = e - d := by rw [List.length_drop, List.length_take, Nat.min_eq_left hue]
      have hb := implBagOf_any (Option.map (fun x => x.add d) A) (e - d) ((rows.take e).drop d) w1 (hR1.cut (by omega) hue (fun b off hA _ => by rw [hA, Option.map_some, add_plain])) (by rw [hlc]; omega)
      rw [hlc, HC.out, HB.out] at hb
      have HBG := Lib.hid hb
      clear hb hlc
      go_wp2_with fail
      refine HBG.out.mono ?_
      rintro e5 w5 ⟨g, cap, es, rfl, hO5, he5, hb5⟩
      have HE5 := Lib.hid he5
      clear he5
      go_wp2
      go_ret
      exact ⟨g, cap, es, rfl, OBag.lower hO5 hs1, HE5.out, hW1.trans (hb5.mono hs1)⟩
    · have HC := Lib.hid (show cutL rows f t = [] by rw [HCL.out, Nat.min_eq_right (by omega), List.drop_of_length_le (by rw [List.length_take]; omega)])
      have HBG := Lib.hid (show ∀ A' c', Calls Try.prog 42 #[.slice A' 0 c'] w1 (OwnBag w1.heap.size (bagInB s wd rows f t) w1) from fun A' c' => by
        rw [← HB.out, HC.out]
        exact implBagOf_any A' c' [] w1 (fun hn => absurd hn (by simp)) (by simp))
      by_cases hed : e < d
      · clear hde HCL HC HB
        have hd : decide (d < e) = false := by simp; omega
        go_wp2_with fail
        refine (HBG.out _ _).mono ?_
        rintro e5 w5 ⟨g, cap, es, rfl, hO5, he5, hb5⟩
        have HE5 := Lib.hid he5
        clear he5
        go_wp2
        go_ret
        exact ⟨g, cap, es, rfl, OBag.lower hO5 hs1, HE5.out, hW1.trans (hb5.mono hs1)⟩
      · obtain rfl : e = d := by omega
        clear hde hed HCL HC HB
        go_wp2_with fail
        refine (HBG.out _ _).mono ?_
        rintro e5 w5 ⟨g, cap, es, rfl, hO5, he5, hb5⟩
        have HE5 := Lib.hid he5
        clear he5
        go_wp2
        go_ret
        exact ⟨g, cap, es, rfl, OBag.lower hO5 hs1, HE5.out, hW1.trans (hb5.mono hs1)⟩
end Go.Proofs.Ytedbjjhkjkpnkaa
