/- Contracts of both Differs: a bag of the call's own; nothing that lay has turned. -/
import Derived.Test.YtedbjjhkjkpnkaaBas4
import Derived.Test.YtedbjjhkjkpnkaaSgn6
import Derived.Test.YtedbjjhkjkpnkaaSum3
import Derived.Test.YtedbjjhkjkpnkaaMark3
import Derived.Test.YtedbjjhkjkpnkaaJD
import Derived.Test.YtedbjjhkjkpnkaaJE
namespace Go.Proofs.Ytedbjjhkjkpnkaa
open Go.RowKit

theorem rows_all {wd : Int} {rows : List (List Int)} (h : rowsOkB wd rows = true) : (rows.filter fun r => decide (-1001 < ky r) && decide (ky r ≤ 1000)) = rows := by
  rw [List.filter_eq_self]
  intro r hr
  obtain ⟨⟨h1, _⟩, _, h3⟩ := rowsOk_iff.1 h
  have hf := h3 r hr
  have hp := fit_pos hf h1
  unfold rowFit at hf
  rw [Bool.and_eq_true, List.all_eq_true] at hf
  have := hf.1 (ky r) (by unfold ky; rw [ix_eq r 0 hp]; exact List.getElem_mem hp)
  unfold inB at this
  rw [Bool.and_eq_true, decide_eq_true_eq, decide_eq_true_eq] at this
  rw [Bool.and_eq_true, decide_eq_true_eq, decide_eq_true_eq]
  exact ⟨by omega, by omega⟩
theorem bagOf_all {wd : Int} {rows : List (List Int)} (h : rowsOkB wd rows = true) : bagOfL rows = bagIn rows (-1001) 1000 := by
  have h1 := bagOf_cut (f := -1001) (t := 1000) h
  rw [← filter_cut (rowsOk_iff.1 h).2.1, rows_all h] at h1
  exact h1
/-- The bag of the rows of the table of that name. -/
def bagT (ts : List TB) (n : ByteArray) : List (List Int × Int) := bagIn (inT ts n).rows (-1001) 1000
def diffB (ts us : List TB) (n : ByteArray) : List (List Int × Int) := if baseB ts = true ∧ baseB us = true then changeL (bagT ts n) (bagT us n) else []
theorem inT_cases {ts : List TB} (n : ByteArray) (h : baseB ts = true) : inT ts n = zeroT ∨ (inT ts n).ok = true := by
  unfold inT
  split
  · rename_i hi; exact .inr ((base_iff.1 h).1 _ (tx_mem hi))
  · exact .inl rfl
theorem inT_rows {ts : List TB} (n : ByteArray) (h : baseB ts = true) : bagOfL (inT ts n).rows = bagT ts n ∧ bagOkB (bagT ts n) = true ∧ (inT ts n).rows.length ≤ 30 ∧ (∀ p ∈ bagT ts n, -1000000 ≤ p.2 ∧ p.2 ≤ 1000000) ∧ (bagT ts n).length ≤ 30 ∧ (∀ p ∈ bagT ts n, p.1.length ≤ 6) := by
  unfold bagT
  rcases inT_cases n h with h0 | h0
  · rw [h0]; exact ⟨rfl, rfl, by decide, (fun p hp => by cases hp), by decide, fun p hp => by cases hp⟩
  · unfold TB.ok tabB at h0
    rw [Bool.and_eq_true] at h0
    obtain ⟨⟨hw, hl⟩, _, hfit⟩ := rowsOk_iff.1 h0.2
    refine ⟨bagOf_all h0.2, bagIn_ok h0.2, hl, fun p hp => ?_, ?_, fun p hp => ?_⟩
    · unfold bagIn at hp
      obtain ⟨r, _, rfl⟩ := List.mem_map.1 hp
      exact ⟨show (-1000000 : Int) ≤ 1 by decide, show (1 : Int) ≤ 1000000 by decide⟩
    · unfold bagIn
      rw [List.length_map]
      exact Nat.le_trans (List.length_filter_le _ _) hl
    · unfold bagIn at hp
      obtain ⟨r, hr, rfl⟩ := List.mem_map.1 hp
      have := fit_len (hfit r (List.mem_filter.1 hr).1)
      unfold inB at hw
      rw [Bool.and_eq_true, decide_eq_true_eq, decide_eq_true_eq] at hw
      show r.length ≤ 6
      omega
theorem diffB_fit (ts us : List TB) (n : ByteArray) : (diffB ts us n).length ≤ 1048576 ∧ ∀ j, j < (diffB ts us n).length → (rx (diffB ts us n) j).length ≤ 1048576 := by
  unfold diffB
  split
  · rename_i h
    obtain ⟨_, t2, _, _, t5, t6⟩ := inT_rows n h.1
    obtain ⟨_, u2, _, _, u5, u6⟩ := inT_rows n h.2
    have e : changeL (bagT ts n) (bagT us n) = changeB (bagT ts n) (bagT us n) := by unfold changeB; rw [if_pos (by rw [t2, u2]; rfl)]
    rw [e]
    obtain ⟨h1, h2⟩ := changeB_fit (m := 6) (rows_mem.2 t6) (rows_mem.2 u6)
    exact ⟨by omega, fun j hj => by have := h2 j hj; omega⟩
  · exact ⟨Nat.zero_le _, fun j hj => absurd hj (by simp)⟩
set_option maxRecDepth 100000 in
set_option maxHeartbeats 2000000 in
theorem l6Bag_any (A : Option Addr) (c : Nat) (ts : List TB) (n : ByteArray) (w : World) (hT : Tabs w w.heap.size A ts) (hf : fitT 1048576 ts) (hl : ts.length ≤ 1048576) (hb : baseB ts = true) :
    Calls Try.prog 50 #[.slice A ts.length c, .string n] w (OwnBag w.heap.size (bagT ts n) w) := by
  go_enter Try.func50, Try.ntmps50
  go_wp2_with fail
  refine (l6Find_any A c ts n w w.heap.size hT hl).mono ?_
  rintro e w1 ⟨rfl, hw1⟩
  subst hw1
  by_cases hi : fndN ts n < ts.length
  · rw [findN_yes hi]
    have hok := (base_iff.1 hb).1 _ (tx_mem hi)
    have HI := Lib.hid (show bagT ts n = bagInB (tx ts (fndN ts n)).n (tx ts (fndN ts n)).wd (tx ts (fndN ts n)).rows (-1001) 1000 by
      unfold bagT inT bagInB
      rw [if_pos hi, if_pos (show tabB _ _ _ = true from hok)])
    obtain ⟨i, hie⟩ : ∃ i, fndN ts n = i := ⟨_, rfl⟩
    rw [hie] at hi HI ⊢
    clear hie hok hb
    obtain ⟨b, off, Ar, cr, rfl, _, c0, c1, c2, hR⟩ := hT.here hi
    obtain ⟨f1, f2, _⟩ := hf i hi
    have hi0 : (0 : Int) ≤ (i : Int) := Int.natCast_nonneg _
    have hi1 : (i : Int) < (ts.length : Int) := by omega
    have hdi : decide ((i : Int) < 0) = false := by simp
    go_wp2_with fail
    refine (specBagIn_any (tx ts i).n (tx ts i).wd Ar cr (tx ts i).rows (-1001) 1000 w hR (by omega) (by omega)).mono ?_
    rintro e w2 hq
    rw [← HI.out] at hq
    obtain ⟨g, cap, es, rfl, hO, he, hb2⟩ := hq
    clear c0 c1 c2 hR
    go_wp2
    go_ret
    exact ⟨g, cap, es, rfl, hO, he, hb2⟩
  · rw [findN_no hi]
    have HI := Lib.hid (show bagT ts n = [] by unfold bagT inT; rw [if_neg hi]; rfl)
    clear hi hT
    go_wp2
    go_ret
    rw [HI.out]
    exact ⟨w.heap.size, 0, [], rfl, empty_at w _ (Nat.le_refl _), rfl, (Below.refl _ _).alloc (Nat.le_refl _) _⟩
set_option maxRecDepth 100000 in
set_option maxHeartbeats 4000000 in
theorem specDiffers_any (A A' : Option Addr) (c c' : Nat) (ts us : List TB) (n : ByteArray) (w : World) (hT : Tabs w w.heap.size A ts) (hU : Tabs w w.heap.size A' us) (hf : fitT 1048576 ts) (hg : fitT 1048576 us) (hl : ts.length ≤ 1048576) (hl' : us.length ≤ 1048576) :
    Calls Try.prog 16 #[.slice A ts.length c, .slice A' us.length c', .string n] w (OwnB (diffB ts us n) w) := by
  go_enter Try.func16, Try.ntmps16
  go_wp2_with fail
  refine (specBaseOk_any A c ts w hT hf hl).mono ?_
  rintro e w1 ⟨rfl, hb1⟩
  have hT1 := hT.on hb1
  have hU1 := hU.on hb1
  have hs1 := hb1.size
  clear hT hU
  cases hot : baseB ts with
  | false =>
    have HM := Lib.hid (show diffB ts us n = [] by unfold diffB; rw [if_neg (fun h => by rw [hot] at h; cases h.1)])
    clear hot
    go_wp2
    go_ret
    exact ⟨_, [], rfl, empty_at w1 _ hs1, by rw [HM.out]; rfl, hb1.alloc hs1 _⟩
  | true =>
    have HOT := Lib.hid hot
    clear hot
    go_wp2_with fail
    refine (specBaseOk_any A' c' us w1 hU1 hg hl').mono ?_
    rintro e w2 ⟨rfl, hb2⟩
    have hT2 := hT1.on hb2
    have hU2 := hU1.on hb2
    have hW2 := bel_step hb1 hb2
    have hs2 := hW2.size
    clear hT1 hU1 hb1 hb2 hs1
    cases hou : baseB us with
    | false =>
      have HM := Lib.hid (show diffB ts us n = [] by unfold diffB; rw [if_neg (fun h => by rw [hou] at h; cases h.2)])
      clear hou
      go_wp2
      go_ret
      exact ⟨_, [], rfl, empty_at w2 _ hs2, by rw [HM.out]; rfl, hW2.alloc hs2 _⟩
    | true =>
      have HM := Lib.hid (show diffB ts us n = changeL (bagT ts n) (bagT us n) by unfold diffB; rw [if_pos ⟨HOT.out, hou⟩])
      have HOU := Lib.hid hou
      obtain ⟨_, _, _, t4, t5, t6⟩ := inT_rows n HOT.out
      obtain ⟨_, _, _, _, u5, u6⟩ := inT_rows n hou
      have T6 := Lib.hid (show ∀ p ∈ bagT ts n, p.1.length ≤ 1099511627776 from fun p hp => by have := t6 p hp; omega)
      have U6 := Lib.hid (show ∀ p ∈ bagT us n, p.1.length ≤ 1099511627776 from fun p hp => by have := u6 p hp; omega)
      have T4 := Lib.hid t4
      obtain ⟨P, hP⟩ : ∃ P, bagT ts n = P := ⟨_, rfl⟩
      obtain ⟨Q, hQ⟩ : ∃ Q, bagT us n = Q := ⟨_, rfl⟩
      have HC1 := Lib.hid (show ∀ W, Tabs W W.heap.size A ts → Calls Try.prog 50 #[.slice A ts.length c, .string n] W (OwnBag W.heap.size P W) from fun W h => by rw [← hP]; exact l6Bag_any A c ts n W h hf hl HOT.out)
      have HC2 := Lib.hid (show ∀ W, Tabs W W.heap.size A' us → Calls Try.prog 50 #[.slice A' us.length c', .string n] W (OwnBag W.heap.size Q W) from fun W h => by rw [← hQ]; exact l6Bag_any A' c' us n W h hg hl' HOU.out)
      rw [hP, hQ] at HM
      rw [hP] at T4 T6 t5
      rw [hQ] at U6 u5
      clear hou t4 t6 u6 hP hQ hf hg
      go_wp2_with fail
      refine (HC1.out w2 hT2).mono ?_
      rintro e w3 ⟨g3, c3, es3, rfl, hO3, he3, hb3⟩
      have hel3 : es3.length = P.length := by rw [← he3, List.length_map]
      rw [hel3]
      have hM3 : Bag w3 w3.heap.size (some ⟨g3, 0, none⟩) P := OBag.bagW hO3 he3 (rows_mem.2 T6.out)
      have hU3 := hU2.on hb3
      have hW3 := bel_step hW2 hb3
      clear hO3 he3 hb3 hT2 hU2 hW2 hel3
      go_wp2_with fail
      refine (HC2.out w3 hU3).mono ?_
      rintro e w4 ⟨g4, c4, es4, rfl, hO4, he4, hb4⟩
      have hel4 : es4.length = Q.length := by rw [← he4, List.length_map]
      rw [hel4]
      have hM4 : Bag w4 w4.heap.size (some ⟨g4, 0, none⟩) Q := OBag.bagW hO4 he4 (rows_mem.2 U6.out)
      have hM3' := hM3.on hb4
      have hW4 := bel_step hW3 hb4
      clear hO4 he4 hb4 hM3 hU3 hW3 hel4
      go_wp2_with fail
      refine (l3Change_any _ _ c3 c4 P Q w4 hM3' hM4 (by omega) (by omega) T4.out).mono ?_
      rintro e w5 hq
      obtain ⟨v5, es5, rfl, hO5, he5, hb5⟩ := (hq.b).low hW4
      obtain ⟨A5, c5, rfl⟩ := hO5.formW he5
      have HE5 := Lib.hid he5
      clear he5 hq
      go_wp2
      go_ret
      exact ⟨_, es5, rfl, hO5, by rw [HE5.out, HM.out], hb5⟩
set_option maxRecDepth 100000 in
set_option maxHeartbeats 4000000 in
theorem bagOfTable_any (A : Option Addr) (c : Nat) (ts : List TB) (n : ByteArray) (w : World) (hT : Tabs w w.heap.size A ts) (hf : fitT 1048576 ts) (hl : ts.length ≤ 1048576) (hb : baseB ts = true) :
    Calls Try.prog 53 #[.slice A ts.length c, .string n] w (OwnB (bagT ts n) w) := by
  obtain ⟨t1, _, t3, _, _, _⟩ := inT_rows n hb
  have HT1 := Lib.hid t1
  have HRR := Lib.hid (show ∀ j, j < (inT ts n).rows.length → (rr (inT ts n).rows j).length ≤ 1099511627776 from fun j hj => by
    unfold inT at hj ⊢
    split at hj
    · rename_i hi
      rw [if_pos hi]
      have := (hf _ hi).2.2 j hj; omega
    · exact absurd hj (by simp [zeroT]))
  clear t1
  go_enter Try.func53, Try.ntmps53
  go_wp2_with fail
  refine (implTableIn_any A c ts n w hT hf hl).mono ?_
  rintro e w1 ⟨v1, rfl, ⟨u, es, rfl, hO, he⟩, hb1⟩
  obtain ⟨T, hTn⟩ : ∃ T, inT ts n = T := ⟨_, rfl⟩
  obtain ⟨bb, hbb⟩ : ∃ bb, inB6 ts n = bb := ⟨_, rfl⟩
  rw [hTn] at he HRR HT1 t3 ⊢
  rw [hbb]
  obtain ⟨Au, cu, rfl⟩ := hO.formW he
  have hR := hO.rwsW he HRR.out
  have bc := (Below.refl w1.heap.size w1).alloc (Nat.le_refl _) (.cells #[.string T.n, .int .i64 T.wd, .slice Au T.rows.length cu] 28)
  have hRb := hR.on bc
  have hWb := bel_step hb1 bc
  clear hTn hbb hO he hR hT hb hf
  go_wp2_with fail
  generalize w1.alloc (.cells #[.string T.n, .int .i64 T.wd, .slice Au T.rows.length cu] 28) = wb at *
  refine (implBagOf_any Au cu T.rows wb hRb (by omega)).mono ?_
  rintro e w2 hq
  rw [HT1.out] at hq
  obtain ⟨v2, es2, rfl, hO2, he2, hb2⟩ := hq.b.low hWb
  obtain ⟨A2, c2, rfl⟩ := hO2.formW he2
  have HE2 := Lib.hid he2
  clear he2 hq
  go_wp2
  go_ret
  exact ⟨_, es2, rfl, hO2, HE2.out, hb2⟩
set_option maxRecDepth 100000 in
set_option maxHeartbeats 4000000 in
theorem implDiffers_any (A A' : Option Addr) (c c' : Nat) (ts us : List TB) (n : ByteArray) (w : World) (hT : Tabs w w.heap.size A ts) (hU : Tabs w w.heap.size A' us) (hf : fitT 1048576 ts) (hg : fitT 1048576 us) (hl : ts.length ≤ 1048576) (hl' : us.length ≤ 1048576) :
    Calls Try.prog 18 #[.slice A ts.length c, .slice A' us.length c', .string n] w (OwnB (diffB ts us n) w) := by
  go_enter Try.func18, Try.ntmps18
  go_wp2_with fail
  refine (implBaseOk_any A c ts w hT hf hl).mono ?_
  rintro e w1 ⟨rfl, hb1⟩
  have hT1 := hT.on hb1
  have hU1 := hU.on hb1
  have hs1 := hb1.size
  clear hT hU
  cases hot : baseB ts with
  | false =>
    have HM := Lib.hid (show diffB ts us n = [] by unfold diffB; rw [if_neg (fun h => by rw [hot] at h; cases h.1)])
    clear hot
    go_wp2
    go_ret
    exact ⟨_, [], rfl, empty_at w1 _ hs1, by rw [HM.out]; rfl, hb1.alloc hs1 _⟩
  | true =>
    have HOT := Lib.hid hot
    clear hot
    go_wp2_with fail
    refine (implBaseOk_any A' c' us w1 hU1 hg hl').mono ?_
    rintro e w2 ⟨rfl, hb2⟩
    have hT2 := hT1.on hb2
    have hU2 := hU1.on hb2
    have hW2 := bel_step hb1 hb2
    have hs2 := hW2.size
    clear hT1 hU1 hb1 hb2 hs1
    cases hou : baseB us with
    | false =>
      have HM := Lib.hid (show diffB ts us n = [] by unfold diffB; rw [if_neg (fun h => by rw [hou] at h; cases h.2)])
      clear hou
      go_wp2
      go_ret
      exact ⟨_, [], rfl, empty_at w2 _ hs2, by rw [HM.out]; rfl, hW2.alloc hs2 _⟩
    | true =>
      obtain ⟨_, t2, _, _, t5, t6⟩ := inT_rows n HOT.out
      obtain ⟨_, u2, _, _, u5, u6⟩ := inT_rows n hou
      have HM := Lib.hid (show diffB ts us n = changeB (bagT ts n) (bagT us n) by unfold diffB changeB; rw [if_pos ⟨HOT.out, hou⟩, if_pos (by rw [t2, u2]; rfl)])
      have HOU := Lib.hid hou
      have T6 := Lib.hid (show ∀ p ∈ bagT ts n, p.1.length ≤ 1099511627776 from fun p hp => by have := t6 p hp; omega)
      have U6 := Lib.hid (show ∀ p ∈ bagT us n, p.1.length ≤ 1099511627776 from fun p hp => by have := u6 p hp; omega)
      obtain ⟨P, hP⟩ : ∃ P, bagT ts n = P := ⟨_, rfl⟩
      obtain ⟨Q, hQ⟩ : ∃ Q, bagT us n = Q := ⟨_, rfl⟩
      have HC1 := Lib.hid (show ∀ W, Tabs W W.heap.size A ts → Calls Try.prog 53 #[.slice A ts.length c, .string n] W (OwnB P W) from fun W h => by rw [← hP]; exact bagOfTable_any A c ts n W h hf hl HOT.out)
      have HC2 := Lib.hid (show ∀ W, Tabs W W.heap.size A' us → Calls Try.prog 53 #[.slice A' us.length c', .string n] W (OwnB Q W) from fun W h => by rw [← hQ]; exact bagOfTable_any A' c' us n W h hg hl' HOU.out)
      rw [hP, hQ] at HM
      rw [hP] at T6 t5
      rw [hQ] at U6 u5
      clear hou t2 u2 t6 u6 hP hQ hf hg
      go_wp2_with fail
      refine (HC1.out w2 hT2).mono ?_
      rintro e w3 ⟨v3, es3, rfl, hO3, he3, hb3⟩
      obtain ⟨A3, c3, rfl⟩ := hO3.formW he3
      have hM3 : Bag w3 w3.heap.size A3 P := OBag.bagW hO3 he3 (rows_mem.2 T6.out)
      have hU3 := hU2.on hb3
      have hW3 := bel_step hW2 hb3
      clear hO3 he3 hb3 hT2 hU2 hW2
      go_wp2_with fail
      refine (HC2.out w3 hU3).mono ?_
      rintro e w4 ⟨v4, es4, rfl, hO4, he4, hb4⟩
      obtain ⟨A4, c4, rfl⟩ := hO4.formW he4
      have hM4 : Bag w4 w4.heap.size A4 Q := OBag.bagW hO4 he4 (rows_mem.2 U6.out)
      have hcap := OBag.cap hO4
      have hM3' := hM3.on hb4
      have hW4 := bel_step hW3 hb4
      clear hO4 he4 hb4 hM3 hU3 hW3
      go_wp2_with fail
      refine (implChange_any A3 A4 c3 c4 P Q w4 hM3' hM4 hcap (by omega) (by omega)).mono ?_
      rintro e w5 hq
      obtain ⟨v5, es5, rfl, hO5, he5, hb5⟩ := hq.low hW4
      obtain ⟨A5, c5, rfl⟩ := hO5.formW he5
      have HE5 := Lib.hid he5
      clear he5 hq
      go_wp2
      go_ret
      exact ⟨_, es5, rfl, hO5, by rw [HE5.out, HM.out], hb5⟩
end Go.Proofs.Ytedbjjhkjkpnkaa
