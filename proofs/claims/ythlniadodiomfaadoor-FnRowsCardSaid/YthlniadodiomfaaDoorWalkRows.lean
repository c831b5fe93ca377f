/- The walk of laws.FnRows: it returns true, whatever the code; nothing that lay has turned. It takes that the library's variables lie as the program text lays them. -/
import Derived.Test.YthlniadodiomfaaDoorDraw4
import Derived.WalkKit
namespace Go.Proofs.YthlniadodiomfaaDoor
open Go.RowKit

set_option maxRecDepth 100000 in
set_option maxHeartbeats 16000000 in
theorem fnRows_walk (a0 : Option Addr) (len0 cap0 : Nat) (z0 : List Int) (w : World) (hT : LaidAll w) (w0 : IsRow .u8 w a0 len0 cap0 z0) :
    Calls Tryd.prog 3 #[.slice a0 len0 cap0] w fun e w' => e = .returned (.bool true) ∧ Below w.heap.size w w' := by
  obtain ⟨zs, rfl, hU, hm⟩ := isRow_u8 w0
  unfold maxLen at hm
  by_cases hbig : 4096 < zs.length
  · have hb : decide ((4096 : Int) < (zs.length : Int)) = true := by simp; omega
    go_enter Tryd.func3, Tryd.ntmps3
    go_wp2_with fail
    refine (big_any _ _ _ _).mono ?_
    rintro e w1 ⟨rfl, rfl⟩
    rw [hb]
    go_wp2
    go_ret
    exact ⟨rfl, Below.refl _ _⟩
  have hbg : decide ((4096 : Int) < (zs.length : Int)) = false := by simp; omega
  have hl : zs.length ≤ 1048576 := by omega
  clear hbig hm
  go_enter Tryd.func3, Tryd.ntmps3
  go_wp2_with fail
  refine (big_any _ _ _ _).mono ?_
  rintro e w1 ⟨rfl, rfl⟩
  rw [hbg]
  clear hbg
  go_wp2_with fail
  refine (drawShowRow_any a0 cap0 zs w hU hl).mono ?_
  rintro e w1 ⟨v1, rs, rfl, hrl, hown1, hb1⟩
  obtain ⟨A1, cap1, g1, rfl, _, R1⟩ := Row.of_own hown1
  have I1 := R1.ints
  clear R1 hown1
  go_wp2_with fail
  refine (implShowRow_any A1 cap1 rs w1 I1 (by omega) (LaidAll.on hT hb1).tab).mono ?_
  rintro e w2 ⟨rfl, hb2⟩
  replace I1 := I1.on hb2
  have hb02 : Below w.heap.size w w2 := hb1.trans (hb2.mono hb1.size)
  clear hb1 hb2
  obtain ⟨sB, hsB⟩ : ∃ sB : ByteArray, sB = ⟨(showL rs).toArray⟩ := ⟨_, rfl⟩
  have HSB := Lib.hid hsB
  rw [← hsB]
  clear hsB
  go_wp2_with fail
  refine (drawReadRow_any a0 cap0 zs w2 (hU.on hb02) hl).mono ?_
  rintro e w3 ⟨t, rfl, htl, hb3⟩
  replace I1 := I1.on hb3
  have hb03 : Below w.heap.size w w3 := hb02.trans (hb3.mono hb02.size)
  clear hb02 hb3
  have hxl := specRead_len (bl t)
  have HSP := Lib.hid (fun wx => specReadRow_any t wx (by omega))
  have HIM := Lib.hid (fun wx hx => implReadRow_any t wx (by omega) hx)
  have HSH := Lib.hid (fun r h => specRead_show (s := bl t) (r := r) h)
  generalize specRead (bl t) = p at *
  obtain ⟨xs, is⟩ := p
  simp only at hxl
  go_wp2_with fail
  refine (HIM.out w3 (LaidAll.on hT hb03)).mono ?_
  rintro e w4 ⟨v4, rfl, hown4, hb4⟩
  obtain ⟨A4, cap4, g4, rfl, _, R4⟩ := Row.of_own hown4
  have I4 := R4.ints
  replace I1 := I1.on hb4
  have hb04 : Below w.heap.size w w4 := hb03.trans (hb4.mono hb03.size)
  clear R4 hown4 hb03 hb4
  go_wp2_with fail
  refine (drawRowLess_any a0 cap0 zs w4 (hU.on hb04) hl).mono ?_
  rintro e w5 ⟨v5, es, v5', bs, rfl, hal, hbl, hown5, hown5', hb5⟩
  obtain ⟨A5, cap5, g5, rfl, _, R5⟩ := Row.of_own hown5
  obtain ⟨A6, cap6, g6, rfl, _, R6⟩ := Row.of_own hown5'
  have I5 := R5.ints
  have I6 := R6.ints
  replace I1 := I1.on hb5
  replace I4 := I4.on hb5
  have hb05 : Below w.heap.size w w5 := hb04.trans (hb5.mono hb04.size)
  clear R5 R6 hown5 hown5' hb04 hb5
  go_wp2_with fail
  refine (drawPicked_any a0 cap0 zs w5 (hU.on hb05) hl).mono ?_
  rintro e w6 ⟨v7, ps, v7', qs, rfl, hpl, hql, hown7, hown7', hb6⟩
  obtain ⟨A7, cap7, g7, rfl, _, R7⟩ := Row.of_own hown7
  obtain ⟨A8, cap8, g8, rfl, _, R8⟩ := Row.of_own hown7'
  have I7 := R7.ints
  have I8 := R8.ints
  replace I1 := I1.on hb6
  replace I4 := I4.on hb6
  replace I5 := I5.on hb6
  replace I6 := I6.on hb6
  have hb06 : Below w.heap.size w w6 := hb05.trans (hb6.mono hb05.size)
  clear R7 R8 hown7 hown7' hb05 hb6
  have hqlen := picked_len ps qs
  have hqle := pickedL_length ps qs
  have HPI := Lib.hid (fun wx h1 h2 => implPicked_any A7 A8 cap7 cap8 ps qs wx h1 h2 (by omega) (by omega))
  have HPS := Lib.hid (fun wx h1 h2 => specPicked_any A7 A8 cap7 cap8 ps qs wx h1 h2 (by omega) (by omega))
  generalize pickedL ps qs = pk at *
  go_wp2_with fail
  refine (HPI.out w6 I7 I8).mono ?_
  rintro e w7 ⟨v9, rfl, hown9, hb7⟩
  obtain ⟨A9, cap9, g9, rfl, _, R9⟩ := Row.of_own hown9
  have I9 := R9.ints
  replace I1 := I1.on hb7
  replace I4 := I4.on hb7
  replace I5 := I5.on hb7
  replace I6 := I6.on hb7
  replace I7 := I7.on hb7
  replace I8 := I8.on hb7
  have hb07 : Below w.heap.size w w7 := hb06.trans (hb7.mono hb06.size)
  clear R9 hown9 hb06 hb7
  go_wp2_with fail
  refine (HSP.out w7).mono ?_
  rintro e w8 ⟨v10, rfl, hown10, hb8⟩
  obtain ⟨A10, cap10, g10, rfl, _, R10⟩ := Row.of_own hown10
  have I10 := R10.ints
  replace I1 := I1.on hb8
  replace I4 := I4.on hb8
  replace I5 := I5.on hb8
  replace I6 := I6.on hb8
  replace I7 := I7.on hb8
  replace I8 := I8.on hb8
  replace I9 := I9.on hb8
  have hb08 : Below w.heap.size w w8 := hb07.trans (hb8.mono hb07.size)
  clear R10 hown10 hb07 hb8
  have B8 : Below w8.heap.size w8 w8 := Below.refl _ _
  go_wp2_with fail
  refine (likeRow_any A4 A10 cap4 cap10 xs xs w8 w8.heap.size w8.heap.size I4 I10 (by omega) (by omega)).mono ?_
  rintro e w9 ⟨rfl, nd9, rfl⟩
  rw [decide_eq_true (rfl : xs = xs)]
  replace B8 := bel_drewN B8 nd9
  generalize w8.drewN nd9 = w9 at *
  go_wp2_with fail
  refine (specShowRow_any A1 cap1 rs w9 (I1.on B8) (by omega)).mono ?_
  rintro e w10 ⟨rfl, hb⟩
  rw [← HSB.out]
  replace B8 := bel_step B8 hb
  clear hb
  go_wp2_with fail
  refine (implRowOk_any A1 cap1 rs (by omega) w10 (I1.on B8)).mono ?_
  rintro e w11 ⟨rfl, hb⟩
  replace B8 := bel_step B8 hb
  clear hb
  go_wp2_with fail
  refine (specRowOk_any A1 cap1 rs w11 w11.heap.size (I1.on B8) (by omega)).mono ?_
  rintro e w12 ⟨rfl, rfl⟩
  go_wp2_with fail
  refine (implRowLess_any A5 A6 cap5 cap6 es bs (by omega) (by omega) w11 (I5.on B8) (I6.on B8)).mono ?_
  rintro e w12 ⟨rfl, hb⟩
  replace B8 := bel_step B8 hb
  clear hb
  go_wp2_with fail
  refine (specRowLess_any A5 A6 cap5 cap6 es bs w12 w12.heap.size w12.heap.size (I5.on B8) (I6.on B8) (by omega) (by omega)).mono ?_
  rintro e w13 ⟨rfl, nd13, rfl⟩
  replace B8 := bel_drewN B8 nd13
  generalize w12.drewN nd13 = w13 at *
  go_wp2_with fail
  refine (HPS.out w13 (I7.on B8) (I8.on B8)).mono ?_
  rintro e w14 ⟨v11, rfl, hown11, hb⟩
  obtain ⟨A11, cap11, g11, rfl, _, R11⟩ := Row.of_own hown11
  have I11 := R11.ints
  replace B8 := bel_step B8 hb
  clear R11 hown11 hb
  go_wp2_with fail
  refine (likeRow_any A9 A11 cap9 cap11 pk pk w14 w14.heap.size w14.heap.size (I9.on B8) I11 (by omega) (by omega)).mono ?_
  rintro e w15 ⟨rfl, nd15, rfl⟩
  rw [decide_eq_true (rfl : pk = pk)]
  replace B8 := bel_drewN B8 nd15
  clear I11
  generalize w14.drewN nd15 = w15 at *
  have hqq : Hid (((pk.length : Int) != 0) = false ∨ (((pk.length : Int) != 0) = true ∧ ((pk.length : Int) != (qs.length : Int)) = false)) := by
    rcases hqlen with h | h
    · exact .inl (by simp [h])
    · by_cases h0 : pk.length = 0
      · exact .inl (by simp [h0])
      · exact .inr ⟨by simp [h0], by simp [h]⟩
  have hss : Hid ((sB = (⟨#[]⟩ : ByteArray) ∧ rowOkB rs = false) ∨ ((sB.toList == []) = false ∧ Hid (∀ wx, LaidAll wx → Calls Tryd.prog 12 #[.string sB] wx (RowAns (rs, true) wx)))) := by
    have e := HSB.out
    by_cases h : showL rs = []
    · exact .inl ⟨by rw [e, h], showL_nil h⟩
    · refine .inr ⟨?_, Lib.hid (fun wx hx => ?_)⟩
      · rw [toList_bl, e, bl_mk]; simpa using h
      · have hr : specRead (bl sB) = (rs, true) := by rw [e, bl_mk]; exact specRead_of (showL_ne h)
        have hz : sB.size ≤ 1073741824 := by
          have := showL_len rs
          rw [← bl_length, e, bl_mk]; omega
        have := implReadRow_any sB wx hz hx
        rwa [hr] at this
  clear hqlen hqle HPI HPS HSP HIM HSB
  cases is with
  | false =>
    clear HSH
    rcases less_three es bs with ⟨hab, hL1, hL2⟩ | ⟨hab, hL1, hL2⟩ | ⟨hab, hL1, hL2⟩
    · have HL1 := Lib.hid hL1
      have HL2 := Lib.hid hL2
      have HAB := Lib.hid hab
      clear hL1 hL2 hab
      go_wp2_with fail
      refine (implRowLess_any A5 A6 cap5 cap6 es bs (by omega) (by omega) w15 (I5.on B8) (I6.on B8)).mono ?_
      rintro e w16 ⟨rfl, hb⟩
      rw [HL1.out]
      replace B8 := bel_step B8 hb
      clear hb
      go_wp2_with fail
      refine (implRowLess_any A6 A5 cap6 cap5 bs es (by omega) (by omega) w16 (I6.on B8) (I5.on B8)).mono ?_
      rintro e w17 ⟨rfl, hb⟩
      rw [HL2.out]
      replace B8 := bel_step B8 hb
      clear hb
      go_wp2_with fail
      refine (likeRow_any A5 A6 cap5 cap6 es bs w17 w17.heap.size w17.heap.size (I5.on B8) (I6.on B8) (by omega) (by omega)).mono ?_
      rintro e w18 ⟨rfl, nd18, rfl⟩
      rw [decide_eq_true HAB.out]
      replace B8 := bel_drewN B8 nd18
      generalize w17.drewN nd18 = w18 at *
      go_wp2_with fail
      refine (implRowLess_any A5 A6 cap5 cap6 es bs (by omega) (by omega) w18 (I5.on B8) (I6.on B8)).mono ?_
      rintro e w20 ⟨rfl, hb⟩
      rw [HL1.out]
      replace B8 := bel_step B8 hb
      clear hb
      rcases hqq.out with hq1 | ⟨hq1, hq2⟩
      all_goals
        rcases hss.out with ⟨rfl, hok⟩ | ⟨hs1, HRS⟩
        · have HOK := Lib.hid hok
          clear hok
          go_wp2_with fail
          refine (implRowOk_no A1 cap1 rs (by omega) w20 (I1.on B8) HOK.out).mono ?_
          rintro e w21 ⟨rfl, hb⟩
          replace B8 := bel_step B8 hb
          clear hb
          go_wp2
          go_ret
          exact ⟨rfl, bel_step hb08 B8⟩
        · go_wp2_with fail
          refine (HRS.out w20 (LaidAll.on hT (bel_step hb08 B8))).mono ?_
          rintro e w21 ⟨v21, rfl, hown21, hb⟩
          obtain ⟨A21, cap21, g21, rfl, _, R21⟩ := Row.of_own hown21
          have I21 := R21.ints
          replace B8 := bel_step B8 hb
          clear R21 hown21 hb
          go_wp2_with fail
          refine (likeRow_any A21 A1 cap21 cap1 rs rs w21 w21.heap.size w21.heap.size I21 (I1.on B8) (by omega) (by omega)).mono ?_
          rintro e w22 ⟨rfl, nd22, rfl⟩
          rw [decide_eq_true (rfl : rs = rs)]
          replace B8 := bel_drewN B8 nd22
          generalize w21.drewN nd22 = w22 at *
          go_wp2
          go_ret
          exact ⟨rfl, bel_step hb08 B8⟩
    · have HL1 := Lib.hid hL1
      have HL2 := Lib.hid hL2
      have HAB := Lib.hid hab
      clear hL1 hL2 hab
      go_wp2_with fail
      refine (implRowLess_any A5 A6 cap5 cap6 es bs (by omega) (by omega) w15 (I5.on B8) (I6.on B8)).mono ?_
      rintro e w16 ⟨rfl, hb⟩
      rw [HL1.out]
      replace B8 := bel_step B8 hb
      clear hb
      go_wp2_with fail
      refine (likeRow_any A5 A6 cap5 cap6 es bs w16 w16.heap.size w16.heap.size (I5.on B8) (I6.on B8) (by omega) (by omega)).mono ?_
      rintro e w18 ⟨rfl, nd18, rfl⟩
      rw [decide_eq_false HAB.out]
      replace B8 := bel_drewN B8 nd18
      generalize w16.drewN nd18 = w18 at *
      go_wp2_with fail
      refine (implRowLess_any A5 A6 cap5 cap6 es bs (by omega) (by omega) w18 (I5.on B8) (I6.on B8)).mono ?_
      rintro e w19 ⟨rfl, hb⟩
      rw [HL1.out]
      replace B8 := bel_step B8 hb
      clear hb
      go_wp2_with fail
      refine (implRowLess_any A6 A5 cap6 cap5 bs es (by omega) (by omega) w19 (I6.on B8) (I5.on B8)).mono ?_
      rintro e w20 ⟨rfl, hb⟩
      rw [HL2.out]
      replace B8 := bel_step B8 hb
      clear hb
      rcases hqq.out with hq1 | ⟨hq1, hq2⟩
      all_goals
        rcases hss.out with ⟨rfl, hok⟩ | ⟨hs1, HRS⟩
        · have HOK := Lib.hid hok
          clear hok
          go_wp2_with fail
          refine (implRowOk_no A1 cap1 rs (by omega) w20 (I1.on B8) HOK.out).mono ?_
          rintro e w21 ⟨rfl, hb⟩
          replace B8 := bel_step B8 hb
          clear hb
          go_wp2
          go_ret
          exact ⟨rfl, bel_step hb08 B8⟩
        · go_wp2_with fail
          refine (HRS.out w20 (LaidAll.on hT (bel_step hb08 B8))).mono ?_
          rintro e w21 ⟨v21, rfl, hown21, hb⟩
          obtain ⟨A21, cap21, g21, rfl, _, R21⟩ := Row.of_own hown21
          have I21 := R21.ints
          replace B8 := bel_step B8 hb
          clear R21 hown21 hb
          go_wp2_with fail
          refine (likeRow_any A21 A1 cap21 cap1 rs rs w21 w21.heap.size w21.heap.size I21 (I1.on B8) (by omega) (by omega)).mono ?_
          rintro e w22 ⟨rfl, nd22, rfl⟩
          rw [decide_eq_true (rfl : rs = rs)]
          replace B8 := bel_drewN B8 nd22
          generalize w21.drewN nd22 = w22 at *
          go_wp2
          go_ret
          exact ⟨rfl, bel_step hb08 B8⟩
    · have HL1 := Lib.hid hL1
      have HL2 := Lib.hid hL2
      have HAB := Lib.hid hab
      clear hL1 hL2 hab
      go_wp2_with fail
      refine (implRowLess_any A5 A6 cap5 cap6 es bs (by omega) (by omega) w15 (I5.on B8) (I6.on B8)).mono ?_
      rintro e w16 ⟨rfl, hb⟩
      rw [HL1.out]
      replace B8 := bel_step B8 hb
      clear hb
      go_wp2_with fail
      refine (implRowLess_any A6 A5 cap6 cap5 bs es (by omega) (by omega) w16 (I6.on B8) (I5.on B8)).mono ?_
      rintro e w17 ⟨rfl, hb⟩
      rw [HL2.out]
      replace B8 := bel_step B8 hb
      clear hb
      go_wp2_with fail
      refine (likeRow_any A5 A6 cap5 cap6 es bs w17 w17.heap.size w17.heap.size (I5.on B8) (I6.on B8) (by omega) (by omega)).mono ?_
      rintro e w18 ⟨rfl, nd18, rfl⟩
      rw [decide_eq_false HAB.out]
      replace B8 := bel_drewN B8 nd18
      generalize w17.drewN nd18 = w18 at *
      go_wp2_with fail
      refine (implRowLess_any A5 A6 cap5 cap6 es bs (by omega) (by omega) w18 (I5.on B8) (I6.on B8)).mono ?_
      rintro e w20 ⟨rfl, hb⟩
      rw [HL1.out]
      replace B8 := bel_step B8 hb
      clear hb
      rcases hqq.out with hq1 | ⟨hq1, hq2⟩
      all_goals
        rcases hss.out with ⟨rfl, hok⟩ | ⟨hs1, HRS⟩
        · have HOK := Lib.hid hok
          clear hok
          go_wp2_with fail
          refine (implRowOk_no A1 cap1 rs (by omega) w20 (I1.on B8) HOK.out).mono ?_
          rintro e w21 ⟨rfl, hb⟩
          replace B8 := bel_step B8 hb
          clear hb
          go_wp2
          go_ret
          exact ⟨rfl, bel_step hb08 B8⟩
        · go_wp2_with fail
          refine (HRS.out w20 (LaidAll.on hT (bel_step hb08 B8))).mono ?_
          rintro e w21 ⟨v21, rfl, hown21, hb⟩
          obtain ⟨A21, cap21, g21, rfl, _, R21⟩ := Row.of_own hown21
          have I21 := R21.ints
          replace B8 := bel_step B8 hb
          clear R21 hown21 hb
          go_wp2_with fail
          refine (likeRow_any A21 A1 cap21 cap1 rs rs w21 w21.heap.size w21.heap.size I21 (I1.on B8) (by omega) (by omega)).mono ?_
          rintro e w22 ⟨rfl, nd22, rfl⟩
          rw [decide_eq_true (rfl : rs = rs)]
          replace B8 := bel_drewN B8 nd22
          generalize w21.drewN nd22 = w22 at *
          go_wp2
          go_ret
          exact ⟨rfl, bel_step hb08 B8⟩
  | true =>
    have hsx := (HSH.out xs rfl).1
    have htx : (⟨(showL xs).toArray⟩ : ByteArray) = t := (bl_eta t _ hsx.symm).symm
    clear hsx HSH
    go_wp2_with fail
    refine (implShowRow_any A4 cap4 xs w15 (I4.on B8) (by omega) (LaidAll.on hT (bel_step hb08 B8)).tab).mono ?_
    rintro e w23 ⟨rfl, hb⟩
    rw [htx]
    replace B8 := bel_step B8 hb
    clear hb htx
    rcases less_three es bs with ⟨hab, hL1, hL2⟩ | ⟨hab, hL1, hL2⟩ | ⟨hab, hL1, hL2⟩
    · have HL1 := Lib.hid hL1
      have HL2 := Lib.hid hL2
      have HAB := Lib.hid hab
      clear hL1 hL2 hab
      go_wp2_with fail
      refine (implRowLess_any A5 A6 cap5 cap6 es bs (by omega) (by omega) w23 (I5.on B8) (I6.on B8)).mono ?_
      rintro e w16 ⟨rfl, hb⟩
      rw [HL1.out]
      replace B8 := bel_step B8 hb
      clear hb
      go_wp2_with fail
      refine (implRowLess_any A6 A5 cap6 cap5 bs es (by omega) (by omega) w16 (I6.on B8) (I5.on B8)).mono ?_
      rintro e w17 ⟨rfl, hb⟩
      rw [HL2.out]
      replace B8 := bel_step B8 hb
      clear hb
      go_wp2_with fail
      refine (likeRow_any A5 A6 cap5 cap6 es bs w17 w17.heap.size w17.heap.size (I5.on B8) (I6.on B8) (by omega) (by omega)).mono ?_
      rintro e w18 ⟨rfl, nd18, rfl⟩
      rw [decide_eq_true HAB.out]
      replace B8 := bel_drewN B8 nd18
      generalize w17.drewN nd18 = w18 at *
      go_wp2_with fail
      refine (implRowLess_any A5 A6 cap5 cap6 es bs (by omega) (by omega) w18 (I5.on B8) (I6.on B8)).mono ?_
      rintro e w20 ⟨rfl, hb⟩
      rw [HL1.out]
      replace B8 := bel_step B8 hb
      clear hb
      rcases hqq.out with hq1 | ⟨hq1, hq2⟩
      all_goals
        rcases hss.out with ⟨rfl, hok⟩ | ⟨hs1, HRS⟩
        · have HOK := Lib.hid hok
          clear hok
          go_wp2_with fail
          refine (implRowOk_no A1 cap1 rs (by omega) w20 (I1.on B8) HOK.out).mono ?_
          rintro e w21 ⟨rfl, hb⟩
          replace B8 := bel_step B8 hb
          clear hb
          go_wp2
          go_ret
          exact ⟨rfl, bel_step hb08 B8⟩
        · go_wp2_with fail
          refine (HRS.out w20 (LaidAll.on hT (bel_step hb08 B8))).mono ?_
          rintro e w21 ⟨v21, rfl, hown21, hb⟩
          obtain ⟨A21, cap21, g21, rfl, _, R21⟩ := Row.of_own hown21
          have I21 := R21.ints
          replace B8 := bel_step B8 hb
          clear R21 hown21 hb
          go_wp2_with fail
          refine (likeRow_any A21 A1 cap21 cap1 rs rs w21 w21.heap.size w21.heap.size I21 (I1.on B8) (by omega) (by omega)).mono ?_
          rintro e w22 ⟨rfl, nd22, rfl⟩
          rw [decide_eq_true (rfl : rs = rs)]
          replace B8 := bel_drewN B8 nd22
          generalize w21.drewN nd22 = w22 at *
          go_wp2
          go_ret
          exact ⟨rfl, bel_step hb08 B8⟩
    · have HL1 := Lib.hid hL1
      have HL2 := Lib.hid hL2
      have HAB := Lib.hid hab
      clear hL1 hL2 hab
      go_wp2_with fail
      refine (implRowLess_any A5 A6 cap5 cap6 es bs (by omega) (by omega) w23 (I5.on B8) (I6.on B8)).mono ?_
      rintro e w16 ⟨rfl, hb⟩
      rw [HL1.out]
      replace B8 := bel_step B8 hb
      clear hb
      go_wp2_with fail
      refine (likeRow_any A5 A6 cap5 cap6 es bs w16 w16.heap.size w16.heap.size (I5.on B8) (I6.on B8) (by omega) (by omega)).mono ?_
      rintro e w18 ⟨rfl, nd18, rfl⟩
      rw [decide_eq_false HAB.out]
      replace B8 := bel_drewN B8 nd18
      generalize w16.drewN nd18 = w18 at *
      go_wp2_with fail
      refine (implRowLess_any A5 A6 cap5 cap6 es bs (by omega) (by omega) w18 (I5.on B8) (I6.on B8)).mono ?_
      rintro e w19 ⟨rfl, hb⟩
      rw [HL1.out]
      replace B8 := bel_step B8 hb
      clear hb
      go_wp2_with fail
      refine (implRowLess_any A6 A5 cap6 cap5 bs es (by omega) (by omega) w19 (I6.on B8) (I5.on B8)).mono ?_
      rintro e w20 ⟨rfl, hb⟩
      rw [HL2.out]
      replace B8 := bel_step B8 hb
      clear hb
      rcases hqq.out with hq1 | ⟨hq1, hq2⟩
      all_goals
        rcases hss.out with ⟨rfl, hok⟩ | ⟨hs1, HRS⟩
        · have HOK := Lib.hid hok
          clear hok
          go_wp2_with fail
          refine (implRowOk_no A1 cap1 rs (by omega) w20 (I1.on B8) HOK.out).mono ?_
          rintro e w21 ⟨rfl, hb⟩
          replace B8 := bel_step B8 hb
          clear hb
          go_wp2
          go_ret
          exact ⟨rfl, bel_step hb08 B8⟩
        · go_wp2_with fail
          refine (HRS.out w20 (LaidAll.on hT (bel_step hb08 B8))).mono ?_
          rintro e w21 ⟨v21, rfl, hown21, hb⟩
          obtain ⟨A21, cap21, g21, rfl, _, R21⟩ := Row.of_own hown21
          have I21 := R21.ints
          replace B8 := bel_step B8 hb
          clear R21 hown21 hb
          go_wp2_with fail
          refine (likeRow_any A21 A1 cap21 cap1 rs rs w21 w21.heap.size w21.heap.size I21 (I1.on B8) (by omega) (by omega)).mono ?_
          rintro e w22 ⟨rfl, nd22, rfl⟩
          rw [decide_eq_true (rfl : rs = rs)]
          replace B8 := bel_drewN B8 nd22
          generalize w21.drewN nd22 = w22 at *
          go_wp2
          go_ret
          exact ⟨rfl, bel_step hb08 B8⟩
    · have HL1 := Lib.hid hL1
      have HL2 := Lib.hid hL2
      have HAB := Lib.hid hab
      clear hL1 hL2 hab
      go_wp2_with fail
      refine (implRowLess_any A5 A6 cap5 cap6 es bs (by omega) (by omega) w23 (I5.on B8) (I6.on B8)).mono ?_
      rintro e w16 ⟨rfl, hb⟩
      rw [HL1.out]
      replace B8 := bel_step B8 hb
      clear hb
      go_wp2_with fail
      refine (implRowLess_any A6 A5 cap6 cap5 bs es (by omega) (by omega) w16 (I6.on B8) (I5.on B8)).mono ?_
      rintro e w17 ⟨rfl, hb⟩
      rw [HL2.out]
      replace B8 := bel_step B8 hb
      clear hb
      go_wp2_with fail
      refine (likeRow_any A5 A6 cap5 cap6 es bs w17 w17.heap.size w17.heap.size (I5.on B8) (I6.on B8) (by omega) (by omega)).mono ?_
      rintro e w18 ⟨rfl, nd18, rfl⟩
      rw [decide_eq_false HAB.out]
      replace B8 := bel_drewN B8 nd18
      generalize w17.drewN nd18 = w18 at *
      go_wp2_with fail
      refine (implRowLess_any A5 A6 cap5 cap6 es bs (by omega) (by omega) w18 (I5.on B8) (I6.on B8)).mono ?_
      rintro e w20 ⟨rfl, hb⟩
      rw [HL1.out]
      replace B8 := bel_step B8 hb
      clear hb
      rcases hqq.out with hq1 | ⟨hq1, hq2⟩
      all_goals
        rcases hss.out with ⟨rfl, hok⟩ | ⟨hs1, HRS⟩
        · have HOK := Lib.hid hok
          clear hok
          go_wp2_with fail
          refine (implRowOk_no A1 cap1 rs (by omega) w20 (I1.on B8) HOK.out).mono ?_
          rintro e w21 ⟨rfl, hb⟩
          replace B8 := bel_step B8 hb
          clear hb
          go_wp2
          go_ret
          exact ⟨rfl, bel_step hb08 B8⟩
        · go_wp2_with fail
          refine (HRS.out w20 (LaidAll.on hT (bel_step hb08 B8))).mono ?_
          rintro e w21 ⟨v21, rfl, hown21, hb⟩
          obtain ⟨A21, cap21, g21, rfl, _, R21⟩ := Row.of_own hown21
          have I21 := R21.ints
          replace B8 := bel_step B8 hb
          clear R21 hown21 hb
          go_wp2_with fail
          refine (likeRow_any A21 A1 cap21 cap1 rs rs w21 w21.heap.size w21.heap.size I21 (I1.on B8) (by omega) (by omega)).mono ?_
          rintro e w22 ⟨rfl, nd22, rfl⟩
          rw [decide_eq_true (rfl : rs = rs)]
          replace B8 := bel_drewN B8 nd22
          generalize w21.drewN nd22 = w22 at *
          go_wp2
          go_ret
          exact ⟨rfl, bel_step hb08 B8⟩
end Go.Proofs.YthlniadodiomfaaDoor
