/- The walk of laws.FnBags: it returns true, whatever the code; nothing that lay has turned; where the library's table of powers lies as the program text lays it. -/
import Derived.Test.YtedbjjhkjkpnkaaDoorDrawBag4
import Derived.Test.YtedbjjhkjkpnkaaDoorBagsThy
import Derived.Test.YtedbjjhkjkpnkaaDoorJE
import Derived.Test.YtedbjjhkjkpnkaaDoorShow4
namespace Go.Proofs.YtedbjjhkjkpnkaaDoor
open Go.RowKit

theorem Rws.here {w : World} {B g : Nat} {rows : List (List Int)} (h : Rws w B (some ⟨g, 0, none⟩) rows) {j : Nat} (hj : j < rows.length) :
    g < B ∧ ∃ Ar cap, w.cell? ⟨g, j, none⟩ = some (.slice Ar (rr rows j).length cap) ∧ Ints w B Ar (rr rows j) ∧ (rr rows j).length ≤ 1099511627776 := by
  obtain ⟨b, off, e, hb, hc⟩ := h (by omega)
  obtain ⟨rfl, rfl⟩ : g = b ∧ 0 = off := by simpa using e
  obtain ⟨Ar, cap, h1, h2, h3⟩ := hc j hj
  rw [Nat.zero_add] at h1
  exact ⟨hb, Ar, cap, h1, h2, h3⟩

set_option maxRecDepth 100000 in
set_option maxHeartbeats 8000000 in
theorem walkFnBags (a0 : Option Addr) (len0 cap0 : Nat) (z0 : List Int) (w : World) (hT : Lib.TabBelow Tryd.prog w.heap.size w "internal/strconv.uint64pow10" .u64 Lib.pow10Tab) (w0 : IsRow .u8 w a0 len0 cap0 z0) :
    Calls Tryd.prog 3 #[.slice a0 len0 cap0] w fun e w' => e = .returned (.bool true) ∧ Below w.heap.size w w' := by
  obtain ⟨zs, rfl, hU, hm⟩ := isRow_u8 w0
  clear w0
  by_cases hbig : (4096 : Int) < (zs.length : Int)
  · have hd := decide_eq_true hbig
    have HD := Lib.hid hd
    clear hd hbig
    go_enter Tryd.func3, Tryd.ntmps3
    go_wp2_with fail
    refine (big_any a0 zs.length cap0 w).mono ?_
    rintro e w1 ⟨rfl, rfl⟩
    rw [HD.out]
    go_wp2
    go_ret
    exact ⟨rfl, Below.refl _ _⟩
  have hd := decide_eq_false hbig
  have HD := Lib.hid hd
  have hzl : zs.length ≤ 1048576 := by omega
  have HT := Lib.hid hT
  clear hd hbig hm hT
  go_enter Tryd.func3, Tryd.ntmps3
  go_wp2_with fail
  refine (big_any a0 zs.length cap0 w).mono ?_
  rintro e w1 ⟨rfl, rfl⟩
  rw [HD.out]
  clear HD
  go_wp2_with fail
  refine (drawBagOf_any a0 cap0 zs w hU hzl).mono ?_
  rintro e w1 ⟨g, cap, rows, rfl, hR1, hrl, hrm, hb1⟩
  have HRM := Lib.hid hrm
  clear hrm
  obtain ⟨W, hW⟩ : ∃ W, bagOfL rows = W := ⟨_, rfl⟩
  have hWl : W.length ≤ 8 := by have := bagOf_length rows; rw [hW] at this; omega
  have HWb := Lib.hid (show ∀ j, j < W.length → (rx W j).length ≤ 1099511627776 from fun j hj => by
    have h1 : ∀ r ∈ rows, r.length ≤ 1000 := fun r hr => by
      obtain ⟨i, hi, rfl⟩ := List.getElem_of_mem hr
      have := HRM.out i hi
      rwa [rr_eq hi] at this
    have h2 := bagOf_rows h1
    rw [hW] at h2
    have h3 := h2 W[j] (List.getElem_mem hj)
    have h4 : rx W j = W[j].1 := by simp [rx, hj]
    rw [h4]; omega)
  obtain ⟨t1, t2⟩ := bagOf_tot rows (by omega)
  obtain ⟨_, _, t3⟩ := bagOf_facts rows (by omega)
  have t4 := bagOf_ok (rows := rows) (by omega)
  rw [hW] at t1 t2 t3 t4
  have HT1 := Lib.hid t1
  have HT2 := Lib.hid t2
  have HT3 := Lib.hid t3
  have HT4 := Lib.hid t4
  have HWE := Lib.hid hW
  clear hW t1 t2 t3 t4
  go_wp2_with fail
  refine (implBagOf_any _ _ rows w1 hR1 (by omega)).mono ?_
  rintro e w2 hOB
  rw [HWE.out] at hOB
  obtain ⟨Ag, capg, esg, rfl, hOg, heg, hb2⟩ := hOB.form2
  have hBg := OBag.bagW hOg heg HWb.out
  have hR2 := hR1.on hb2
  have hb02 := bel_step hb1 hb2
  have hU2 := hU.on hb02
  clear hOB hOg heg hb2 hR1 hb1
  go_wp2_with fail
  refine (drawTimesIn_any a0 cap0 zs w2 hU2 hzl).mono ?_
  rintro e w3 ⟨g3, cp3, es3, v3, row, rfl, hRB3, hel3, hes3, hyl, hown3, hb3⟩
  have HES := Lib.hid hes3
  obtain ⟨bag, hbag⟩ : ∃ bag, es3.map Ent.pair = bag := ⟨_, rfl⟩
  have hB3 := hRB3.bag (fun e he => by have := HES.out e he; omega)
  have hlb : es3.length = bag.length := by rw [← hbag, List.length_map]
  rw [hbag] at hB3
  rw [hlb] at hel3 ⊢
  obtain ⟨Ar, cr, gr, rfl, _, hRr⟩ := Row.of_own hown3
  have hI3 := hRr.ints
  have hR3 := hR2.on hb3
  have hBg3 := hBg.on hb3
  have hb03 := bel_step hb02 hb3
  have hU3 := hU.on hb03
  clear hes3 hbag hlb hRB3 hown3 hRr HES hb3 hR2 hBg hb02 hU2
  go_wp2_with fail
  refine (drawShowBag_any a0 cap0 zs w3 hU3 hzl).mono ?_
  rintro e w4 ⟨g4, cp4, bb, rfl, hB4, hbl4, hb4⟩
  have hR4 := hR3.on hb4
  have hBg4 := hBg3.on hb4
  have hBt4 := hB3.on hb4
  have hI4 := hI3.on hb4
  have hb04 := bel_step hb03 hb4
  clear hR3 hBg3 hB3 hI3 hb03 hb4 hU3 hU
  go_wp2_with fail
  refine (specBagOf_any _ _ rows w4 hR4 (by omega)).mono ?_
  rintro e w5 hOB
  rw [HWE.out] at hOB
  obtain ⟨As, caps, ess, rfl, hOs, hes, hb5⟩ := hOB.form2
  have hBs := OBag.bagW hOs hes HWb.out
  have hR5 := hR4.on hb5
  have hBg5 := hBg4.on hb5
  have hBt5 := hBt4.on hb5
  have hI5 := hI4.on hb5
  have hBb5 := hB4.on hb5
  have hb05 := bel_step hb04 hb5
  clear hOB hOs hes hb5 hR4 hBg4 hBt4 hI4 hB4 hb04
  go_wp2_with fail
  refine (likeBag_any _ _ _ _ W W w5 hBg5 hBs (by omega) (by omega)).mono ?_
  rintro e w6 ⟨rfl, n6, hw6⟩
  rw [decide_eq_true (rfl : W = W)]
  have hR6 : Rws w6 w6.heap.size (some ⟨g, 0, none⟩) rows := by rw [hw6]; exact hR5
  have hBg6 : Bag w6 w6.heap.size Ag W := by rw [hw6]; exact hBg5
  have hBt6 : Bag w6 w6.heap.size (some ⟨g3, 0, none⟩) bag := by rw [hw6]; exact hBt5
  have hBb6 : Bag w6 w6.heap.size (some ⟨g4, 0, none⟩) bb := by rw [hw6]; exact hBb5
  have hI6 : Ints w6 w6.heap.size Ar row := by rw [hw6]; exact hI5
  have hb06 : Below w.heap.size w w6 := by rw [hw6]; exact bel_drewN hb05 n6
  clear hw6 hR5 hBg5 hBt5 hBb5 hI5 hb05 hBs
  go_wp2_with fail
  refine (implTimesIn_any _ _ _ _ bag row w6 hBt6 hI6 (by omega) (by omega)).mono ?_
  rintro e w7 ⟨rfl, hb7⟩
  have hR7 := hR6.on hb7
  have hBg7 := hBg6.on hb7
  have hBt7 := hBt6.on hb7
  have hBb7 := hBb6.on hb7
  have hI7 := hI6.on hb7
  have hb07 := bel_step hb06 hb7
  clear hR6 hBg6 hBt6 hBb6 hI6 hb06 hb7
  go_wp2_with fail
  refine (specTimesIn_any _ _ _ _ bag row w7 _ _ hBt7 hI7 (by omega) (by omega)).mono ?_
  rintro e w8 ⟨rfl, n8, hw8⟩
  have hR8 : Rws w8 w8.heap.size (some ⟨g, 0, none⟩) rows := by rw [hw8]; exact hR7
  have hBg8 : Bag w8 w8.heap.size Ag W := by rw [hw8]; exact hBg7
  have hBt8 : Bag w8 w8.heap.size (some ⟨g3, 0, none⟩) bag := by rw [hw8]; exact hBt7
  have hBb8 : Bag w8 w8.heap.size (some ⟨g4, 0, none⟩) bb := by rw [hw8]; exact hBb7
  have hb08 : Below w.heap.size w w8 := by rw [hw8]; exact bel_drewN hb07 n8
  clear hw8 hR7 hBg7 hBt7 hBb7 hI7 hb07
  generalize timesL bag row = tm
  obtain ⟨S, hS⟩ : ∃ S : ByteArray, S = ⟨(showBagL bb).toArray⟩ := ⟨_, rfl⟩
  have HS := Lib.hid hS
  clear hS
  go_wp2_with fail
  refine (implShowBag_any _ _ bb w8 hBb8 (by omega) (fun w' h' => HT.out w' (hb08.trans (h'.mono hb08.size)))).mono ?_
  rintro e w9 ⟨rfl, hb9⟩
  rw [← HS.out]
  have hR9 := hR8.on hb9
  have hBg9 := hBg8.on hb9
  have hBt9 := hBt8.on hb9
  have hBb9 := hBb8.on hb9
  have hb09 := bel_step hb08 hb9
  clear hR8 hBg8 hBt8 hBb8 hb08 hb9 HT
  go_wp2_with fail
  refine (specShowBag_any _ _ bb w9 hBb9 (by omega)).mono ?_
  rintro e wA ⟨rfl, hbA⟩
  rw [← HS.out]
  have hRA := hR9.on hbA
  have hBgA := hBg9.on hbA
  have hBtA := hBt9.on hbA
  have hb0A := bel_step hb09 hbA
  clear hR9 hBg9 hBt9 hBb9 hb09 hbA HS
  go_wp2_with fail
  refine (implBagOk_any _ _ bag wA hBtA (by omega)).mono ?_
  rintro e wB ⟨rfl, hbB⟩
  have hRB := hRA.on hbB
  have hBgB := hBgA.on hbB
  have hBtB := hBtA.on hbB
  have hb0B := bel_step hb0A hbB
  clear hRA hBgA hBtA hb0A hbB
  go_wp2_with fail
  refine (specBagOk_any _ _ bag wB _ hBtB (by omega)).mono ?_
  rintro e wC ⟨rfl, nC, hwC⟩
  have hRC : Rws wC wC.heap.size (some ⟨g, 0, none⟩) rows := by rw [hwC]; exact hRB
  have hBgC : Bag wC wC.heap.size Ag W := by rw [hwC]; exact hBgB
  have hb0C : Below w.heap.size w wC := by rw [hwC]; exact bel_drewN hb0B nC
  clear hwC hRB hBgB hBtB hb0B
  generalize bagOkB bag = bo
  go_wp2
  -- the total
  go_loopw [8, 10] (fun s i wr => ∃ (k : Nat) (x : Int), k ≤ W.length ∧ i = .int .i64 k ∧ s = .int .i64 x ∧ x = totL (W.take k) ∧ Below wC.heap.size wC wr) (fun _ i _ => W.length - (intOf i).toNat)
  case atStart => exact ⟨0, 0, Nat.zero_le _, rfl, rfl, rfl, Below.refl _ _⟩
  case round =>
    obtain ⟨k, x, hk, rfl, rfl, hx, hWr⟩ := hrel
    have HX := Lib.hid hx
    have hxb : 0 ≤ x ∧ x ≤ 8 := by
      have h1 := tot_take (bag := W) (fun p hp => (HT2.out p hp).1) k
      have h2 := HT1.out
      rw [HX.out]; omega
    clear hx
    by_cases hlt : k < W.length
    · obtain ⟨b, off, rfl, hbl, hc⟩ := hBgC (by omega)
      obtain ⟨Ak, ck, c1, c2, c3, c4⟩ := hc k hlt
      have hcr : wr.cell? ⟨b, off + k * 2 + 1, none⟩ = some (.int .i64 (nx W k)) := (hWr.cell hbl).trans c2
      have hnx : 0 < nx W k ∧ nx W k ≤ 9 := by
        have h1 := HT2.out W[k] (List.getElem_mem hlt)
        have h2 : nx W k = W[k].2 := by simp [nx, hlt]
        rw [h2]; omega
      have HN := Lib.hid (show x + nx W k = totL (W.take (k + 1)) by rw [tot_step hlt, HX.out])
      clear hc c1 c2 c3 c4
      generalize nx W k = y at *
      go_wp2
      go_roundw
      case rel => exact ⟨k + 1, x + y, by omega, by go_num, by go_num, HN.out, by first | exact hWr | exact bel_drewN hWr 1⟩
      case measure => simp [intOf]; omega
    · have hdk : decide (k < W.length) = false := by simpa using hlt
      have hxr : x = (rows.length : Int) := by
        rw [HX.out, List.take_of_length_le (by omega), HT1.out]
      have HXR := Lib.hid hxr
      clear hxr HX hlt
      obtain ⟨wp, rfl⟩ : ∃ wp : World, wp = wr := ⟨_, rfl⟩
      go_wp2
      -- each row
      go_loopw [9, 11, 12, 13] (fun o i _ _ wr => ∃ (q : Nat), q ≤ rows.length ∧ i = .int .i64 q ∧ o = .bool ((rows.take q).all rowOkB) ∧ Below wC.heap.size wC wr) (fun _ i _ _ _ => rows.length - (intOf i).toNat)
      case atStart => exact ⟨0, Nat.zero_le _, rfl, rfl, hWr⟩
      case round =>
        clear hWr
        obtain ⟨q, hq, rfl, rfl, hWr⟩ := hrel
        obtain ⟨wo, rfl⟩ : ∃ wo : World, wo = wr := ⟨_, rfl⟩
        obtain ⟨ok, hok⟩ : ∃ ok, (rows.take q).all rowOkB = ok := ⟨_, rfl⟩
        rw [hok]
        have HOK := Lib.hid hok
        clear hok
        by_cases hlq : q < rows.length
        · obtain ⟨hgl, Aq, cq, d1, d3, d4⟩ := hRC.here hlq
          have HD1 := Lib.hid d1
          clear d1
          have HD3 := Lib.hid d3
          clear d3
          go_wp2
          go_loopw [12, 13] (fun n j wr => ∃ (m : Nat) (y : Int), m ≤ rows.length ∧ j = .int .i64 m ∧ n = .int .i64 y ∧ y = occ (rows.take m) (rr rows q) ∧ Below wC.heap.size wC wr) (fun _ j _ => rows.length - (intOf j).toNat)
          case atStart => exact ⟨0, 0, Nat.zero_le _, rfl, rfl, rfl, hWr⟩
          case round =>
            obtain ⟨m, y, hm, rfl, rfl, hy, hWm⟩ := hrel
            have HY := Lib.hid hy
            have hyb : 0 ≤ y ∧ y ≤ 8 := by
              have h1 := occ_bd (rows.take m) (rr rows q)
              have h2 : (rows.take m).length ≤ rows.length := by simp; omega
              rw [HY.out]; omega
            clear hy
            have e1 : wr.cell? ⟨g, q, none⟩ = some (.slice Aq (rr rows q).length cq) := (hWm.cell hgl).trans HD1.out
            have hIq := HD3.out.on hWm
            by_cases hlm : m < rows.length
            · obtain ⟨_, Am, cm, f1, f3, f4⟩ := hRC.here hlm
              have e2 : wr.cell? ⟨g, m, none⟩ = some (.slice Am (rr rows m).length cm) := (hWm.cell hgl).trans f1
              have hIm := f3.on hWm
              clear f1 f3
              have HOC := Lib.hid (occ_step hlm (rr rows q))
              by_cases he : rr rows q = rr rows m
              · have HE := Lib.hid he
                clear he
                go_wp2_with fail
                go_quiet (first | (go_at_call 17; exact Calls.quiet_of (likeRow_yes Aq Am cq cm (rr rows q) (rr rows m) _ _ _ (by exact hIq) (by exact hIm) d4 f4 HE.out)))
                go_wp2
                go_roundw
                case rel => exact ⟨m + 1, y + 1, by omega, by go_num, by go_num, by rw [HOC.out, if_pos HE.out.symm, HY.out], bel_drewN hWm _⟩
                case measure => simp [intOf]; omega
              · have HE := Lib.hid he
                clear he
                go_wp2_with fail
                go_quiet (first | (go_at_call 17; exact Calls.quiet_of (likeRow_no Aq Am cq cm (rr rows q) (rr rows m) _ _ _ (by exact hIq) (by exact hIm) d4 f4 HE.out)))
                go_wp2
                go_roundw
                case rel => exact ⟨m + 1, y, by omega, by go_num, rfl, by rw [HOC.out, if_neg (fun e => HE.out e.symm), HY.out]; omega, bel_drewN hWm _⟩
                case measure => simp [intOf]; omega
            · have hdm : decide (m < rows.length) = false := by simpa using hlm
              have hyt : timesL W (rr rows q) = y := by rw [HT3.out, HY.out, List.take_of_length_le (by omega)]
              have HYT := Lib.hid hyt
              clear hyt
              have hBgm := hBgC.on hWm
              go_wp2_with fail
              refine (implTimesIn_any _ _ _ _ W (rr rows q) wr hBgm hIq (by omega) d4).mono ?_
              rintro e wx ⟨rfl, hbx⟩
              rw [HYT.out]
              have hWx := bel_step hWm hbx
              have e3 : wx.cell? ⟨g, q, none⟩ = some (.slice Aq (rr rows q).length cq) := (hWx.cell hgl).trans HD1.out
              have hIx := HD3.out.on hWx
              have HAS := Lib.hid (all_step hlq)
              clear e1 hIq hBgm hbx hWm
              cases ok with
              | true =>
                go_wp2_with fail
                refine (specRowOk_any Aq cq (rr rows q) wx _ hIx d4).mono ?_
                rintro e w' ⟨rfl, rfl⟩
                go_wp2
                go_roundw
                case rel => exact ⟨q + 1, by omega, by go_num, by rw [HAS.out, HOK.out, Bool.true_and], hWx⟩
                case measure => simp [intOf]; omega
              | false =>
                go_wp2
                go_roundw
                case rel => exact ⟨q + 1, by omega, by go_num, by rw [HAS.out, HOK.out, Bool.false_and], hWx⟩
                case measure => simp [intOf]; omega
        · have hdq : decide (q < rows.length) = false := by simpa using hlq
          have hok2 : bagOkB W = ok := by rw [HT4.out, ← HOK.out, List.take_of_length_le (by omega)]
          have HO2 := Lib.hid hok2
          have hxe : (x == (rows.length : Int)) = true := by rw [HXR.out]; simp
          clear hok2
          have hBgo := hBgC.on hWr
          have hb0r := bel_step hb0C hWr
          go_wp2_with fail
          refine (implBagOk_any _ _ W wo hBgo (by omega)).mono ?_
          rintro e wZ ⟨rfl, hbZ⟩
          rw [HO2.out]
          have hb0Z := bel_step hb0r hbZ
          go_wp2
          go_ret
          exact ⟨by cases ok <;> rfl, hb0Z⟩
end Go.Proofs.YtedbjjhkjkpnkaaDoor
