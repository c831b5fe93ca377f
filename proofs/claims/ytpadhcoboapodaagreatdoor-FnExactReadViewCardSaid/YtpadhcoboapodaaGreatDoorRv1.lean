/- Views read of their text: the program's ReadView; for texts of at most 2^20 bytes; the variables lie as their texts lay them. -/
import Derived.Test.YtpadhcoboapodaaGreatDoorRv0
namespace Go.Proofs.YtpadhcoboapodaaGreatDoor
open Go.RowKit

theorem implV_none {s : List UInt8} (h : splitN s = none) : implV s = none := by unfold implV; rw [h]
theorem implV_stop {s : List UInt8} {q : List (List (List UInt8))} (h : splitN s = some q) (h2 : q.mapM implReadN = none) : implV s = none := by unfold implV; rw [h]; simp only; rw [h2]
theorem implV_all {s : List UInt8} {q : List (List (List UInt8))} {v : List Nd} (h : splitN s = some q) (h2 : q.mapM implReadN = some v) : implV s = if showV v = s then some v else none := by unfold implV; rw [h]; simp only; rw [h2]
theorem cat_tl (by_ : List UInt8) : ∀ ws : List (List UInt8), (cat by_ ws.tail).length ≤ (cat by_ ws).length
  | [] => Nat.le_refl _
  | [t] => Nat.zero_le _
  | t :: u :: r => by
    show (cat by_ (u :: r)).length ≤ (t ++ by_ ++ cat by_ (u :: r)).length
    rw [List.length_append]
    omega
theorem splitN_59 (r : List UInt8) : splitN (59 :: r) = none := by
  unfold splitN partsV
  rw [spl_yes]
  simp only
  cases (spl 59 r).mapM stripB with
  | none => rfl
  | some ps => simp [spl]
theorem splitN_few {s : List UInt8} {q : List (List (List UInt8))} (h : splitN s = some q) : q.length ≤ s.length := by
  by_cases hc : s.count 59 = s.length
  · cases s with
    | nil => rw [splitN_nil] at h; cases h
    | cons b r =>
      obtain rfl : (59 : UInt8) = b := List.count_eq_length.1 hc b (by simp)
      rw [splitN_59] at h
      cases h
  · have h2 : s.count 59 ≤ s.length := List.count_le_length
    unfold splitN at h
    cases hp : partsV s with
    | none => rw [hp] at h; cases h
    | some ps =>
      rw [hp] at h
      simp only at h
      split at h
      · obtain rfl := Option.some.inj h
        have h3 : ps.length = (spl 59 s).length := by
          unfold partsV at hp
          split at hp
          · rename_i a r hs
            cases hm : r.mapM stripB with
            | none => rw [hm] at hp; cases hp
            | some qs =>
              rw [hm] at hp
              obtain rfl := Option.some.inj hp
              rw [hs, List.length_cons, List.length_cons, mapM_len hm]
          · cases hp
        have h4 := spl_length 59 s
        rw [List.length_map]
        omega
      · cases h
/-- What is known of the words of a node. -/
def WordsAt (w : World) (m : Nat) (v : Value) (ws : List (List UInt8)) : Prop :=
  ∃ (g cap : Nat) (w0 : ByteArray) (r : List ByteArray), v = .slice (some ⟨g, 0, none⟩) (r.length + 1) cap ∧ ws = (w0 :: r).map bl ∧ g < w.heap.size ∧ r.length + 1 ≤ cap ∧ (∀ j, j < r.length + 1 → w.cell? ⟨g, j, none⟩ = some (.string (sx (w0 :: r) j))) ∧ (cat [32] (r.map bl)).length ≤ m ∧ (∀ j, j < r.length → (sx r j).size ≤ 1073741824) ∧ r.length ≤ m
theorem wordsAt_of {w : World} {base : Nat} {s : List UInt8} {q : List (List (List UInt8))} {e : WN} (h : splitN s = some q) (hm : e.ws.map bl ∈ q) (ho : w.ownsRow base 9 1 e.v e.ws.length (strl e.ws)) (hz : ∀ x ∈ e.ws, x.size ≤ 1073741824) : WordsAt w s.length e.v (e.ws.map bl) := by
  obtain ⟨h1, h2⟩ := splitN_cat h _ hm
  have h3 := splitN_words h _ hm
  have h0 : 0 < e.ws.length := by
    cases he : e.ws with
    | nil => rw [he] at h1; exact absurd rfl h1
    | cons a r => simp
  obtain ⟨g, cap, hv, hg, hc, hcc⟩ := own_cells1 ho h0
  obtain ⟨v, ws⟩ := e
  cases ws with
  | nil => exact absurd h0 (by simp)
  | cons w0 r =>
    refine ⟨g, cap, w0, r, hv, rfl, hg, hc, fun j hj => hcc j _ ?_, ?_, fun j hj => ?_, ?_⟩
    · have hj' : j < (w0 :: r).length := hj
      rw [sx_eq _ j hj']
      show (strl (w0 :: r))[j]? = _
      unfold strl
      rw [List.getElem?_map, List.getElem?_eq_getElem hj']
      rfl
    · have := cat_tl [32] ((w0 :: r).map bl)
      exact Nat.le_trans this h2
    · rw [sx_eq r j hj]
      exact hz _ (List.mem_cons_of_mem _ (List.getElem_mem hj))
    · simp at h3; omega
set_option maxRecDepth 100000 in
set_option maxHeartbeats 4000000 in
theorem implReadView_any (s : ByteArray) (w : World) (hs : s.size ≤ 1048576) (hF : FormsAt w) (hL : LaidAll w) :
    Calls Tryz.prog 5 #[.string s] w (RvAns (implV (bl s)) w) := by
  have HFW := Lib.hid (show ∀ W, Below w.heap.size w W → FormsAt W from fun W h => hF.on h)
  have HLW := Lib.hid (show ∀ W, Below w.heap.size w W → LaidAll W from fun W h => hL.on h)
  clear hF hL
  go_enter Tryz.func5, Tryz.ntmps5
  go_wp2_with fail
  refine (splitNodes_any s w hs).mono ?_
  rintro e w1 ⟨hno, hb1, hyes⟩
  cases hq : splitN (bl s) with
  | none =>
    obtain rfl := hno hq
    have HIV := Lib.hid (implV_none hq)
    clear hno hyes hq
    go_wp2
    go_ret2
    rw [HIV.out]
    exact rv_no hb1
  | some q =>
    obtain ⟨A, c, es, rfl, hwn, hown, heach, hel, hez⟩ := hyes q hq
    have hTs : (s ++ (⟨#[59]⟩ : ByteArray)).size = s.size + 1 := by rw [ByteArray.size_append]; rfl
    have hel2 : es.length ≤ s.size := by have := splitN_few hq; rw [← hwn, wordsN_length, bl_length] at this; exact this
    have HW := Lib.hid (show ∀ k (h : k < es.length), WordsAt w1 s.size (es[k]).v ((es[k]).ws.map bl) from fun k h => by
      have := wordsAt_of (w := w1) (e := es[k]) hq (by rw [← hwn]; exact List.mem_map.2 ⟨es[k], List.getElem_mem h, rfl⟩) (heach _ (List.getElem_mem h)) (fun x hx => by have := (hez _ (List.getElem_mem h)).2 x hx; omega)
      rwa [bl_length] at this)
    have HI0 := Lib.hid (show (wordsN es).mapM implReadN = none → implV (bl s) = none from fun h => implV_stop hq (by rw [← hwn]; exact h))
    have HI1 := Lib.hid (show ∀ v, (wordsN es).mapM implReadN = some v → implV (bl s) = if showV v = bl s then some v else none from fun v h => implV_all hq (by rw [← hwn]; exact h))
    have HOC := Lib.hid (show 0 < es.length → ∃ g, A = some ⟨g, 0, none⟩ ∧ g < w1.heap.size ∧ ∀ k (h : k < es.length), w1.cell? ⟨g, k, none⟩ = some (es[k]).v from fun h0 => by
      obtain ⟨g, cap, hv, hg, _, hc⟩ := own_cells1 hown h0
      injection hv with e1 e2 e3
      exact ⟨g, e1, hg, fun k h => hc k _ (by simp [h])⟩)
    have HWL := Lib.hid (show (wordsN es).length = es.length from wordsN_length es)
    have HWG := Lib.hid (show ∀ k (h : k < es.length) (h2 : k < (wordsN es).length), (wordsN es)[k] = (es[k]).ws.map bl from fun k h h2 => by simp [wordsN])
    have hmk := fun wx => make_node es.length (by omega) wx
    have bc := (Below.refl w1.heap.size w1).alloc (Nat.le_refl _) (.cells (madeCells #[Value.int .i64 0, .string ⟨#[]⟩, .slice none 0 0, .slice none 0 0, .int .i64 0] (es.length * 5)) 33)
    have BM := Blk.new w1 33 (madeCells #[Value.int .i64 0, .string ⟨#[]⟩, .slice none 0 0, .slice none 0 0, .int .i64 0] (es.length * 5))
    rw [made_nodes] at BM bc
    have st0 : RvSt w1 w1.heap.size es.length [] (w1.alloc (.cells (arr (5 * es.length) (ncell [])) 33)) := ⟨BM, NRows.nil _ _, bc⟩
    clear bc BM hno hyes hwn hown heach hez hTs hq hel
    go_wp2
    clear hmk
    rw [made_nodes]
    generalize w1.alloc (.cells (arr (5 * es.length) (ncell [])) 33) = wb at *
    obtain ⟨G, hG⟩ : ∃ G, w1.heap.size = G := ⟨_, rfl⟩
    have HG := Lib.hid hG
    rw [hG] at st0 ⊢
    clear hG
    go_loopw [24] (fun i wr => ∃ (k : Nat) (ns : List NV), k ≤ es.length ∧ i = .int .i64 k ∧ ns.length = k ∧ ((wordsN es).take k).mapM implReadN = some (ns.map NV.d) ∧ RvSt w1 G es.length ns wr) (fun i _ => es.length - (intOf i).toNat)
    case atStart => exact ⟨0, [], Nat.zero_le _, rfl, rfl, rfl, st0⟩
    case round =>
      obtain ⟨k, ns, hk, rfl, hnl, hmm, hst⟩ := hrel
      have HNL := Lib.hid hnl
      have HMM := Lib.hid hmm
      clear st0 hnl hmm
      by_cases hlt : k < es.length
      · obtain ⟨gq, rfl, hgq, hcq⟩ := HOC.out (by omega)
        have hck : wr.cell? ⟨gq, k, none⟩ = some (es[k]).v := (hst.bel.cell (p := ⟨gq, k, none⟩) hgq).trans (hcq k hlt)
        have hg2 := HWG.out k hlt (by rw [HWL.out]; exact hlt)
        obtain ⟨g, cap, w0, r, hv, hws, hg, hcap, hcc, hcat, hzz, hrl⟩ := HW.out k hlt
        rw [hv] at hck
        rw [hws] at hg2
        have HG2 := Lib.hid hg2
        have hbr := hb1.trans (hst.bel.mono hb1.size)
        have HRN := Lib.hid (readNode_any g cap w0 r wr (fun j hj => (hst.bel.cell (p := ⟨g, j, none⟩) hg).trans (hcc j hj)) (Nat.lt_of_lt_of_le hg hst.bel.size) hcap (by omega) hzz (by omega) (HFW.out wr hbr) (HLW.out wr hbr))
        have HST := Lib.hid hst
        have HCAT := Lib.hid (And.intro hcat hrl)
        clear hst hgq hcq hg2 hv hws hg hcap hcc hzz hcat hbr
        go_wp2_with fail
        refine HRN.out.mono ?_
        rintro e w3 ⟨dk, dp, dn, Ac, lc, cc, Az, lz, cz, rfl, hb3, hd⟩
        have hW3 := bel_step HST.out.bel hb3
        have hWw := hb1.trans (hW3.mono hb1.size)
        cases hx : implReadN ((w0 :: r).map bl) with
        | none =>
          have HIV := Lib.hid (HI0.out (mapM_stop _ _ k (by rw [HWL.out]; exact hlt) (by rw [HG2.out]; exact hx)))
          have hWa := hWw.alloc hWw.size (.cells #[.int .i64 dk, .string dn, .slice Ac lc cc, .slice Az lz cz, .int .i64 dp] 33)
          clear hd hx hck hWw hW3 hb3
          simp only [Option.isSome_none]
          go_wp2
          go_ret2
          rw [HIV.out]
          have := rv_no hWa
          rw [World.size_alloc] at this
          exact this
        | some d =>
          obtain ⟨rfl, rfl, rfl, rfl, rfl, gc, gz, hgc, hgz, hrc, hrz⟩ := hd d hx
          have HM2 := Lib.hid (mapM_take_succ implReadN (wordsN es) k _ d (by rw [HWL.out]; exact hlt) HMM.out (by rw [HG2.out]; exact hx))
          have hba := hb3.alloc hb3.size (.cells #[.int .i64 d.k, .string d.n, .slice Ac d.c.length cc, .slice Az d.z.length cz, .int .i64 d.p] 33)
          have ha1 := (Below.refl w3.heap.size w3).alloc (Nat.le_refl _) (.cells #[.int .i64 d.k, .string d.n, .slice Ac d.c.length cc, .slice Az d.z.length cz, .int .i64 d.p] 33)
          have hst1 := HST.out.push (e := ⟨d, Ac, cc, gc, Az, cz, gz⟩) (by rw [HG.out]; exact Nat.le_refl _) hba ⟨hrc.on ha1, hrz.on ha1⟩ hgc hgz
          have B1 := (HST.out.on hba).blk
          obtain ⟨e0, e1, e2, e3, e4⟩ := (Blk.new w3 33 #[.int .i64 d.k, .string d.n, .slice Ac d.c.length cc, .slice Az d.z.length cz, .int .i64 d.p]).c5
          have m0 := B1.cell (k * 5)
          have m1 := B1.cell (k * 5 + 1)
          have m2 := B1.cell (k * 5 + 2)
          have m3 := B1.cell (k * 5 + 3)
          have m4 := B1.cell (k * 5 + 4)
          rw [arr_get _ (by omega)] at m0 m1 m2 m3 m4
          have fr0 := B1.frozen (k * 5)
          have fr1 := B1.frozen (k * 5 + 1)
          have fr2 := B1.frozen (k * 5 + 2)
          have fr3 := B1.frozen (k * 5 + 3)
          have fr4 := B1.frozen (k * 5 + 4)
          rw [HNL.out] at hst1
          have HS := Lib.hid hst1
          have HP := Lib.hid (show ((wordsN es).take (k + 1)).mapM implReadN = some ((ns ++ [(⟨d, Ac, cc, gc, Az, cz, gz⟩ : NV)]).map NV.d) by
            rw [HM2.out, List.map_append]; rfl)
          have HL := Lib.hid (show (ns ++ [(⟨d, Ac, cc, gc, Az, cz, gz⟩ : NV)]).length = k + 1 by rw [List.length_append, HNL.out]; rfl)
          clear hst1 HST B1 hba ha1 hgc hgz hrc hrz hd hx hck hWw hW3 hb3
          generalize rcell ns (k * 5) = y0 at *
          generalize rcell ns (k * 5 + 1) = y1 at *
          generalize rcell ns (k * 5 + 2) = y2 at *
          generalize rcell ns (k * 5 + 3) = y3 at *
          generalize rcell ns (k * 5 + 4) = y4 at *
          simp only [Option.isSome_some]
          go_wp2
          go_roundw
          case rel => exact ⟨k + 1, _, by omega, by go_num, HL.out, HP.out, HS.out⟩
          case measure => simp [intOf]; omega
      · have hd : decide (k < es.length) = false := by simpa using hlt
        obtain rfl : k = es.length := by omega
        obtain ⟨v, hv⟩ : ∃ v, ns.map NV.d = v := ⟨_, rfl⟩
        have hvl : v.length = es.length := by rw [← hv, List.length_map]; exact HNL.out
        have HV := Lib.hid hv
        have hMV : (wordsN es).mapM implReadN = some v := by
          have := HMM.out
          rwa [List.take_of_length_le (by rw [HWL.out]; exact Nat.le_refl _), hv] at this
        have HIV := Lib.hid (HI1.out v hMV)
        have hft : fitN 1048576 v := fun j hj => by
          have hj2 : j < es.length := by omega
          have hg2 := HWG.out j hj2 (by rw [HWL.out]; exact hj2)
          obtain ⟨g, cap, w0, r, _, hws, _, _, _, hcat, _, hrl⟩ := HW.out j hj2
          have hsome := (mapM_some hMV).2 j _ _ (List.getElem?_eq_getElem (by rw [HWL.out]; exact hj2)) (List.getElem?_eq_getElem hj)
          rw [hg2, hws] at hsome
          rw [ndx_eq v j hj]
          exact readN_fit hsome (by rw [show (List.map bl r) = r.map bl from rfl]; omega) (by simp; omega) (by omega)
        have hst2 : RvSt w1 G ns.length ns wr := by rw [HNL.out]; exact hst
        have hNA := hst2.nat
        have hnds := (hst2.rows.own hNA).nds hv
        have hbr := hb1.trans (hst.bel.mono hb1.size)
        have HSV := Lib.hid (implShowView_any (some ⟨G, 0, none⟩) es.length v wr hnds hft (by omega) (HFW.out wr hbr) (HLW.out wr hbr).tab)
        rw [hvl] at HSV
        have HROW := Lib.hid hst2
        clear hnds hft hst hst2 hNA hMV hv
        by_cases hok : showV v = bl s
        · have HN := Lib.hid (show implV (bl s) = some v by rw [HIV.out, if_pos hok])
          have HE := Lib.hid (bl_eta s _ hok.symm)
          clear hok
          go_wp2_with fail
          refine HSV.out.mono ?_
          rintro e w2 ⟨rfl, hb2⟩
          have hW2 := hbr.trans (hb2.mono hbr.size)
          have HR2 := Lib.hid (HROW.out.on hb2)
          rw [show mkB (showV v) = s from HE.out.symm]
          go_wp2
          go_ret2
          rw [HN.out]
          have hrows := HR2.out.rows
          have := rv_yes (w := w) (c := es.length) ⟨hrows.rows, (fun e he => by have := hrows.lo e he; have := hb1.size; exact ⟨by omega, by omega⟩), hrows.ne⟩ HR2.out.nat (by rw [← HG.out]; exact hb1.size) hW2 HV.out
          rw [HNL.out] at this
          exact this
        · have HN := Lib.hid (show implV (bl s) = none by rw [HIV.out, if_neg hok])
          obtain ⟨S, hS⟩ : ∃ S, mkB (showV v) = S := ⟨_, rfl⟩
          have hne2 : (S.toList != s.toList) = true := by rw [← hS, toList_bl, toList_bl, bl_mkB]; simpa using hok
          have hne3 : (S.toList == s.toList) = false := by rw [← hS, toList_bl, toList_bl, bl_mkB]; simpa using hok
          clear hok
          go_wp2_with fail
          refine HSV.out.mono ?_
          rintro e w2 ⟨rfl, hb2⟩
          rw [hS]
          clear hS
          have hW2 := hbr.trans (hb2.mono hbr.size)
          go_wp2
          go_ret2
          rw [HN.out]
          exact rv_no hW2
end Go.Proofs.YtpadhcoboapodaaGreatDoor
