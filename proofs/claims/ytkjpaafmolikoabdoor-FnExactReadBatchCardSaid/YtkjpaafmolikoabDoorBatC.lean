/- The program's ReadBatch: a list of deeds of the call's own, or none; nothing that lay has turned. For texts of at most 2^30 bytes; the variables lie as the text lays them. -/
import Derived.Test.YtkjpaafmolikoabDoorBatM
namespace Go.Proofs.YtkjpaafmolikoabDoor
open Go.RowKit

theorem splitC_len (c : UInt8) : ∀ (k : Nat) (s : ByteArray), (Lib.splitB ⟨#[c]⟩ 0 k s).length = min (k + 1) (spl c (bl s)).length
  | 0, s => by
    rw [Lib.splitB_zero]
    have := spl_length c (bl s)
    simp only [List.length_cons, List.length_nil]; omega
  | k + 1, s => by
    have hidx : Lib.indexB s ⟨#[c]⟩ = Lib.indexByte (bl s) c := Lib.index_one (bl s) c
    rcases Lib.indexB_cases s ⟨#[c]⟩ with hm | ⟨o, ho, _⟩
    · rw [Lib.splitB_miss _ _ _ _ hm]
      rw [hidx] at hm
      have h0 : c ∉ bl s := by
        intro hx
        obtain ⟨j, hj⟩ := List.mem_iff_getElem?.1 hx
        exact Lib.indexByte_none hm j hj
      rw [spl_whole c _ h0]; simp only [List.length_cons, List.length_nil]; omega
    · have ho2 : Lib.indexByte (bl s) c = (o : Int) := hidx.symm.trans ho
      obtain ⟨h1, h2⟩ := Lib.indexByte_some ho2
      have hlt : o < (bl s).length := (List.getElem?_eq_some_iff.1 h1).1
      have hne : (Lib.indexB s ⟨#[c]⟩ == -1) = false := by rw [ho, beq_eq_false_iff_ne]; omega
      have e0 : bl s = (bl s).take o ++ c :: (bl s).drop (o + 1) := by
        have h3 : (bl s).drop o = c :: (bl s).drop (o + 1) := by
          rw [List.drop_eq_getElem_cons hlt]
          congr 1
          rw [List.getElem?_eq_getElem hlt] at h1
          exact Option.some.inj h1
        rw [← h3, List.take_append_drop]
      have hno : c ∉ (bl s).take o := by
        intro hx
        obtain ⟨j, hj⟩ := List.mem_iff_getElem?.1 hx
        have hjo : j < o := by
          have := (List.getElem?_eq_some_iff.1 hj).1
          rw [List.length_take] at this; omega
        rw [List.getElem?_take, if_pos hjo] at hj
        exact h2 j hjo hj
      have e2 : bl (s.extract (o + 1) s.size) = (bl s).drop (o + 1) := by
        have := piece_bl s (o + 1) s.size
        unfold piece at this
        rw [this, List.take_of_length_le (by rw [List.length_drop, bl_length]; exact Nat.le_refl _)]
      have e3 : spl c (bl s) = (bl s).take o :: spl c ((bl s).drop (o + 1)) := by
        have := spl_cut c _ ((bl s).drop (o + 1)) hno
        rwa [← e0] at this
      have hunf : Lib.splitB ⟨#[c]⟩ 0 (k + 1) s = s.extract 0 (o + 0) :: Lib.splitB ⟨#[c]⟩ 0 k (s.extract (o + 1) s.size) := by
        rw [Lib.splitB, hne, ho]
        rfl
      rw [hunf, e3, List.length_cons, List.length_cons, splitC_len c k, e2]; omega

theorem info_deed : (Tryd.prog.info? 39).map (fun i => (i.zero, i.size, i.bytes)) = some (some (.agg #[.int .i64 0, .string ⟨#[]⟩, .slice none 0 0]), 3, 48) := by kernel_rfl
theorem make_deed (n : Nat) (hn : n ≤ 1099511627776) (w : World) : (Instr.makeSlice 47 (.int .i64 (n : Int)) (.int .i64 (n : Int))).run Tryd.prog w = .ok (.slice (some ⟨w.heap.size, 0, none⟩) n n) (w.alloc (.cells (madeCells #[.int .i64 0, .string ⟨#[]⟩, .slice none 0 0] (n * 3)) 39)) := by
  obtain ⟨i, hi, hz, hs, hby⟩ := info_parts info_deed
  have := run_make (P := Tryd.prog) w 47 39 i (.agg #[.int .i64 0, .string ⟨#[]⟩, .slice none 0 0]) Tryd.underlying47 hi hz .i64 .i64 (n : Int) (n : Int) (by omega) (by omega) (by rw [hby]; omega) (by omega)
  rw [hs] at this
  simpa [Value.cells] using this
theorem made_deeds (n : Nat) : madeCells #[Value.int .i64 0, .string ⟨#[]⟩, .slice none 0 0] (n * 3) = arr (3 * n) (dcell []) := by
  apply Array.ext_getElem?
  intro q
  by_cases hq : q < 3 * n
  · rw [arr_get _ hq]
    have h3 : q % 3 = 0 ∨ q % 3 = 1 ∨ q % 3 = 2 := by omega
    have hq' : q < n * 3 := by omega
    rcases h3 with h | h | h
    · simp [madeCells, hq', h, dcell, dex]
    · simp [madeCells, hq', h, dcell, dex]
    · simp [madeCells, hq', h, dcell, dex]
  · rw [Array.getElem?_eq_none (by rw [size_madeCells]; omega), Array.getElem?_eq_none (by simp [arr]; omega)]
theorem dex_push (es : List DE) (e : DE) (j : Nat) : dex (es ++ [e]) j = if j = es.length then e else dex es j := by
  unfold dex
  by_cases h : j = es.length
  · subst h; simp
  · rw [if_neg h]
    by_cases h2 : j < es.length
    · rw [List.getElem?_append_left h2]
    · rw [List.getElem?_eq_none (by simp; omega), List.getElem?_eq_none (by omega)]
theorem dcell_push (es : List DE) (e : DE) : ∀ q, (if q = es.length * 3 + 2 then .slice e.A e.z.length e.c else if q = es.length * 3 + 1 then .string e.n else if q = es.length * 3 then .int .i64 e.k else dcell es q) = dcell (es ++ [e]) q := fun q => by
  by_cases h2 : q = es.length * 3 + 2
  · rw [if_pos h2, h2, dcell_2, dex_push, if_pos rfl]
  · rw [if_neg h2]
    by_cases h1 : q = es.length * 3 + 1
    · rw [if_pos h1, h1, dcell_1, dex_push, if_pos rfl]
    · rw [if_neg h1]
      by_cases h0 : q = es.length * 3
      · rw [if_pos h0, h0, dcell_0, dex_push, if_pos rfl]
      · rw [if_neg h0]
        unfold dcell
        rw [dex_push, if_neg (show ¬ q / 3 = es.length by omega)]
/-- A list of deeds under way: es stand in the block G of n deeds. -/
def BatSt (w : World) (G n : Nat) (es : List DE) (wr : World) : Prop :=
  Blk wr G 39 (arr (3 * n) (dcell es)) ∧ (∀ e ∈ es, Row wr 2 e.A e.z e.g ∧ (0 < e.z.length → w.heap.size ≤ e.g ∧ e.g ≠ G)) ∧ (es.Pairwise fun a b => 0 < a.z.length → 0 < b.z.length → a.g ≠ b.g) ∧ Below w.heap.size w wr
theorem BatSt.push {w wr w3 : World} {G n g : Nat} {es : List DE} {k : Int} {nm : ByteArray} {z : List Int} {A : Option Addr} {c : Nat} (h : BatSt w G n es wr) (hG : w.heap.size ≤ G) (hb : Below wr.heap.size wr w3) (hg : wr.heap.size ≤ g) (hR : Row w3 2 A z g) :
    BatSt w G n (es ++ [⟨k, nm, z, A, c, g⟩]) (((w3.setCell ⟨G, es.length * 3, none⟩ (.int .i64 k)).setCell ⟨G, es.length * 3 + 1, none⟩ (.string nm)).setCell ⟨G, es.length * 3 + 2, none⟩ (.slice A z.length c)) := by
  obtain ⟨hB, hr, hp, hW⟩ := h
  have hGl := hB.lt
  have B3 := (((hB.on hb).set_ (es.length * 3) (.int .i64 k)).set_ (es.length * 3 + 1) (.string nm)).set_ (es.length * 3 + 2) (.slice A z.length c)
  rw [arr_set, arr_set, arr_set, arr_congr (fun q _ => dcell_push es ⟨k, nm, z, A, c, g⟩ q)] at B3
  have hgr := grown_trans (grown_trans (grown_setCell w3 G (es.length * 3) (.int .i64 k)) (grown_setCell _ G (es.length * 3 + 1) (.string nm))) (grown_setCell _ G (es.length * 3 + 2) (.slice A z.length c))
  refine ⟨B3, fun e he => ?_, ?_, (((bel_step hW hb).setCell (p := ⟨G, es.length * 3, none⟩) hG _).setCell (p := ⟨G, es.length * 3 + 1, none⟩) hG _).setCell (p := ⟨G, es.length * 3 + 2, none⟩) hG _⟩
  · rcases List.mem_append.1 he with he | he
    · exact ⟨((hr e he).1.on hb).kept hgr (fun hn e' => ((hr e he).2 hn).2 (Option.some.inj e')), (hr e he).2⟩
    · obtain rfl : e = ⟨k, nm, z, A, c, g⟩ := by simpa using he
      have hwl := hW.size
      exact ⟨hR.kept hgr (fun hn e' => by have e2 : g = G := Option.some.inj e'; omega), fun _ => ⟨by show w.heap.size ≤ g; omega, by show g ≠ G; omega⟩⟩
  · rw [List.pairwise_append]
    refine ⟨hp, List.pairwise_singleton _ _, fun a ha b hb' h1 h2 => ?_⟩
    obtain rfl : b = ⟨k, nm, z, A, c, g⟩ := by simpa using hb'
    have := (hr a ha).1.lt h1
    show a.g ≠ g
    omega
theorem BatSt.on {w wr w' : World} {G n : Nat} {es : List DE} (h : BatSt w G n es wr) (hb : Below wr.heap.size wr w') : BatSt w G n es w' :=
  ⟨h.1.on hb, fun e he => ⟨(h.2.1 e he).1.on hb, (h.2.1 e he).2⟩, h.2.2.1, bel_step h.2.2.2 hb⟩
/-- The answer of the program's reader of batches. -/
def BatOwn (p : List RD × Bool) (w : World) (e : Ending) (w' : World) : Prop :=
  ∃ A c es, e = .returned (.tuple #[.slice A p.1.length c, .bool p.2]) ∧ es.map DE.d = p.1 ∧ OwnD w' w.heap.size A es ∧ (∀ e ∈ es, e.z.length ≤ 6) ∧ Below w.heap.size w w'
theorem batOwn_none {w w' : World} {b : Bool} {e : Ending} {A : Option Addr} (he : e = .returned (.tuple #[.slice A 0 0, .bool b])) (hb : Below w.heap.size w w') : BatOwn ([], b) w e w' :=
  ⟨A, 0, [], he, rfl, fun h => absurd h (by simp), fun e he => by simp at he, hb⟩
theorem readB_no {s : List UInt8} (h0 : s ≠ []) (h : batB s = false) : readB s = ([], false) := by unfold readB; rw [if_neg h0, h]; rfl
theorem readB_yes {s : List UInt8} (h0 : s ≠ []) (h : batB s = true) : readB s = ((spl 59 s).map specReadD, true) := by unfold readB; rw [if_neg h0, if_pos h]
theorem batB_bad {s : List UInt8} {t : List UInt8} (ht : t ∈ spl 59 s) (h : (specReadD t).ok = false) : batB s = false := by
  unfold batB
  rw [List.all_eq_false.2 ⟨t, ht, by simp [h]⟩, Bool.and_false]
theorem rd_eta {p : RD} (h : p.ok = true) : p = ⟨p.k, p.n, p.z, true⟩ := by cases p; simp at h; rw [h]
set_option maxRecDepth 100000 in
set_option maxHeartbeats 8000000 in
theorem implReadBatch_any (s : ByteArray) (w : World) (hs : s.size ≤ 1073741824) (hL : LaidAll w) (hWd : WordsAt w) :
    Calls Tryd.prog 33 #[.string s] w (BatOwn (readB (bl s)) w) := by
  obtain ⟨P, hP⟩ : ∃ P, readB (bl s) = P := ⟨_, rfl⟩
  have HP := Lib.hid hP
  rw [hP]
  clear hP
  by_cases h0 : bl s = []
  · obtain rfl : s = ⟨#[]⟩ := bl_eta s [] h0
    have HZ := Lib.hid (show P = ([], true) by rw [← HP.out]; rfl)
    clear h0 HP hL hWd
    go_enter Tryd.func33, Tryd.ntmps33
    go_wp2
    go_ret2
    rw [HZ.out]
    exact batOwn_none rfl ((Below.refl _ _).alloc (Nat.le_refl _) _)
  have hemp : s.toList.isEmpty = false := by
    rw [toList_bl]
    cases hx : bl s with
    | nil => exact absurd hx h0
    | cons _ _ => rfl
  have H0 := Lib.hid h0
  clear h0
  obtain ⟨⟨m, hm⟩, _⟩ := hL w (Below.refl _ _)
  obtain ⟨ws, hws⟩ : ∃ ws, ws = Lib.splitB ⟨#[59]⟩ 0 (min 9 (s.size + 1) - 1) s := ⟨_, rfl⟩
  have hsl : (spl 59 (bl s)).length ≤ s.size + 1 := by
    have h1 := spl_length 59 (bl s)
    have h2 : (bl s).count 59 ≤ (bl s).length := List.count_le_length
    rw [bl_length] at h2
    omega
  have hwl : ws.length = min 9 (spl 59 (bl s)).length := by rw [hws, splitC_len]; omega
  have hwm : (spl 59 (bl s)).length ≤ 9 → ws.map bl = spl 59 (bl s) := fun h => by rw [hws]; exact splitC_words 59 _ s (by omega)
  obtain ⟨_, hl2⟩ := splitC_le 59 (min 9 (s.size + 1) - 1) s
  rw [← hws] at hl2
  have HL2 := Lib.hid hl2
  have HWM := Lib.hid hwm
  have HSPL := Lib.hid (Tryd.strings_SplitN s ⟨#[59]⟩ 9 m w (by omega) hm (by decide) (by omega) (by omega))
  rw [← hws] at HSPL
  have HWL := Lib.hid hwl
  have hw9 : ws.length ≤ 9 := by omega
  have hw1 : 1 ≤ ws.length := by have := List.length_pos_iff.2 (spl_ne 59 (bl s)); omega
  clear hwm hl2 hws hm hwl hsl
  have hb1 : Below w.heap.size w (w.alloc (.cells (Lib.cellsOf ws (min 9 (s.size + 1))) 9)) := (Below.refl _ _).alloc (Nat.le_refl _) _
  by_cases h8 : 8 < ws.length
  · have h8i : decide ((8 : Int) < (ws.length : Int)) = true := by simp; omega
    have HZ := Lib.hid (show P = ([], false) by
      rw [← HP.out]
      refine readB_no H0.out ?_
      unfold batB
      rw [decide_eq_false (by have := HWL.out; omega)]; rfl)
    clear h8 HP
    go_enter Tryd.func33, Tryd.ntmps33
    go_wp2_with fail
    refine HSPL.out.mono ?_
    rintro e w' ⟨rfl, hw'⟩
    subst hw'
    generalize w.alloc (.cells (Lib.cellsOf ws (min 9 (s.size + 1))) 9) = w1 at *
    go_wp2
    go_ret2
    rw [HZ.out]
    exact batOwn_none rfl (hb1.alloc hb1.size _)
  have h8i : decide ((8 : Int) < (ws.length : Int)) = false := by simp; omega
  have HW := Lib.hid (HWM.out (by have := HWL.out; omega))
  have hS1 : Strs (w.alloc (.cells (Lib.cellsOf ws (min 9 (s.size + 1))) 9)) (w.heap.size + 1) (some ⟨w.heap.size, 0, none⟩) ws := strs_cells
  have hmk := make_deed ws.length (by omega)
  have HL := Lib.hid (show ∀ W, Below w.heap.size w W → LaidAll W ∧ WordsAt W from fun W h => ⟨hL.on h, hWd.on h⟩)
  clear HWM hL hWd
  go_enter Tryd.func33, Tryd.ntmps33
  go_wp2_with fail
  refine HSPL.out.mono ?_
  rintro e w' ⟨rfl, hw'⟩
  subst hw'
  have hsz1 : (w.alloc (.cells (Lib.cellsOf ws (min 9 (s.size + 1))) 9)).heap.size = w.heap.size + 1 := by simp
  generalize w.alloc (.cells (Lib.cellsOf ws (min 9 (s.size + 1))) 9) = w1 at *
  have HSZ := Lib.hid hsz1
  have hsl1 : w.heap.size < w1.heap.size := by omega
  clear hsz1 HSPL
  go_wp2_with fail
  have hst : BatSt w w1.heap.size ws.length [] (w1.alloc (.cells (madeCells #[.int .i64 0, .string ⟨#[]⟩, .slice none 0 0] (ws.length * 3)) 39)) := ⟨by rw [← made_deeds]; exact Blk.new w1 _ _, fun e he => by simp at he, List.Pairwise.nil, hb1.alloc hb1.size _⟩
  have hw1r : Below w1.heap.size w1 (w1.alloc (.cells (madeCells #[.int .i64 0, .string ⟨#[]⟩, .slice none 0 0] (ws.length * 3)) 39)) := (Below.refl _ _).alloc (Nat.le_refl _) _
  generalize w1.alloc (.cells (madeCells #[.int .i64 0, .string ⟨#[]⟩, .slice none 0 0] (ws.length * 3)) 39) = w1b at *
  go_loopw [24] (fun i wr => ∃ es : List DE, es.length ≤ ws.length ∧ i = .int .i64 es.length ∧ (∀ j, j < es.length → (dex es j).d = specReadD (bl (sx ws j))) ∧ (∀ e ∈ es, e.z.length ≤ 6) ∧ BatSt w w1.heap.size ws.length es wr ∧ Below w1.heap.size w1 wr) (fun i _ => ws.length - (intOf i).toNat)
  case atStart => exact ⟨[], Nat.zero_le _, rfl, fun j hj => absurd hj (by simp), fun e he => by simp at he, hst, hw1r⟩
  case round =>
    obtain ⟨es, hk, rfl, hd, hz, hst', hbel⟩ := hrel
    have HD := Lib.hid hd
    have HZ6 := Lib.hid hz
    have hWr := hst'.2.2.2
    clear hd hz hst hw1r
    by_cases hlt : es.length < ws.length
    · obtain ⟨b, off, e, hbb, hc⟩ := hS1 (by omega)
      obtain ⟨rfl, rfl⟩ : w.heap.size = b ∧ 0 = off := by injection e with e; injection e with e1 e2 _; exact ⟨e1, e2⟩
      have hck : wr.cell? ⟨w.heap.size, es.length, none⟩ = some (.string (sx ws es.length)) := by
        have h3 := hc es.length hlt
        rw [Nat.zero_add] at h3
        exact (hbel.cell (p := ⟨w.heap.size, es.length, none⟩) hsl1).trans h3
      clear hc e hbb
      have hsz : (sx ws es.length).size ≤ 1073741824 := by
        have := HL2.out (sx ws es.length) (by rw [sx_eq ws _ hlt]; exact List.getElem_mem hlt)
        omega
      have HIR := Lib.hid (implReadDeed_any (sx ws es.length) wr hsz (HL.out wr hWr).1 (HL.out wr hWr).2)
      obtain ⟨p, hp⟩ : ∃ p, specReadD (bl (sx ws es.length)) = p := ⟨_, rfl⟩
      have hz6 : p.z.length ≤ 6 := by rw [← hp]; exact specReadD_len _
      rw [hp] at HIR
      have HPP := Lib.hid hp
      have HST := Lib.hid hst'
      have hBl := hst'.1
      have hGlt := hBl.lt
      have HMEM := Lib.hid (show bl (sx ws es.length) ∈ spl 59 (bl s) by rw [← HW.out, sx_eq ws _ hlt]; exact List.mem_map_of_mem (List.getElem_mem hlt))
      clear hp hst'
      obtain ⟨K, N, Z, ok⟩ := p
      cases ok with
      | false =>
        have HF := Lib.hid (show P = ([], false) by rw [← HP.out]; exact readB_no H0.out (batB_bad HMEM.out (by rw [HPP.out])))
        clear hBl
        go_wp2_with fail
        refine HIR.out.mono ?_
        rintro e w2 ⟨A, c, g, rfl, hg, hR, hb2⟩
        dsimp only
        have hW2 := bel_step hWr hb2
        have hW3 : Below w.heap.size w (w2.alloc (.cells #[.int .i64 K, .string N, .slice A Z.length c] 39)) := hW2.alloc hW2.size _
        go_wp2
        go_ret2
        rw [HF.out]
        exact batOwn_none rfl (hW3.alloc hW3.size _)
      | true =>
        have HE := Lib.hid (show ∀ j, j < es.length → wr.cell? ⟨w1.heap.size, j, none⟩ = wr.cell? ⟨w1.heap.size, j, none⟩ from fun _ _ => rfl)
        clear HE
        go_wp2_with fail
        refine HIR.out.mono ?_
        rintro e w2 ⟨A, c, g, rfl, hg, hR, hb2⟩
        dsimp only at hR hz6 ⊢
        have D := Blk.new w2 39 #[.int .i64 K, .string N, .slice A Z.length c]
        obtain ⟨d0, d1, d2⟩ := D.c3
        have B2 := hBl.on hb2
        have e0 : w2.cell? ⟨w1.heap.size, es.length * 3, none⟩ = some (.int .i64 (dex es es.length).k) := by rw [B2.cell, arr_get _ (by omega), dcell_0]
        have e1 : w2.cell? ⟨w1.heap.size, es.length * 3 + 1, none⟩ = some (.string (dex es es.length).n) := by rw [B2.cell, arr_get _ (by omega), dcell_1]
        have e2 : w2.cell? ⟨w1.heap.size, es.length * 3 + 2, none⟩ = some (.slice (dex es es.length).A (dex es es.length).z.length (dex es es.length).c) := by rw [B2.cell, arr_get _ (by omega), dcell_2]
        have q0 := B2.frozen (es.length * 3)
        have q1 := B2.frozen (es.length * 3 + 1)
        have q2 := B2.frozen (es.length * 3 + 2)
        have m0 := World.new_ne w2 _ e0
        have m1 := World.new_ne w2 _ e1
        have m2 := World.new_ne w2 _ e2
        have B3 := B2.on ((Below.refl w2.heap.size w2).alloc (Nat.le_refl _) (.cells #[.int .i64 K, .string N, .slice A Z.length c] 39))
        have c0 : (w2.alloc (.cells #[.int .i64 K, .string N, .slice A Z.length c] 39)).cell? ⟨w1.heap.size, es.length * 3, none⟩ = some (.int .i64 (dex es es.length).k) := by rw [B3.cell, arr_get _ (by omega), dcell_0]
        have c1 : (w2.alloc (.cells #[.int .i64 K, .string N, .slice A Z.length c] 39)).cell? ⟨w1.heap.size, es.length * 3 + 1, none⟩ = some (.string (dex es es.length).n) := by rw [B3.cell, arr_get _ (by omega), dcell_1]
        have c2 : (w2.alloc (.cells #[.int .i64 K, .string N, .slice A Z.length c] 39)).cell? ⟨w1.heap.size, es.length * 3 + 2, none⟩ = some (.slice (dex es es.length).A (dex es es.length).z.length (dex es es.length).c) := by rw [B3.cell, arr_get _ (by omega), dcell_2]
        have f0 := B3.frozen (es.length * 3)
        have f1 := B3.frozen (es.length * 3 + 1)
        have f2 := B3.frozen (es.length * 3 + 2)
        have b3 := hb2.alloc hb2.size (.cells #[.int .i64 K, .string N, .slice A Z.length c] 39)
        have hR3 := hR.on ((Below.refl w2.heap.size w2).alloc (Nat.le_refl _) (.cells #[.int .i64 K, .string N, .slice A Z.length c] 39))
        have HN := Lib.hid (HST.out.push (k := K) (nm := N) (c := c) (Nat.le_of_lt hsl1) b3 hg hR3)
        have hbn : Below w1.heap.size w1 ((((w2.alloc (.cells #[.int .i64 K, .string N, .slice A Z.length c] 39)).setCell ⟨w1.heap.size, es.length * 3, none⟩ (.int .i64 K)).setCell ⟨w1.heap.size, es.length * 3 + 1, none⟩ (.string N)).setCell ⟨w1.heap.size, es.length * 3 + 2, none⟩ (.slice A Z.length c)) :=
          (((hbel.trans (b3.mono hbel.size)).setCell (p := ⟨w1.heap.size, es.length * 3, none⟩) (Nat.le_refl _) (.int .i64 K)).setCell (p := ⟨w1.heap.size, es.length * 3 + 1, none⟩) (Nat.le_refl _) (.string N)).setCell (p := ⟨w1.heap.size, es.length * 3 + 2, none⟩) (Nat.le_refl _) (.slice A Z.length c)
        clear b3 hR3
        clear hR hb2 B2 B3 hBl D
        go_wp2
        go_roundw
        case rel =>
          refine ⟨es ++ [⟨K, N, Z, A, c, g⟩], by simp; omega, by simp, fun j hj => ?_, fun e he => ?_, HN.out, hbn⟩
          · rw [dex_push]
            by_cases e : j = es.length
            · subst e
              rw [if_pos rfl, HPP.out]; rfl
            · rw [if_neg e]; exact HD.out j (by simp at hj; omega)
          · rcases List.mem_append.1 he with he | he
            · exact HZ6.out e he
            · obtain rfl : e = ⟨K, N, Z, A, c, g⟩ := by simpa using he
              exact hz6
        case measure => simp [intOf]; omega
    · have hn : es.length = ws.length := by omega
      have hmap : es.map DE.d = (spl 59 (bl s)).map specReadD := by
        rw [← HW.out]
        apply List.ext_getElem
        · simp [hn]
        · intro j h1 h2
          have h3 : j < es.length := by simpa using h1
          have h4 : j < ws.length := by omega
          have := HD.out j h3
          rw [dex_eq es j h3, sx_eq ws j h4] at this
          simpa using this
      have hall : batB (bl s) = true := by
        unfold batB
        rw [decide_eq_true (by have := HWL.out; omega), Bool.true_and, List.all_eq_true]
        intro t ht
        have hm := List.mem_map_of_mem (f := specReadD) ht
        rw [← hmap] at hm
        obtain ⟨e, _, he⟩ := List.mem_map.1 hm
        rw [← he]; rfl
      have HF := Lib.hid (show P = (es.map DE.d, true) by rw [← HP.out, readB_yes H0.out hall, hmap])
      have HST := Lib.hid hst'
      have hdec : decide ((es.length : Int) < (ws.length : Int)) = false := by simp; omega
      have hdec2 : decide (es.length < ws.length) = false := by simp; omega
      have HN := Lib.hid hn
      clear hn hmap hall hst'
      go_wp2
      go_ret2
      rw [HF.out]
      have hlm : ws.length = (es.map DE.d).length := by rw [List.length_map, HN.out]
      refine ⟨some ⟨w1.heap.size, 0, none⟩, ws.length, es, by rw [← hlm]; rfl, rfl, fun hpos => ⟨w1.heap.size, rfl, Nat.le_of_lt hsl1, ?_, HST.out.2.1, HST.out.2.2.1⟩, HZ6.out, HST.out.2.2.2⟩
      rw [HN.out]; exact HST.out.1
end Go.Proofs.YtkjpaafmolikoabDoor
