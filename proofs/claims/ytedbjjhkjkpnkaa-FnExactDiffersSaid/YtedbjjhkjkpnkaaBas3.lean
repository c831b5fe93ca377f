/- Contracts of the laws' copies of a base, of the model's l6Find and of both TableIn; nothing that lay has turned. -/
import Derived.Test.YtedbjjhkjkpnkaaBas2
import Derived.Test.YtedbjjhkjkpnkaaTabI4
namespace Go.Proofs.Ytedbjjhkjkpnkaa
open Go.RowKit

theorem info_table : (Try.prog.info? 28).map (fun i => (i.zero, i.size, i.bytes)) = some (some (.agg #[.string ⟨#[]⟩, .int .i64 0, .slice none 0 0]), 3, 48) := by kernel_rfl
theorem make_table (n : Nat) (hn : n ≤ 1099511627776) (w : World) : (Instr.makeSlice 38 (.int .i64 (n : Int)) (.int .i64 (n : Int))).run Try.prog w = .ok (.slice (some ⟨w.heap.size, 0, none⟩) n n) (w.alloc (.cells (madeCells #[.string ⟨#[]⟩, .int .i64 0, .slice none 0 0] (n * 3)) 28)) := by
  obtain ⟨i, hi, hz, hs, hby⟩ := info_parts info_table
  have := run_make (P := Try.prog) w 38 28 i (.agg #[.string ⟨#[]⟩, .int .i64 0, .slice none 0 0]) Try.underlying38 hi hz .i64 .i64 (n : Int) (n : Int) (by omega) (by omega) (by rw [hby]; omega) (by omega)
  rw [hs] at this
  simpa [Value.cells] using this
theorem made_tables (n : Nat) : madeCells #[Value.string ⟨#[]⟩, .int .i64 0, .slice none 0 0] (n * 3) = arr (3 * n) (tcell []) := by
  apply Array.ext_getElem?
  intro q
  by_cases hq : q < 3 * n
  · rw [arr_get _ hq]
    have h3 : q % 3 = 0 ∨ q % 3 = 1 ∨ q % 3 = 2 := by omega
    have hq' : q < n * 3 := by omega
    rcases h3 with h | h | h
    · simp [madeCells, hq', h, tcell, tex, zeroE]
    · simp [madeCells, hq', h, tcell, tex, zeroE]
    · simp [madeCells, hq', h, tcell, tex, zeroE]
  · rw [Array.getElem?_eq_none (by rw [size_madeCells]; omega), Array.getElem?_eq_none (by simp [arr]; omega)]
theorem tex_push (es : List TE) (e : TE) (j : Nat) : tex (es ++ [e]) j = if j = es.length then e else tex es j := by
  unfold tex
  by_cases h : j = es.length
  · subst h; simp
  · rw [if_neg h]
    by_cases h2 : j < es.length
    · rw [List.getElem?_append_left h2]
    · rw [List.getElem?_eq_none (by simp; omega), List.getElem?_eq_none (by omega)]
theorem tcell_push (es : List TE) (e : TE) : ∀ q, (if q = es.length * 3 + 2 then .slice e.A e.es.length e.c else if q = es.length * 3 + 1 then .int .i64 e.wd else if q = es.length * 3 then .string e.n else tcell es q) = tcell (es ++ [e]) q := fun q => by
  by_cases h2 : q = es.length * 3 + 2
  · rw [if_pos h2, h2, tcell_2, tex_push, if_pos rfl]
  · rw [if_neg h2]
    by_cases h1 : q = es.length * 3 + 1
    · rw [if_pos h1, h1, tcell_1, tex_push, if_pos rfl]
    · rw [if_neg h1]
      by_cases h0 : q = es.length * 3
      · rw [if_pos h0, h0, tcell_0, tex_push, if_pos rfl]
      · rw [if_neg h0]
        unfold tcell
        rw [tex_push, if_neg (show ¬ q / 3 = es.length by omega)]
/-- A base under way: es stand in the block G of n tables. -/
def TabSt (w : World) (G n : Nat) (es : List TE) (wr : World) : Prop :=
  Blk wr G 28 (arr (3 * n) (tcell es)) ∧ TEs wr G wr.heap.size es ∧ Below w.heap.size w wr
theorem size_set (w : World) (p : Addr) (u : Value) : (w.setCell p u).heap.size = w.heap.size := by simp [World.setCell]
theorem TabSt.push {w wr w3 : World} {G n : Nat} {es : List TE} {nm : ByteArray} {wd : Int} {fs : List Ent} {A : Option Addr} {c m : Nat} (h : TabSt w G n es wr) (hG : w.heap.size ≤ G) (hb : Below wr.heap.size wr w3) (hm : m = fs.length) (hR : RIn w3 wr.heap.size w3.heap.size (.slice A m c) fs) :
    TabSt w G n (es ++ [⟨nm, wd, fs, A, c, wr.heap.size, w3.heap.size⟩]) (((w3.setCell ⟨G, es.length * 3, none⟩ (.string nm)).setCell ⟨G, es.length * 3 + 1, none⟩ (.int .i64 wd)).setCell ⟨G, es.length * 3 + 2, none⟩ (.slice A m c)) := by
  obtain ⟨hB, hr, hW⟩ := h
  subst hm
  have hGl := hB.lt
  have hsz := hb.size
  have B3 := (((hB.on hb).set_ (es.length * 3) (.string nm)).set_ (es.length * 3 + 1) (.int .i64 wd)).set_ (es.length * 3 + 2) (.slice A fs.length c)
  rw [arr_set, arr_set, arr_set, arr_congr (fun q _ => tcell_push es ⟨nm, wd, fs, A, c, wr.heap.size, w3.heap.size⟩ q)] at B3
  have hgr := grown_trans (grown_trans (grown_setCell w3 G (es.length * 3) (.string nm)) (grown_setCell _ G (es.length * 3 + 1) (.int .i64 wd))) (grown_setCell _ G (es.length * 3 + 2) (.slice A fs.length c))
  have hwi : Within G (G + 1) w3 _ := Within.of_grown hgr (.inl ⟨Nat.le_refl _, Nat.lt_succ_self _⟩)
  have hs3 : (((w3.setCell ⟨G, es.length * 3, none⟩ (.string nm)).setCell ⟨G, es.length * 3 + 1, none⟩ (.int .i64 wd)).setCell ⟨G, es.length * 3 + 2, none⟩ (.slice A fs.length c)).heap.size = w3.heap.size := by rw [size_set, size_set, size_set]
  have hr3 : TEs (((w3.setCell ⟨G, es.length * 3, none⟩ (.string nm)).setCell ⟨G, es.length * 3 + 1, none⟩ (.int .i64 wd)).setCell ⟨G, es.length * 3 + 2, none⟩ (.slice A fs.length c)) G wr.heap.size es :=
    ⟨fun e he => ⟨((hr.on hb).1 e he).1.within hwi (.inr ((hr.1 e he).2.1)), (hr.1 e he).2⟩, hr.2⟩
  refine ⟨B3, ?_, (((bel_step hW hb).setCell (p := ⟨G, es.length * 3, none⟩) hG _).setCell (p := ⟨G, es.length * 3 + 1, none⟩) hG _).setCell (p := ⟨G, es.length * 3 + 2, none⟩) hG _⟩
  rw [hs3]
  exact hr3.snoc hsz (hR.within hwi (.inr hGl)) hGl hsz (Nat.le_refl _) (Nat.le_refl _)
theorem TabSt.on {w wr w' : World} {G n : Nat} {es : List TE} (h : TabSt w G n es wr) (hb : Below wr.heap.size wr w') : TabSt w G n es w' :=
  ⟨h.1.on hb, ⟨fun e he => ⟨(h.2.1.1 e he).1.on hb, (h.2.1.1 e he).2.1, (h.2.1.1 e he).2.2.1, Nat.le_trans (h.2.1.1 e he).2.2.2 hb.size⟩, h.2.1.2⟩, bel_step h.2.2 hb⟩
/-- A base of the call's own. -/
def BaseOwn (ts : List TB) (w : World) (e : Ending) (w' : World) : Prop :=
  ∃ A c es, e = .returned (.slice A ts.length c) ∧ es.map TE.t = ts ∧ OwnT w' w.heap.size w'.heap.size A es ∧ Below w.heap.size w w'
theorem own_of_st {w wr : World} {G : Nat} {es : List TE} (h : TabSt w G es.length es wr) (hG : w.heap.size ≤ G) : OwnT wr w.heap.size wr.heap.size (some ⟨G, 0, none⟩) es :=
  ⟨Nat.le_refl _, fun _ => ⟨G, rfl, hG, h.1.lt, h.1, h.2.1⟩⟩
set_option maxRecDepth 100000 in
set_option maxHeartbeats 4000000 in
theorem toTableS_any (A : Option Addr) (c : Nat) (ts : List TB) (w : World) (hT : Tabs w w.heap.size A ts) (hf : fitT 1048576 ts) (hl : ts.length ≤ 1048576) :
    Calls Try.prog 17 #[.slice A ts.length c] w (BaseOwn ts w) := by
  have hmk := fun wx => make_table ts.length (by omega) wx
  have HFT := Lib.hid hf
  have bc := (Below.refl w.heap.size w).alloc (Nat.le_refl _) (.cells (madeCells #[Value.string ⟨#[]⟩, .int .i64 0, .slice none 0 0] (ts.length * 3)) 28)
  have BM := Blk.new w 28 (madeCells #[Value.string ⟨#[]⟩, .int .i64 0, .slice none 0 0] (ts.length * 3))
  rw [made_tables] at BM bc
  have st0 : TabSt w w.heap.size ts.length [] (w.alloc (.cells (arr (3 * ts.length) (tcell [])) 28)) := ⟨BM, TEs.nil _ _ _, bc⟩
  clear bc BM hf
  go_enter Try.func17, Try.ntmps17
  go_wp2
  clear hmk
  rw [made_tables]
  generalize w.alloc (.cells (arr (3 * ts.length) (tcell [])) 28) = wb at *
  obtain ⟨G, hG⟩ : ∃ G, w.heap.size = G := ⟨_, rfl⟩
  have HG := Lib.hid hG
  rw [hG] at st0 ⊢
  clear hG
  go_loopw [4] (fun i wr => ∃ (k : Nat) (es : List TE), k ≤ ts.length ∧ i = .int .i64 k ∧ es.length = k ∧ es.map TE.t = ts.take k ∧ TabSt w G ts.length es wr) (fun i _ => ts.length - (intOf i).toNat)
  case atStart => exact ⟨0, [], Nat.zero_le _, rfl, rfl, by simp, st0⟩
  case round =>
    obtain ⟨k, es, hk, rfl, hel, he, hst⟩ := hrel
    have HE := Lib.hid he
    have HEL := Lib.hid hel
    clear he st0 hel
    by_cases hlt : k < ts.length
    · have hTr := hT.on hst.2.2
      obtain ⟨b, off, Ar, cr, rfl, hb, c0, c1, c2, hR⟩ := hTr.here hlt
      obtain ⟨f1, f2, f3⟩ := HFT.out k hlt
      have HST := Lib.hid hst
      clear hst hT hTr
      go_wp2_with fail
      refine (toTable_any (tx ts k).n (tx ts k).wd Ar cr (tx ts k).rows wr hR (by omega)).mono ?_
      rintro e w1 ⟨g, fs, rfl, hO, heq, hb1⟩
      have hfl : (tx ts k).rows.length = fs.length := by rw [← heq, List.length_map]
      have hst1 := HST.out.push (nm := (tx ts k).n) (wd := (tx ts k).wd) (by rw [HG.out]; exact Nat.le_refl _) hb1 hfl hO.wrin
      have B1 := (HST.out.on hb1).1
      have m0 : w1.cell? ⟨G, k * 3, none⟩ = some (tcell es (k * 3)) := by rw [B1.cell, arr_get _ (by omega)]
      have m1 : w1.cell? ⟨G, k * 3 + 1, none⟩ = some (tcell es (k * 3 + 1)) := by rw [B1.cell, arr_get _ (by omega)]
      have m2 : w1.cell? ⟨G, k * 3 + 2, none⟩ = some (tcell es (k * 3 + 2)) := by rw [B1.cell, arr_get _ (by omega)]
      have fr0 := B1.frozen (k * 3)
      have fr1 := B1.frozen (k * 3 + 1)
      have fr2 := B1.frozen (k * 3 + 2)
      rw [HEL.out] at hst1
      have HS := Lib.hid hst1
      have HP := Lib.hid (show (es ++ [(⟨(tx ts k).n, (tx ts k).wd, fs, some ⟨g, 0, none⟩, (tx ts k).rows.length, wr.heap.size, w1.heap.size⟩ : TE)]).map TE.t = ts.take (k + 1) by
        rw [List.map_append, HE.out, List.take_succ_eq_append_getElem hlt, ← tx_eq ts k hlt]
        show _ ++ [TE.t _] = _
        unfold TE.t
        rw [heq])
      have HL := Lib.hid (show (es ++ [(⟨(tx ts k).n, (tx ts k).wd, fs, some ⟨g, 0, none⟩, (tx ts k).rows.length, wr.heap.size, w1.heap.size⟩ : TE)]).length = k + 1 by rw [List.length_append, HEL.out]; rfl)
      rw [tcell_0] at m0
      rw [tcell_1] at m1
      rw [tcell_2] at m2
      clear hst1 HST B1 hO hb1 hfl heq c0 c1 c2 hR HE HEL
      go_wp2
      go_roundw
      case rel => exact ⟨k + 1, _, by omega, by go_num, HL.out, HP.out, HS.out⟩
      case measure => simp [intOf]; omega
    · have hd : decide (k < ts.length) = false := by simpa using hlt
      have hkk : k = ts.length := by omega
      have HO := Lib.hid (show OwnT wr w.heap.size wr.heap.size (some ⟨G, 0, none⟩) es by
        refine own_of_st ?_ (by rw [HG.out]; exact Nat.le_refl _)
        rw [HEL.out, hkk]; exact hst)
      have hW := hst.2.2
      have HE2 := Lib.hid (show es.map TE.t = ts by rw [HE.out, List.take_of_length_le (by omega)])
      clear hst hkk
      go_wp2
      go_ret
      exact ⟨_, _, es, rfl, HE2.out, HO.out, hW⟩
/-- Where a table of that name stands; -1: nowhere. -/
def findN (ts : List TB) (n : ByteArray) : Int := if fndN ts n < ts.length then (fndN ts n : Int) else -1
set_option maxRecDepth 100000 in
set_option maxHeartbeats 1000000 in
theorem l6Find_any (A : Option Addr) (c : Nat) (ts : List TB) (n : ByteArray) (w : World) (B : Nat) (hT : Tabs w B A ts) (hl : ts.length ≤ 1048576) :
    Calls Try.prog 82 #[.slice A ts.length c, .string n] w fun e w' => e = .returned (.int .i64 (findN ts n)) ∧ w = w' := by
  go_enter Try.func82, Try.ntmps82
  go_wp2
  go_loop [5] (fun i => ∃ k : Nat, k ≤ ts.length ∧ i = .int .i64 k ∧ fndN ts n = k + fndN (ts.drop k) n) (fun i => ts.length - (intOf i).toNat)
  case atStart => exact ⟨0, Nat.zero_le _, rfl, by simp⟩
  case round =>
    obtain ⟨k, hk, rfl, hf⟩ := hrel
    have HF := Lib.hid hf
    clear hf
    by_cases hlt : k < ts.length
    · obtain ⟨b, off, Ar, cr, rfl, _, c0, _, _, _⟩ := hT.here hlt
      have hcm := same_name (tx ts k).n n
      by_cases hn : (tx ts k).n = n
      · rw [decide_eq_true hn] at hcm
        have HR := Lib.hid (show findN ts n = (k : Int) by
          have : fndN ts n = k := by rw [HF.out, fndN_yes hlt hn]; rfl
          unfold findN
          rw [this, if_pos hlt])
        clear hn
        go_wp2
        go_ret
        exact ⟨by rw [HR.out]; rfl, rfl⟩
      · rw [decide_eq_false hn] at hcm
        have HR := Lib.hid (show fndN ts n = k + 1 + fndN (ts.drop (k + 1)) n by rw [HF.out, fndN_no hlt hn]; omega)
        clear hn
        go_wp2
        go_round
        case rel => exact ⟨k + 1, by omega, by go_num, HR.out⟩
        case measure => simp [intOf]; omega
    · have hd : decide (k < ts.length) = false := by simpa using hlt
      have HR := Lib.hid (show findN ts n = -1 by
        unfold findN
        rw [if_neg (by rw [HF.out]; omega)])
      go_wp2
      go_ret
      exact ⟨by rw [HR.out]; rfl, rfl⟩
theorem findN_yes {ts : List TB} {n : ByteArray} (h : fndN ts n < ts.length) : findN ts n = (fndN ts n : Int) := if_pos h
theorem findN_no {ts : List TB} {n : ByteArray} (h : ¬ fndN ts n < ts.length) : findN ts n = -1 := if_neg h
/-- What is told of a name. -/
def inT (ts : List TB) (n : ByteArray) : TB := if fndN ts n < ts.length then tx ts (fndN ts n) else zeroT
def inB6 (ts : List TB) (n : ByteArray) : Bool := decide (fndN ts n < ts.length)
end Go.Proofs.Ytedbjjhkjkpnkaa
