/- Texts joined: Bas4, Sh8, Sh9, SzDe, MkT, BasM, BasH: contracts and plain facts; each says its own below. -/
import Derived.Test.YtdjoiehknpfigaaGreatBas3
import Derived.Test.YtdjoiehknpfigaaGreatSh7
import Derived.Test.YtdjoiehknpfigaaGreatShK
import Derived.OwnWalk
import Derived.Test.YtdjoiehknpfigaaGreatDeed1
import Derived.Test.YtdjoiehknpfigaaGreatBas2
import Derived.Test.YtdjoiehknpfigaaGreatText1
import Derived.Deep.RegionLaw
import Derived.Test.YtdjoiehknpfigaaGreatQuietB
/- The contract of the program's TableIn: a table of the call's own; nothing that lay has turned. -/
namespace Go.Proofs.YtdjoiehknpfigaaGreat
open Go.RowKit

theorem copyTab_w {s : ByteArray} {wd : Int} {rows : List (List Int)} {w : World} {e : Ending} {w' : World} (h : CopyTab s wd rows w e w') :
    ∃ A c es, e = .returned (.agg #[.string s, .int .i64 wd, .slice A rows.length c]) ∧ WRows w' w.heap.size (.slice A rows.length c) es ∧ es.map Ent.r = rows ∧ Below w.heap.size w w' := by
  obtain ⟨g, es, he, hB, hE, hlo, hr, hb⟩ := h
  have hl : es.length = rows.length := by rw [← hr, List.length_map]
  refine ⟨_, _, es, he, ?_, hr, hb⟩
  rw [← hl]
  exact WRows.of_blk hB (by rw [List.take_of_length_le (by rw [rowCs_length]; exact Nat.le_refl _)]) hE hlo
theorem wans_end0 {w w7 : World} {G lo : Nat} {s : ByteArray} {wd : Int} {rows : List (List Int)} {u a0 a1 : Value} {es : List Ent} (hG : w.heap.size = G) (hO : WRows w7 lo u es) (hlo : G < lo) (he : es.map Ent.r = rows) (hW : Below G w w7) :
    WTab w.heap.size s wd rows (.agg #[.string s, .int .i64 wd, u]) (((w7.setCell ⟨G, 0, none⟩ a0).setCell ⟨G, 1, none⟩ a1).setCell ⟨G, 2, none⟩ u) ∧ Below w.heap.size w (((w7.setCell ⟨G, 0, none⟩ a0).setCell ⟨G, 1, none⟩ a1).setCell ⟨G, 2, none⟩ u) := by
  subst hG
  refine ⟨⟨u, es, rfl, ?_, he⟩, ?_⟩
  · exact WRows.lower (lo := lo) (((hO.keep hO.inside (fun b hb _ => Below.heap_setCell w7 ⟨w.heap.size, 0, none⟩ _ b (by simp; omega))).keep (hi := w7.heap.size) hO.inside (fun b hb _ => Below.heap_setCell _ ⟨w.heap.size, 1, none⟩ _ b (by simp; omega))).keep (hi := w7.heap.size) hO.inside (fun b hb _ => Below.heap_setCell _ ⟨w.heap.size, 2, none⟩ _ b (by simp; omega))) (by omega)
  · exact ((hW.setCell (p := ⟨w.heap.size, 0, none⟩) (by simp) _).setCell (p := ⟨w.heap.size, 1, none⟩) (by simp) _).setCell (p := ⟨w.heap.size, 2, none⟩) (by simp) _
theorem inT_fit {ts : List TB} (n : ByteArray) (hf : fitT 1048576 ts) : (inT ts n).rows.length ≤ 1048576 ∧ ∀ j, j < (inT ts n).rows.length → (rr (inT ts n).rows j).length ≤ 1048576 := by
  unfold inT
  split
  · rename_i hi; exact (hf _ hi).2
  · exact ⟨Nat.zero_le _, fun j hj => absurd hj (by simp [zeroT])⟩
end Go.Proofs.YtdjoiehknpfigaaGreat

/- Contracts of the program's inOrder, Batched and Does: a base of the call's own; nothing that lay has turned. -/
namespace Go.Proofs.YtdjoiehknpfigaaGreat
open Go.RowKit

theorem make_base (n : Nat) (hn : n ≤ 1048576) (w : World) : (Instr.makeSlice 28 (.int .i64 0) (.int .i64 (n : Int))).run Tryz.prog w = .ok (.slice (some ⟨w.heap.size, 0, none⟩) 0 n) (w.alloc (.cells (madeCells #[.string ⟨#[]⟩, .int .i64 0, .slice none 0 0] (n * 3)) 55)) := by
  obtain ⟨i, hi, hz, hs, hby⟩ := info_parts info_table
  have := run_make (P := Tryz.prog) w 28 55 i (.agg #[.string ⟨#[]⟩, .int .i64 0, .slice none 0 0]) Tryz.underlying28 hi hz .i64 .i64 0 (n : Int) (by omega) (by omega) (by rw [hby]; omega) (by omega)
  rw [hs] at this
  simpa [Value.cells] using this
theorem app_cells {n k : Nat} {es : List TE} {e : TE} (hk : es.length = k) (hlt : k < n) :
    ((arr (3 * n) (tcell es)).toList.take (k * 3) ++ ([.string e.n, .int .i64 e.wd, .slice e.A e.es.length e.c] : List Value) ++ (arr (3 * n) (tcell es)).toList.drop (k * 3 + 3)).toArray = arr (3 * n) (tcell (es ++ [e])) := by
  subst hk
  rw [← arr_congr (fun q _ => tcell_push es e q)]
  apply Array.ext_getElem?
  intro q
  have hl : (arr (3 * n) (tcell es)).toList.length = 3 * n := by simp [arr]
  rw [List.getElem?_toArray]
  by_cases hq : q < 3 * n
  · rw [arr_get _ hq]
    by_cases h1 : q < es.length * 3
    · rw [List.append_assoc, List.getElem?_append_left (by rw [List.length_take]; omega), List.getElem?_take, if_pos h1, Array.getElem?_toList, arr_get _ hq, if_neg (by omega), if_neg (by omega), if_neg (by omega)]
    · by_cases h2 : q < es.length * 3 + 3
      · rw [List.append_assoc, List.getElem?_append_right (by rw [List.length_take]; omega), List.length_take, Nat.min_eq_left (by omega), List.getElem?_append_left (by simp; omega)]
        obtain h | h | h : q = es.length * 3 ∨ q = es.length * 3 + 1 ∨ q = es.length * 3 + 2 := by omega
        · subst h; simp
        · subst h; simp
        · subst h; simp
      · have hle : (List.take (es.length * 3) (arr (3 * n) (tcell es)).toList ++ [Value.string e.n, .int .i64 e.wd, .slice e.A e.es.length e.c]).length = es.length * 3 + 3 := by rw [List.length_append, List.length_take, hl, Nat.min_eq_left (by omega)]; rfl
        rw [List.getElem?_append_right (by rw [hle]; omega), List.getElem?_drop, Array.getElem?_toList]
        rw [hle, show es.length * 3 + 3 + (q - (es.length * 3 + 3)) = q by omega, arr_get _ hq, if_neg (by omega), if_neg (by omega), if_neg (by omega)]
  · rw [List.getElem?_eq_none (by rw [List.length_append, List.length_append, List.length_take, List.length_drop, hl]; simp only [List.length_cons, List.length_nil]; omega), Array.getElem?_eq_none (by simp [arr]; omega)]
theorem append_tab {w : World} {G n k X : Nat} {es : List TE} {e : TE} (hB : Blk w G 55 (arr (3 * n) (tcell es))) (hk : es.length = k) (hlt : k < n) (hX : Blk w X 55 #[.string e.n, .int .i64 e.wd, .slice e.A e.es.length e.c]) :
    ∃ w', (∀ ty, (Builtin.append_ #[28, 28] ty #[.slice (some ⟨G, 0, none⟩) k n, .slice (some ⟨X, 0, none⟩) 1 1]).run Tryz.prog w = .ok (.slice (some ⟨G, 0, none⟩) (k + 1) n) w') ∧ Blk w' G 55 (arr (3 * n) (tcell (es ++ [e]))) ∧ w.grownBy w' (some G) := by
  obtain ⟨i, hi, hz, hs, hby⟩ := info_parts info_table
  have hr := fun ty => run_append_room (P := Tryz.prog) w 28 ty 55 i Tryz.underlying28 hi G k n (arr (3 * n) (tcell es)) hB ⟨X, 0, none⟩ 1 1 [.string e.n, .int .i64 e.wd, .slice e.A e.es.length e.c] (by rw [hs]; rfl)
    (fun j u hu => by
      have ea : Addr.add ⟨X, 0, none⟩ j = ⟨X, 0 + j, none⟩ := by unfold Addr.add; split <;> simp_all
      rw [ea, Nat.zero_add, hX.cell j, ← hu]; simp) (by simp [Value.oneCell']) (by omega) (by rw [hs]; simp [arr]; omega)
  rw [hs] at hr
  have hc := app_cells (e := e) hk hlt
  simp only [List.length_cons, List.length_nil] at hr
  rw [show (0 + 1 + 1 + 1 : Nat) = 3 from rfl, hc] at hr
  refine ⟨_, hr, setRow_heap w G _ _ 55 _ hB, grown_setRow w G _⟩
theorem wpList_run_append {P : Program} {w w' : World} {ops : Array Oper} {rest : List Oper} {o : Oper} {a : Act} {Q : Exit → Act → World → Prop} (hgd : o.guard = none) (s x : Operand) (t : TypeId) (ho : o.op = .call { callee := .builtin .append, args := #[s, x], argTypes := #[t, t] })
    (vs vx v' : Value) (_w : World) (hs : a.eval s = vs) (hx : a.eval x = vx) (hrun : (Builtin.append_ #[t, t] o.type #[vs, vx]).run P w = .ok v' w') (h : wpList P ops Q rest (a.put o.dst v') w') : wpList P ops Q (o :: rest) a w := by
  refine wpList_plain hgd fun K' hK' => ?_
  unfold Oper.wp
  simp [execOp, ho, resolve, invoke, builtin, hs, hx, hrun, Result.andThen]
  exact hK' _ _ h
/-- One more table, appended in place. -/
theorem TabSt.app {w wr w3 w4 : World} {G n : Nat} {es : List TE} {nm : ByteArray} {wd : Int} {fs : List Ent} {A : Option Addr} {c m : Nat} {o : Obj} (h : TabSt w G n es wr) (hG : w.heap.size ≤ G) (hb : Below wr.heap.size wr w3) (hm : m = fs.length) (hR : RIn w3 wr.heap.size w3.heap.size (.slice A m c) fs)
    (hB4 : Blk w4 G 55 (arr (3 * n) (tcell (es ++ [⟨nm, wd, fs, A, c, wr.heap.size, w3.heap.size⟩])))) (hg4 : (w3.alloc o).grownBy w4 (some G)) : TabSt w G n (es ++ [⟨nm, wd, fs, A, c, wr.heap.size, w3.heap.size⟩]) w4 := by
  obtain ⟨hB, hr, hW⟩ := h
  subst hm
  have hGl := hB.lt
  have hsz := hb.size
  have ba := (Below.refl w3.heap.size w3).alloc (Nat.le_refl _) o
  have hwi : Within G (G + 1) (w3.alloc o) w4 := Within.of_grown hg4 (.inl ⟨Nat.le_refl _, Nat.lt_succ_self _⟩)
  have hs4 := hg4.size
  have hsa : (w3.alloc o).heap.size = w3.heap.size + 1 := World.size_alloc _ _
  have hr3 : TEs w4 G wr.heap.size es := ⟨fun e he => ⟨(((hr.on hb).on ba).1 e he).1.within hwi (.inr ((hr.1 e he).2.1)), (hr.1 e he).2⟩, hr.2⟩
  refine ⟨hB4, ?_, (bel_step (bel_step hW hb) ba).grown hg4 (by have := hW.size; omega) (fun r e => by have e' : G = r := Option.some.inj e; omega)⟩
  exact hr3.snoc (hi' := w4.heap.size) (by omega) ((hR.on ba).within hwi (.inr hGl)) hGl hsz (Nat.le_refl _) (by show w3.heap.size ≤ w4.heap.size; omega)
theorem fnd_at : ∀ {ts : List TB} {k : Nat}, SN ts → k < ts.length → fndN ts (tx ts k).n = k
  | t :: ts, 0, _, _ => by simp [tx, fndN]
  | t :: ts, k + 1, h, hk => by
    obtain ⟨h1, h2⟩ := List.pairwise_cons.1 h
    have hk' : k < ts.length := by simpa using hk
    have e : tx (t :: ts) (k + 1) = tx ts k := by simp [tx]
    have hne : ¬ t.n = (tx ts k).n := nlt_ne (h1 _ (tx_mem hk'))
    rw [e, fndN, if_neg hne, fnd_at h2 hk']
set_option maxRecDepth 100000 in
set_option maxHeartbeats 4000000 in
theorem inOrder_any (m : Nat) (ts : List TB) (w : World) (hS : Sh w m ts) (hb : baseB ts = true) :
    Calls Tryz.prog 39 #[.map (some m)] w (BaseOwn ts w) := by
  obtain ⟨_, hsn, hl4⟩ := base_iff.1 hb
  have hlen := hS.len
  have hmk := fun wx => make_base ts.length (by omega) wx
  have bc := (Below.refl w.heap.size w).alloc (Nat.le_refl _) (.cells (madeCells #[Value.string ⟨#[]⟩, .int .i64 0, .slice none 0 0] (ts.length * 3)) 55)
  have BM := Blk.new w 55 (madeCells #[Value.string ⟨#[]⟩, .int .i64 0, .slice none 0 0] (ts.length * 3))
  rw [made_tables] at BM bc
  have hS1 := hS.on bc
  have HSN := Lib.hid hsn
  have HBS := Lib.hid hb
  clear hsn hb
  go_enter Tryz.func39, Tryz.ntmps39
  go_wp2_with fail
  clear hmk hlen
  rw [made_tables]
  generalize w.alloc (.cells (arr (3 * ts.length) (tcell [])) 55) = wb at *
  obtain ⟨G, hG⟩ : ∃ G, w.heap.size = G := ⟨_, rfl⟩
  have HG := Lib.hid hG
  rw [hG] at BM ⊢
  have hGb : G < wb.heap.size := BM.lt
  clear hG
  refine (keysCall (some m) wb).mono ?_
  rintro e w1 ⟨rfl, hw1⟩
  subst hw1
  go_wp2_with fail
  refine (sortedCall m ts wb hS1 HSN.out (by omega)).mono ?_
  rintro e w2 ⟨An, cn, rfl, hStr, hAn, hb2⟩
  have HAN := Lib.hid (show ∀ b o, 0 < ts.length → An = some ⟨b, o, none⟩ → G < b from fun b o h1 h2 => by have := hAn b o h1 h2; omega)
  clear hAn
  have bk := ((Below.refl wb.heap.size wb).alloc (Nat.le_refl _) (.cells #[.map (some m)] 63)).trans (hb2.mono (Nat.le_succ _))
  have st0 : TabSt w G ts.length [] w2 := ⟨BM.on bk, TEs.nil _ _ _, bel_step bc bk⟩
  have HSX := Lib.hid hStr
  have HSH := Lib.hid hS
  clear hS1 BM bc hb2 bk hStr hS
  go_wp2
  go_loopw [3, 13] (fun b i wr => ∃ (k : Nat) (es : List TE), k ≤ ts.length ∧ i = .int .i64 k ∧ b = .slice (some ⟨G, 0, none⟩) k ts.length ∧ es.length = k ∧ es.map TE.t = ts.take k ∧ TabSt w G ts.length es wr ∧ Strs wr w2.heap.size An (ts.map TB.n)) (fun _ i _ => ts.length - (intOf i).toNat)
  case atStart => exact ⟨0, [], Nat.zero_le _, rfl, rfl, rfl, by simp, st0, HSX.out⟩
  case round =>
    obtain ⟨k, es, hk, rfl, rfl, hel, he, hst, hStr⟩ := hrel
    have hSr := HSH.out.on hst.2.2
    have HE := Lib.hid he
    have HEL := Lib.hid hel
    clear he st0 hel HSX
    by_cases hlt : k < ts.length
    · have hnx : fndN ts (tx ts k).n = k := fnd_at HSN.out hlt
      obtain ⟨bn, on, rfl, hbn, hcn⟩ := hStr (by rw [List.length_map]; omega)
      have nk := hcn k (by rw [List.length_map]; exact hlt)
      rw [show sx (ts.map TB.n) k = (tx ts k).n by rw [tx_eq ts k hlt]; simp [sx, hlt]] at nk
      obtain ⟨Ar, cr, hlk, _, hR⟩ := hSr.look (n := (tx ts k).n) (by have := tab_name HBS.out hlt; unfold maxLen; omega) (by rw [hnx]; exact hlt)
      rw [hnx] at hlk hR
      unfold tabV at hlk
      have h30 := tab_len (base_ok HBS.out hlt)
      have hk0 : (0 : Int) ≤ (k : Int) := Int.natCast_nonneg _
      have hk1 : (k : Int) < (ts.length : Int) := by omega
      have HST := Lib.hid hst
      have HStr := Lib.hid hStr
      clear hst hcn hStr hnx
      go_wp2_with fail
      clear hlk nk
      refine (copyOfTable_any (tx ts k).n (tx ts k).wd Ar cr (tx ts k).rows wr hR (by omega)).mono ?_
      rintro e w3 hct
      obtain ⟨Au, cu, fs, rfl, hO3, he3, hb3⟩ := copyTab_w hct
      have hfl : (tx ts k).rows.length = fs.length := by rw [← he3, List.length_map]
      have ba := (Below.refl w3.heap.size w3).alloc (Nat.le_refl _) (.cells #[.string (tx ts k).n, .int .i64 (tx ts k).wd, .slice Au (tx ts k).rows.length cu] 55)
      have BX := Blk.new w3 55 #[.string (tx ts k).n, .int .i64 (tx ts k).wd, .slice Au (tx ts k).rows.length cu]
      have BGa := ((HST.out.on hb3).on ba).1
      obtain ⟨w4, hap, hB4, hg4⟩ := append_tab (e := ⟨(tx ts k).n, (tx ts k).wd, fs, Au, cu, wr.heap.size, w3.heap.size⟩) BGa HEL.out hlt (X := w3.heap.size) (by simp only; rw [← hfl]; exact BX)
      have hst4 := HST.out.app (by rw [HG.out]; exact Nat.le_refl _) hb3 hfl hO3.rin hB4 hg4
      have hGl := HST.out.1.lt
      have hGn : bn ≠ G := by have := HAN.out bn on (by omega) rfl; omega
      have HStr4 := Lib.hid (show Strs w4 w2.heap.size (some ⟨bn, on, none⟩) (ts.map TB.n) from fun hn => by
        obtain ⟨b', o', e1, h1, h2⟩ := HStr.out hn
        injection e1 with e1
        injection e1 with e1 e2 _
        subst e1 e2
        exact ⟨bn, on, rfl, h1, fun j hj => grown_cell hg4 hGn ((ba.cell (Nat.lt_of_lt_of_le (cell_lt (h2 j hj)) hb3.size)).trans ((hb3.cell (cell_lt (h2 j hj))).trans (h2 j hj)))⟩)
      have HST4 := Lib.hid hst4
      have HP4 := Lib.hid (show (es ++ [(⟨(tx ts k).n, (tx ts k).wd, fs, Au, cu, wr.heap.size, w3.heap.size⟩ : TE)]).map TE.t = ts.take (k + 1) by
        rw [List.map_append, HE.out, List.take_succ_eq_append_getElem hlt, ← tx_eq ts k hlt]
        show _ ++ [TE.t _] = _
        unfold TE.t
        rw [he3])
      have HL4 := Lib.hid (show (es ++ [(⟨(tx ts k).n, (tx ts k).wd, fs, Au, cu, wr.heap.size, w3.heap.size⟩ : TE)]).length = k + 1 by rw [List.length_append, HEL.out]; rfl)
      clear hst4 hB4 hg4 BGa BX ba hb3 he3 hO3 hct hR hSr hfl
      go_wp2_with (first | (at_builtin; refine wpList_run_append (by rfl) _ _ _ (by rfl) _ _ _ w4 (by rfl) (by rfl) (hap _) ?_))
      go_roundw
      case rel => exact ⟨k + 1, _, by omega, by go_num, rfl, HL4.out, HP4.out, HST4.out, HStr4.out⟩
      case measure => simp [intOf]; omega
    · have hd : decide (k < ts.length) = false := by simpa using hlt
      have hkk : k = ts.length := by omega
      have HO := Lib.hid (show OwnT wr w.heap.size wr.heap.size (some ⟨G, 0, none⟩) es by
        refine own_of_st ?_ (by rw [HG.out]; exact Nat.le_refl _)
        rw [HEL.out, hkk]; exact hst)
      have hW := hst.2.2
      have HE2 := Lib.hid (show es.map TE.t = ts by rw [HE.out, List.take_of_length_le (by omega)])
      clear hst hSr hStr
      subst hkk
      go_wp2
      go_ret
      exact ⟨_, _, es, rfl, HE2.out, HO.out, hW⟩
/-- A base of the call's own, and a code. -/
def BaseAns (P : List TB × Int) (w : World) (e : Ending) (w' : World) : Prop :=
  ∃ A c es, e = .returned (.tuple #[.slice A P.1.length c, .int .i64 P.2]) ∧ es.map TE.t = P.1 ∧ OwnT w' w.heap.size w'.heap.size A es ∧ Below w.heap.size w w'
theorem batD_all (t0 : List TB) : ∀ (ds : List DL) (ts : List TB), batD t0 ts ds = if (allD ts ds).2 = 0 then allD ts ds else (t0, (allD ts ds).2)
  | [], ts => rfl
  | d :: ds, ts => by
    unfold batD allD
    by_cases h : (doB ts d).2 = 0
    · rw [if_pos h, if_pos h]; exact batD_all t0 ds _
    · rw [if_neg h, if_neg h, if_neg h]
theorem allD_base : ∀ (ds : List DL) {ts : List TB}, baseB ts = true → baseB (allD ts ds).1 = true
  | [], _, h => h
  | d :: ds, ts, h => by
    unfold allD
    split
    · exact allD_base ds (doB_base h)
    · exact doB_base h
theorem OwnT.low {w : World} {lo lo' hi hi' : Nat} {A : Option Addr} {es : List TE} (h : OwnT w lo hi A es) (h1 : lo' ≤ lo) (h2 : hi ≤ hi') (h3 : hi' ≤ w.heap.size) : OwnT w lo' hi' A es := ⟨h3, fun hn => by
  obtain ⟨G, e, hl, hg, hB, hr⟩ := h.2 hn
  exact ⟨G, e, by omega, by omega, hB, fun x hx => ⟨(hr.1 x hx).1, (hr.1 x hx).2.1, (hr.1 x hx).2.2.1, by have := (hr.1 x hx).2.2.2; omega⟩, hr.2⟩⟩
set_option maxRecDepth 100000 in
set_option maxHeartbeats 4000000 in
theorem implBatched_any (A : Option Addr) (c : Nat) (ts : List TB) (A' : Option Addr) (c' : Nat) (ds : List DL) (w : World) (hT : Tabs w w.heap.size A ts) (hf : fitT 1048576 ts) (hl : ts.length ≤ 1048576) (hD : DLs w w.heap.size A' ds) (hfd : fitD 1048576 ds) (hld : ds.length ≤ 1048576) :
    Calls Tryz.prog 19 #[.slice A ts.length c, .slice A' ds.length c'] w (BaseAns (batchB ts ds) w) := by
  have hmm := @run_makeMap Tryz.prog
  obtain ⟨P, hP⟩ : ∃ P, batchB ts ds = P := ⟨_, rfl⟩
  have HPQ := Lib.hid hP
  rw [hP]
  have HFD := Lib.hid hfd
  clear hP hfd
  go_enter Tryz.func19, Tryz.ntmps19
  go_wp2_with fail
  refine (implBaseOk_any A c ts w hT hf hl).mono ?_
  rintro e w1 ⟨rfl, hb1⟩
  have hT1 := hT.on hb1
  have hD1 := hD.on hb1
  have hs1 := hb1.size
  clear hT hD hf
  cases hb : baseB ts with
  | false =>
    have HPE := Lib.hid (show P = ([], 4) by rw [← HPQ.out]; unfold batchB; rw [if_neg (by rw [hb]; simp)])
    clear hb hmm
    go_wp2
    go_ret2
    rw [HPE.out]
    exact ⟨_, _, [], rfl, rfl, OwnT.nil _ (Nat.le_refl _), hb1.alloc hs1 _⟩
  | true =>
    have HBS := Lib.hid hb
    have bm := (Below.refl w1.heap.size w1).alloc (Nat.le_refl _) (.map #[] 0)
    have hS2 := Sh.made w1
    have hT2 := hT1.below bm
    have hD2 := hD1.below bm
    have hW2 := bel_step hb1 bm
    clear hb hT1 hD1
    go_wp2_with fail
    clear hmm
    generalize w1.alloc (.map #[] 0) = w2 at *
    obtain ⟨m, hm⟩ : ∃ m, w1.heap.size = m := ⟨_, rfl⟩
    have hwm : w.heap.size ≤ m := by omega
    rw [hm] at hS2 hT2 hD2 bm ⊢
    clear hm hb1 hs1
    refine (fill_any m m [] A c ts w2 hS2 hT2 (Nat.le_refl _) HBS.out).mono ?_
    rintro e w3 ⟨rfl, hS3, hg3⟩
    have hm2 := hS2.lt
    have b3 := bel_map hg3 (Nat.le_refl m) (by omega)
    have hT3 := hT2.below b3
    have hD3 := hD2.below b3
    have hW3 := hW2.trans (b3.mono hwm)
    clear hS2 hT2 hD2 hW2 hg3 b3 bm
    go_wp2_with fail
    refine (doesAll_any m m ts A' c' ds w3 hS3 HBS.out hD3 (Nat.le_refl _) HFD.out hld).mono ?_
    rintro e w4 ⟨rfl, hS4, hg4⟩
    have hm3 := hS3.lt
    have b4 := bel_map hg4 (Nat.le_refl m) (by omega)
    have hT4 := hT3.below b4
    have hW4 := hW3.trans (b4.mono hwm)
    have hm4 := hS4.lt
    obtain ⟨⟨us, cd⟩, hq⟩ : ∃ q, (if ds.length ≤ 8 then allD ts ds else (ts, 4)) = q := ⟨_, rfl⟩
    have HBU := Lib.hid (show baseB us = true by
      have : baseB (if ds.length ≤ 8 then allD ts ds else (ts, 4)).1 = true := by
        split
        · exact allD_base ds HBS.out
        · exact HBS.out
      rw [hq] at this; exact this)
    have HPE := Lib.hid (show P = if cd = 0 then (us, 0) else (ts, cd) by
      rw [← HPQ.out]
      unfold batchB
      rw [if_pos HBS.out]
      by_cases h8 : ds.length ≤ 8
      · rw [if_pos h8] at hq
        rw [if_pos h8, batD_all, hq]
        by_cases h0 : cd = 0
        · subst h0; rfl
        · rw [if_neg h0, if_neg h0]
      · rw [if_neg h8] at hq
        rw [if_neg h8]
        injection hq with h1 h2
        subst h2
        rw [if_neg (by decide)])
    rw [hq] at hS4 ⊢
    simp only at hS4 ⊢
    clear hq hS3 hT3 hD3 hW3 hg4 b4
    by_cases h0 : cd = 0
    · subst h0
      go_wp2_with fail
      refine (inOrder_any m us w4 hS4 HBU.out).mono ?_
      rintro e w5 ⟨A5, c5, es5, rfl, he5, hO5, hb5⟩
      have hW5 := hW4.trans (hb5.mono hW4.size)
      have hO := hO5.low (lo' := w.heap.size) hW4.size (Nat.le_refl _) (Nat.le_refl _)
      have HE5 := Lib.hid he5
      have HPF := Lib.hid (show P = (us, 0) from HPE.out)
      clear he5 hO5 hb5 hS4 hT4 HPE
      go_wp2
      go_ret2
      rw [HPF.out]
      exact ⟨_, _, es5, rfl, HE5.out, hO, hW5⟩
    · have hne : (cd != 0) = true := by simpa using h0
      have HPF := Lib.hid (show P = (ts, cd) by rw [HPE.out, if_neg h0])
      clear h0 HPE
      go_wp2_with fail
      refine (fill_any m m us A c ts w4 hS4 hT4 (Nat.le_refl _) HBS.out).mono ?_
      rintro e w5 ⟨rfl, hS5, hg5⟩
      have b5 := bel_map hg5 (Nat.le_refl m) (by omega)
      have hW5 := hW4.trans (b5.mono hwm)
      clear hS4 hT4 hW4 hg5 b5
      go_wp2_with fail
      refine (inOrder_any m ts w5 hS5 HBS.out).mono ?_
      rintro e w6 ⟨A6, c6, es6, rfl, he6, hO6, hb6⟩
      have hW6 := hW5.trans (hb6.mono hW5.size)
      have hO := hO6.low (lo' := w.heap.size) hW5.size (Nat.le_refl _) (Nat.le_refl _)
      have HE6 := Lib.hid he6
      clear he6 hO6 hb6 hS5
      go_wp2
      go_ret2
      rw [HPF.out]
      exact ⟨_, _, es6, rfl, HE6.out, hO, hW6⟩
end Go.Proofs.YtdjoiehknpfigaaGreat

/- The contract of the program's Does: a base of the call's own; nothing that lay has turned. -/
namespace Go.Proofs.YtdjoiehknpfigaaGreat
open Go.RowKit

theorem does_batch (ts : List TB) (d : DL) : batchB ts [d] = doesB ts d := by
  unfold batchB doesB
  split
  · show (if 1 ≤ 8 then batD ts ts [d] else _) = _
    rw [if_pos (by decide)]
    unfold batD batD
    by_cases h : (doB ts d).2 = 0
    · rw [if_pos h]; exact Prod.ext rfl h.symm
    · rw [if_neg h]; exact Prod.ext (doB_same h).symm rfl
  · rfl
set_option maxRecDepth 100000 in
set_option maxHeartbeats 4000000 in
theorem implDoes_any (A : Option Addr) (c : Nat) (ts : List TB) (k : Int) (s : ByteArray) (Az : Option Addr) (cz : Nat) (z : List Int) (w : World) (hT : Tabs w w.heap.size A ts) (hf : fitT 1048576 ts) (hl : ts.length ≤ 1048576) (hI : Ints w w.heap.size Az z) (hs : s.size ≤ 1048576) (hz : z.length ≤ 1048576) :
    Calls Tryz.prog 10 #[.slice A ts.length c, .agg #[.int .i64 k, .string s, .slice Az z.length cz]] w (BaseAns (doesB ts ⟨k, s, z⟩) w) := by
  have b2 := bel_two (w := w) (.cells #[.int .i64 k, .string s, .slice Az z.length cz] 32) (.cells #[.int .i64 k, .string s, .slice Az z.length cz] 32)
  have BD := Blk.new (w.alloc (.cells #[.int .i64 k, .string s, .slice Az z.length cz] 32)) 32 #[.int .i64 k, .string s, .slice Az z.length cz]
  rw [World.size_alloc] at BD
  have hT2 := hT.on b2
  have hI2 := hI.on b2
  obtain ⟨P, hP⟩ : ∃ P, doesB ts ⟨k, s, z⟩ = P := ⟨_, rfl⟩
  have HQ := Lib.hid ((does_batch ts ⟨k, s, z⟩).trans hP)
  rw [hP]
  clear hP
  clear hT hI
  go_enter Tryz.func10, Tryz.ntmps10
  go_wp2_with fail
  generalize (w.alloc (.cells #[.int .i64 k, .string s, .slice Az z.length cz] 32)).alloc (.cells #[.int .i64 k, .string s, .slice Az z.length cz] 32) = wb at *
  have hD : DLs wb wb.heap.size (some ⟨w.heap.size + 1, 0, none⟩) [⟨k, s, z⟩] := fun _ => by
    obtain ⟨d0, d1, d2⟩ := BD.c3
    refine ⟨w.heap.size + 1, 0, rfl, BD.lt, fun j hj => ?_⟩
    obtain rfl : j = 0 := by simpa using hj
    exact ⟨Az, cz, d0, d1, d2, hI2⟩
  have hcall := implBatched_any A c ts (some ⟨w.heap.size + 1, 0, none⟩) 1 [⟨k, s, z⟩] wb hT2 hf hl hD (fun j hj => by
    obtain rfl : j = 0 := by simpa using hj
    exact ⟨hs, hz⟩) (by simp)
  rw [HQ.out] at hcall
  have HC := Lib.hid hcall
  clear hcall HQ hD BD hT2 hI2 hf
  refine (HC.out).mono ?_
  rintro e w1 ⟨A1, c1, es1, rfl, he1, hO1, hb1⟩
  have hW1 := bel_step b2 hb1
  have hO := hO1.low (lo' := w.heap.size) b2.size (Nat.le_refl _) (Nat.le_refl _)
  have HE := Lib.hid he1
  clear he1 hO1 hb1 HC
  go_wp2
  go_ret2
  exact ⟨_, _, es1, rfl, HE.out, hO, hW1⟩
end Go.Proofs.YtdjoiehknpfigaaGreat

/- laws.szDeed from whatever is left, told exactly. -/
namespace Go.Proofs.YtdjoiehknpfigaaGreat
open Go.RowKit

set_option maxRecDepth 100000 in
set_option maxHeartbeats 2000000 in
theorem szDeed_sum (k : Int) (s : ByteArray) (A : Option Addr) (n c : Nat) (left : Int) (w : World) (hs : s.size ≤ maxLen) (hl : n ≤ maxLen) (hz0 : 0 ≤ left) (hz1 : left ≤ 1048576) :
    Calls Tryz.prog 6 #[.agg #[.int .i64 k, .string s, .slice A n c], .int .i64 left] w (SzE (s.size + n) left w) := by
  unfold maxLen at hs
  have bc := (Below.refl w.heap.size w).alloc (Nat.le_refl _) (.cells #[.int .i64 k, .string s, .slice A n c] 25)
  by_cases hbig : left < (s.size : Int)
  · go_enter Tryz.func6, Tryz.ntmps6
    go_wp2
    go_ret
    exact ⟨-1, rfl, by omega, fun h => absurd h (by omega), bc⟩
  have hx2 : 0 ≤ left - (s.size : Int) ∧ left - (s.size : Int) ≤ 1048576 := by omega
  have hdb : decide (left < (s.size : Int)) = false := decide_eq_false hbig
  go_enter Tryz.func6, Tryz.ntmps6
  go_wp2_with fail
  generalize w.alloc (.cells #[.int .i64 k, .string s, .slice A n c] 25) = wb at *
  refine (szInt64S_any A n c (left - (s.size : Int)) wb hl hx2.1 hx2.2).mono ?_
  rintro e w1 ⟨rfl, rfl⟩
  by_cases h0 : szI n (left - (s.size : Int)) < 0
  · rw [szI_no h0]
    clear h0
    go_wp2
    go_ret
    exact ⟨-1, rfl, by omega, fun h => absurd h (by omega), bc⟩
  · have hs0 : 0 ≤ szI n (left - (s.size : Int)) := by omega
    have HN := Lib.hid (szI_eq hs0)
    have hle : szI n (left - (s.size : Int)) ≤ 1048576 := by have := szI_eq hs0; omega
    generalize szI n (left - (s.size : Int)) = x at *
    go_wp2
    go_ret
    exact ⟨x, rfl, by have := HN.out; omega, fun _ => by have := HN.out; omega, bc⟩
end Go.Proofs.YtdjoiehknpfigaaGreat

/- The laws' text of a mark: the letter m and the digits; nothing that lay has turned. -/
namespace Go.Proofs.YtdjoiehknpfigaaGreat
open Go.RowKit

/-- The letter m and the digits. -/
def mt (a : Nat) : ByteArray := ⟨(109 :: Lib.decDigits a).toArray⟩
theorem mt_eq (sb : ByteArray) (a : Nat) (h : sb = ⟨(Lib.decDigits a).toArray⟩) : (⟨#[109]⟩ : ByteArray) ++ sb = mt a := by
  refine bl_eta _ _ ?_
  rw [bl_append, h, bl_mk]; rfl
set_option maxRecDepth 100000 in
set_option maxHeartbeats 1000000 in
theorem markText_any (a : Nat) (w : World) (h1 : 1 ≤ a) (h : a ≤ 1000000000) :
    Calls Tryz.prog 32 #[.int .i64 a] w fun e w' => e = .returned (.string (mt a)) ∧ Below w.heap.size w w' := by
  have hneg : decide ((a : Int) ≤ 0) = false := by simp; omega
  go_enter Tryz.func32, Tryz.ntmps32
  go_wp2
  go_loopw [0, 3] (fun n s wr => ∃ (m : Nat) (sb : ByteArray), m ≤ a ∧ n = .int .i64 m ∧ s = .string sb ∧ sb.size + m ≤ a + 1 ∧ DigInv a m sb.data.toList ∧ Below w.heap.size w wr) (fun n s _ => (intOf n).toNat)
  case atStart => exact ⟨a, ⟨#[]⟩, Nat.le_refl _, rfl, rfl, by simp [ByteArray.size], .inl ⟨rfl, rfl⟩, Below.refl _ _⟩
  case round =>
    obtain ⟨m, sb, hm, rfl, rfl, hl, hinv, hbel⟩ := hrel
    have HI := Lib.hid hinv
    obtain ⟨cb, hcb⟩ : ∃ cb : UInt8, cb = UInt8.ofNat (48 + m % 10) := ⟨_, rfl⟩
    have hconv := conv_byte wr m cb hcb
    have HC := Lib.hid hcb
    clear hinv hcb
    by_cases hm0 : m = 0
    · have HE := Lib.hid (show sb = ⟨(Lib.decDigits a).toArray⟩ from bytes_eta sb _ (by
        rcases HI.out with ⟨_, e⟩ | ⟨h1, h2⟩
        · omega
        · rw [if_pos hm0] at h2; exact h2.symm))
      subst hm0
      clear hconv
      go_wp2
      go_ret
      exact ⟨congrArg (fun x => Ending.returned (.string x)) (mt_eq sb a HE.out), hbel⟩
    · have hb : decide ((0 : Int) < (m : Int)) = true := by simp; omega
      have hb2 : decide (0 < m) = true := by simp; omega
      go_wp2
      go_roundw
      case rel => exact ⟨m / 10, _, by omega, by go_num, rfl, by rw [size_cons]; omega, by rw [bytes_cons, HC.out]; exact digInv_step HI.out (.inr hm0), hbel.alloc hbel.size _⟩
      case measure => simp only [intOf]; omega

end Go.Proofs.YtdjoiehknpfigaaGreat

/- The laws' marking of a base of the call's own, and whether the marks are held. -/
namespace Go.Proofs.YtdjoiehknpfigaaGreat
open Go.RowKit

theorem Tabs.len {es : List TE} {ts : List TB} (h : es.map TE.t = ts) : ts.length = es.length := by rw [← h, List.length_map]
theorem kR_take (k : Int) (es : List Ent) : ∀ i, i ≤ es.length → kR k es i = k + (rsum ((es.take i).map Ent.r) : Nat)
  | 0, _ => by simp [kR, rsum]
  | i + 1, h => by
    have ih := kR_take k es i (by omega)
    simp only [kR]
    rw [ih, rl_eq (by omega)]
    have e : (es.take (i + 1)).map Ent.r = (es.take i).map Ent.r ++ [es[i].r] := by rw [List.take_succ_eq_append_getElem (by omega), List.map_append]; rfl
    rw [e]
    unfold rsum
    rw [List.map_append, List.sum_append_nat]
    simp; omega
theorem kR_all (k : Int) (es : List Ent) : kR k es es.length = k + (rsum (es.map Ent.r) : Nat) := by rw [kR_take k es es.length (Nat.le_refl _), List.take_of_length_le (Nat.le_refl _)]
/-- The number that table j is marked from. -/
def kT (k : Nat) (es : List TE) : Nat → Nat
  | 0 => k
  | j + 1 => kT k es j + 2 + rsum ((tex es j).es.map Ent.r)
theorem kT_mono (k : Nat) (es : List TE) : ∀ {i j : Nat}, i ≤ j → kT k es i ≤ kT k es j
  | i, 0, h => by rw [show i = 0 by omega]; exact Nat.le_refl _
  | i, j + 1, h => by
    by_cases e : i = j + 1
    · rw [e]; exact Nat.le_refl _
    · have := kT_mono k es (show i ≤ j by omega)
      simp only [kT]; omega
theorem kT_sum (k : Nat) {es : List TE} {ts : List TB} (h : es.map TE.t = ts) : ∀ j, j ≤ es.length → kT k es j ≤ k + 2 * j + twS (ts.take j)
  | 0, _ => by simp [kT]
  | j + 1, hj => by
    have ih := kT_sum k h j (by omega)
    have hl : es.length = ts.length := by rw [← h, List.length_map]
    rw [twS_take (by omega), tex_t h (by omega)]
    simp only [kT]
    unfold tw TE.t
    simp only
    omega
theorem tcell_other (es : List TE) (q : Nat) (h0 : q % 3 ≠ 0) (h1 : q % 3 ≠ 1) : tcell es q = .slice (tex es (q / 3)).A (tex es (q / 3)).es.length (tex es (q / 3)).c := by unfold tcell; rw [if_neg h0, if_neg h1]
def ucell (k : Nat) (es : List TE) (i q : Nat) : Value := if q / 3 < i then (if q % 3 = 0 then .string (mt (kT k es (q / 3))) else if q % 3 = 1 then .int .i64 ((kT k es (q / 3) : Int) + 1) else tcell es q) else tcell es q
theorem ucell_2 (k : Nat) (es : List TE) (i j : Nat) : ucell k es i (j * 3 + 2) = .slice (tex es j).A (tex es j).es.length (tex es j).c := by
  unfold ucell
  split
  · rw [if_neg (by omega), if_neg (by omega), tcell_2]
  · rw [tcell_2]
theorem ucell_0 (k : Nat) (es : List TE) {i j : Nat} (h : j < i) : ucell k es i (j * 3) = .string (mt (kT k es j)) := by
  unfold ucell; rw [if_pos (by omega), if_pos (by omega), show j * 3 / 3 = j by omega]
theorem ucell_1 (k : Nat) (es : List TE) {i j : Nat} (h : j < i) : ucell k es i (j * 3 + 1) = .int .i64 ((kT k es j : Int) + 1) := by
  unfold ucell; rw [if_pos (by omega), if_neg (by omega), if_pos (by omega), show (j * 3 + 1) / 3 = j by omega]
theorem ucell_next (k : Nat) (es : List TE) (i : Nat) : ∀ q, (if q = i * 3 + 1 then .int .i64 ((kT k es i : Int) + 1) else if q = i * 3 then .string (mt (kT k es i)) else ucell k es i q) = ucell k es (i + 1) q := fun q => by
  by_cases h1 : q = i * 3 + 1
  · rw [if_pos h1, h1, ucell_1 k es (Nat.lt_succ_self i)]
  · rw [if_neg h1]
    by_cases h0 : q = i * 3
    · rw [if_pos h0, h0, ucell_0 k es (Nat.lt_succ_self i)]
    · rw [if_neg h0]
      unfold ucell
      by_cases hq : q / 3 < i
      · rw [if_pos hq, if_pos (show q / 3 < i + 1 by omega)]
      · rw [if_neg hq]
        by_cases hq1 : q / 3 < i + 1
        · rw [if_pos hq1, if_neg (by omega), if_neg (by omega)]
        · rw [if_neg hq1]
/-- The rows of the tables, marked. -/
def mkE (k : Nat) (es : List TE) (j : Nat) : List Ent := mkTo ((kT k es j + 2 : Nat) : Int) (tex es j).es (tex es j).es.length
/-- Marking under way: the first i are marked. -/
def URows (k : Nat) (es : List TE) (i : Nat) (wr : World) : Prop :=
  ∀ j, j < es.length → RIn wr (tex es j).lo (tex es j).hi (tex es j).v (if j < i then mkE k es j else (tex es j).es)
theorem URows.on {k : Nat} {es : List TE} {i : Nat} {wr w' : World} (h : URows k es i wr) (hb : Below wr.heap.size wr w') : URows k es i w' := fun j hj => (h j hj).on hb
theorem URows.within {k : Nat} {es : List TE} {i lo hi : Nat} {wr w' : World} (h : URows k es i wr) (hw : Within lo hi wr w') (ha : ∀ j, j < es.length → (tex es j).hi ≤ lo ∨ hi ≤ (tex es j).lo) : URows k es i w' := fun j hj => (h j hj).within hw (ha j hj)
def USt (w : World) (lo hi k G : Nat) (es : List TE) (i : Nat) (wr : World) : Prop :=
  Blk wr G 55 (arr (3 * es.length) (ucell k es i)) ∧ URows k es i wr ∧ Within lo hi w wr
/-- The tables, marked. -/
def MarkedT (w : World) (lo hi k : Nat) (A : Option Addr) (es : List TE) : Prop :=
  hi ≤ w.heap.size ∧ (0 < es.length → ∃ G, A = some ⟨G, 0, none⟩ ∧ lo ≤ G ∧ G < hi ∧ Blk w G 55 (arr (3 * es.length) (ucell k es es.length)) ∧ URows k es es.length w ∧ ∀ j, j < es.length → lo ≤ (tex es j).lo ∧ (tex es j).hi ≤ hi)
theorem MarkedT.on {w w' : World} {lo hi k : Nat} {A : Option Addr} {es : List TE} (h : MarkedT w lo hi k A es) (hb : Below w.heap.size w w') : MarkedT w' lo hi k A es := ⟨Nat.le_trans h.1 hb.size, fun hn => by
  obtain ⟨G, e, h1, h2, hB, hr, h3⟩ := h.2 hn
  exact ⟨G, e, h1, h2, hB.on hb, hr.on hb, h3⟩⟩
theorem bel_within {lo hi : Nat} {w w' : World} (h : Below w.heap.size w w') : Within lo hi w w' := ⟨h.os, h.tape, h.output, h.size, fun b hb _ => h.block b hb⟩
/-- Behind the two stores. -/
theorem u_step {w wr w2 : World} {lo hi k G : Nat} {es : List TE} {j a : Nat} (ha : kT k es j = a) (hG : lo ≤ G ∧ G < hi) (hb2 : Below wr.heap.size wr w2) (hne : ∀ i, i < es.length → G < (tex es i).lo) (hst : USt w lo hi k G es j wr) :
    Blk w2 G 55 (arr (3 * es.length) (ucell k es j)) ∧
    Blk ((w2.setCell ⟨G, j * 3, none⟩ (.string (mt a))).setCell ⟨G, j * 3 + 1, none⟩ (.int .i64 ((a : Int) + 1))) G 55 (arr (3 * es.length) (ucell k es (j + 1))) ∧ URows k es j ((w2.setCell ⟨G, j * 3, none⟩ (.string (mt a))).setCell ⟨G, j * 3 + 1, none⟩ (.int .i64 ((a : Int) + 1))) ∧ Within lo hi w ((w2.setCell ⟨G, j * 3, none⟩ (.string (mt a))).setCell ⟨G, j * 3 + 1, none⟩ (.int .i64 ((a : Int) + 1))) := by
  obtain ⟨hB, hR, hW⟩ := hst
  subst ha
  have B2 := hB.on hb2
  have B3 := (B2.set_ (j * 3) (.string (mt (kT k es j)))).set_ (j * 3 + 1) (.int .i64 ((kT k es j : Int) + 1))
  rw [arr_set, arr_set, arr_congr (fun q _ => ucell_next k es j q)] at B3
  have hgr := grown_trans (grown_setCell w2 G (j * 3) (.string (mt (kT k es j)))) (grown_setCell _ G (j * 3 + 1) (.int .i64 ((kT k es j : Int) + 1)))
  have hwi : Within G (G + 1) w2 _ := Within.of_grown hgr (.inl ⟨Nat.le_refl _, Nat.lt_succ_self _⟩)
  refine ⟨B2, B3, (hR.on hb2).within hwi (fun i hi => .inr (hne i hi)), (hW.trans (bel_within hb2)).trans (hwi.wide hG.1 hG.2)⟩
/-- Behind the rows' marking. -/
theorem u_next {w w3 w4 : World} {lo hi k G : Nat} {es : List TE} {j : Nat} (hlt : j < es.length) (B3 : Blk w3 G 55 (arr (3 * es.length) (ucell k es (j + 1)))) (R3 : URows k es j w3) (W3 : Within lo hi w w3)
    (hO4 : RIn w4 (tex es j).lo (tex es j).hi (tex es j).v (mkE k es j)) (hw4 : Within (tex es j).lo (tex es j).hi w3 w4) (hG : G < (tex es j).lo) (hlo : lo ≤ (tex es j).lo) (hhi : (tex es j).hi ≤ hi) (hle : (tex es j).lo ≤ (tex es j).hi)
    (hne : ∀ i, i < es.length → i ≠ j → (tex es i).hi ≤ (tex es j).lo ∨ (tex es j).hi ≤ (tex es i).lo) : USt w lo hi k G es (j + 1) w4 := by
  refine ⟨B3.within hw4 (.inl hG), fun i hi' => ?_, W3.trans (hw4.wide hlo hhi)⟩
  by_cases e : i = j
  · subst e; rw [if_pos (Nat.lt_succ_self _)]; exact hO4
  · have := (R3 i hi').within hw4 (hne i hi' e)
    by_cases hij : i < j
    · rw [if_pos (by omega)]; rwa [if_pos hij] at this
    · rw [if_neg (by omega)]; rwa [if_neg hij] at this
set_option maxRecDepth 100000 in
set_option maxHeartbeats 4000000 in
theorem markTableS_any (A : Option Addr) (c k lo hi : Nat) (es : List TE) (ts : List TB) (w : World) (hO : OwnT w lo hi A es) (hd : es.map TE.t = ts) (hf : fitT 1048576 ts) (hl : es.length ≤ 1048576) (hk : kT k es es.length ≤ 1000000000) (hk1 : 1 ≤ k) :
    Calls Tryz.prog 13 #[.slice A es.length c, .int .i64 k] w fun e w' => e = .returned (.int .i64 (kT k es es.length)) ∧ MarkedT w' lo hi k A es ∧ Within lo hi w w' := by
  by_cases h0 : 0 < es.length
  · obtain ⟨hhw, hO⟩ := hO
    obtain ⟨G, rfl, hG, hGh, hB, hr⟩ := hO h0
    have HG := Lib.hid (show ∀ j, j < es.length → G < (tex es j).lo ∧ (tex es j).lo ≤ (tex es j).hi ∧ (tex es j).hi ≤ hi from fun j hj => (hr.1 _ (tex_mem es j hj)).2)
    have HP := Lib.hid (show ∀ i j, i < es.length → j < es.length → i ≠ j → (tex es i).hi ≤ (tex es j).lo ∨ (tex es j).hi ≤ (tex es i).lo from fun i j hi' hj hne => by
      rw [tex_eq es i hi', tex_eq es j hj]
      have hp := hr.2
      rw [List.pairwise_iff_getElem] at hp
      rcases Nat.lt_or_gt_of_ne hne with h | h
      · exact .inl (hp i j hi' hj h)
      · exact .inr (hp j i hj hi' h))
    have HF := Lib.hid (show ∀ j, j < es.length → (tex es j).es.length ≤ 1048576 ∧ ∀ e ∈ (tex es j).es, e.r.length ≤ 1048576 from fun j hj => by
      have hx := tex_t hd hj
      have hfj := hf j (by rw [← hd]; simpa using hj)
      rw [hx] at hfj
      have e1 : (tex es j).t.rows = (tex es j).es.map Ent.r := rfl
      rw [e1] at hfj
      exact ⟨by simpa using hfj.2.1, ents_rr rfl hfj.2.2⟩)
    have hst : USt w lo hi k G es 0 w := ⟨by
      have : arr (3 * es.length) (ucell k es 0) = arr (3 * es.length) (tcell es) := arr_congr fun q _ => by unfold ucell; rw [if_neg (by omega)]
      rw [this]; exact hB, fun j hj => by rw [if_neg (by omega)]; exact (hr.1 _ (tex_mem es j hj)).1, Within.refl _ _ _⟩
    have HM := Lib.hid (show ∀ j, j ≤ es.length → kT k es j ≤ 1000000000 ∧ 1 ≤ kT k es j from fun j hj => ⟨Nat.le_trans (kT_mono k es hj) hk, Nat.le_trans hk1 (kT_mono k es (i := 0) (Nat.zero_le j))⟩)
    clear hO hB hr hf hd hk hk1
    go_enter Tryz.func13, Tryz.ntmps13
    go_wp2
    go_loopw [1, 5] (fun q i wr => ∃ j : Nat, j ≤ es.length ∧ i = .int .i64 j ∧ q = .int .i64 (kT k es j) ∧ USt w lo hi k G es j wr) (fun _ i _ => es.length - (intOf i).toNat)
    case atStart => exact ⟨0, Nat.zero_le _, rfl, rfl, hst⟩
    case round =>
      obtain ⟨j, hj, rfl, hq, hst⟩ := hrel
      obtain ⟨a, ha⟩ : ∃ a, kT k es j = a := ⟨_, rfl⟩
      have hab := HM.out j hj
      rw [ha] at hab hq
      subst hq
      have HA := Lib.hid ha
      by_cases hlt : j < es.length
      · have HST := Lib.hid hst
        have hN := HM.out (j + 1) (by omega)
        obtain ⟨g1, g2, g3⟩ := HG.out j hlt
        obtain ⟨q1, q2⟩ := HF.out j hlt
        have HQ2 := Lib.hid q2
        have HCT := Lib.hid (show ∀ W, Calls Tryz.prog 32 #[.int .i64 (a : Int)] W fun e w' => e = .returned (.string (mt a)) ∧ Below W.heap.size W w' from fun W => markText_any a W (by omega) (by omega))
        have hwa : IntKind.i64.wrap ((a : Int) + 1) = (a : Int) + 1 := by rw [IntKind.wrap_i64]; omega
        have hwb : IntKind.i64.wrap ((a : Int) + 1 + 1) = (a : Int) + 1 + 1 := by rw [IntKind.wrap_i64]; omega
        have hwc : IntKind.i64.wrap ((a : Int) + 2) = (a : Int) + 2 := by rw [IntKind.wrap_i64]; omega
        clear hst ha q2
        go_wp2_with fail
        refine (HCT.out wr).mono ?_
        rintro e w2 ⟨rfl, hb2⟩
        obtain ⟨B2, B3, R3, W3⟩ := u_step HA.out ⟨hG, hGh⟩ hb2 (fun i hi' => (HG.out i hi').1) HST.out
        have c0 : w2.cell? ⟨G, j * 3, none⟩ = some (.string (tex es j).n) := by
          rw [B2.cell, arr_get _ (by omega)]
          unfold ucell
          rw [if_neg (by omega), tcell_0]
        have c1 : w2.cell? ⟨G, j * 3 + 1, none⟩ = some (.int .i64 (tex es j).wd) := by
          rw [B2.cell, arr_get _ (by omega)]
          unfold ucell
          rw [if_neg (by omega), tcell_1]
        have f0 := B2.frozen (j * 3)
        have f1 := B2.frozen (j * 3 + 1)
        have c2 : ((w2.setCell ⟨G, j * 3, none⟩ (.string (mt a))).setCell ⟨G, j * 3 + 1, none⟩ (.int .i64 ((a : Int) + 1))).cell? ⟨G, j * 3 + 2, none⟩ = some (.slice (tex es j).A (tex es j).es.length (tex es j).c) := by rw [B3.cell, arr_get _ (by omega), ucell_2]
        clear hb2 B2 HST
        go_wp2_with fail
        generalize (w2.setCell ⟨G, j * 3, none⟩ (.string (mt a))).setCell ⟨G, j * 3 + 1, none⟩ (.int .i64 ((a : Int) + 1)) = w3 at *
        have hR3 := R3 j hlt
        rw [if_neg (Nat.lt_irrefl _)] at hR3
        refine (markInt64SS_own (tex es j).lo (tex es j).hi (tex es j).A (tex es j).es.length (tex es j).c (tex es j).es ((a : Int) + 1 + 1) w3 hR3 (by omega) (fun e he => by have := HQ2.out e he; omega) (by omega) (by omega)).mono ?_
        rintro e w4 ⟨rfl, hO4, hw4⟩
        have hO4' : RIn w4 (tex es j).lo (tex es j).hi (tex es j).v (mkE k es j) := by
          unfold mkE
          rw [HA.out, show ((a + 2 : Nat) : Int) = (a : Int) + 1 + 1 by omega]; exact hO4
        have HN := Lib.hid (u_next hlt B3 R3 W3 hO4' hw4 g1 (by omega) g3 g2 (fun i hi' hne => HP.out i j hi' hlt hne))
        have HKN := Lib.hid (show kR ((a : Int) + 1 + 1) (tex es j).es (tex es j).es.length = ((kT k es (j + 1) : Nat) : Int) by rw [kR_all]; simp only [kT, HA.out]; omega)
        rw [HKN.out]
        clear c0 c1 f0 f1 c2 B3 R3 W3 hO4 hO4' hw4 hR3 hwa hwb hwc
        go_wp2
        go_roundw
        case rel => exact ⟨j + 1, by omega, by go_num, rfl, HN.out⟩
        case measure => simp [intOf]; omega
      · obtain rfl : j = es.length := by omega
        have HM2 := Lib.hid (show MarkedT wr lo hi k (some ⟨G, 0, none⟩) es from ⟨Nat.le_trans hhw hst.2.2.size, fun _ => ⟨G, rfl, hG, hGh, hst.1, hst.2.1, fun j hj => ⟨by have := (HG.out j hj).1; omega, (HG.out j hj).2.2⟩⟩⟩)
        have hW := hst.2.2
        clear hst
        go_wp2
        go_ret
        exact ⟨by rw [HA.out]; rfl, HM2.out, hW⟩
  · have hn : es = [] := List.length_eq_zero_iff.1 (by omega)
    subst hn
    have hhw := hO.1
    go_enter Tryz.func13, Tryz.ntmps13
    go_wp2
    go_loopw [1, 5] (fun q i wr => i = .int .i64 0 ∧ q = .int .i64 k ∧ wr = w) (fun _ i _ => 0)
    case atStart => exact ⟨rfl, rfl, rfl⟩
    case round =>
      obtain ⟨rfl, rfl, rfl⟩ := hrel
      go_wp2
      go_ret
      exact ⟨rfl, ⟨hhw, fun h => absurd h (by simp)⟩, Within.refl _ _ _⟩
end Go.Proofs.YtdjoiehknpfigaaGreat

/- Whether the marks of a base of the call's own are held: the laws' heldTableS; nothing that lay has turned. -/
namespace Go.Proofs.YtdjoiehknpfigaaGreat
open Go.RowKit

set_option maxRecDepth 100000 in
set_option maxHeartbeats 4000000 in
theorem heldTableS_any (A : Option Addr) (c k lo hi : Nat) (es : List TE) (ts : List TB) (w : World) (hM : MarkedT w lo hi k A es) (hd : es.map TE.t = ts) (hf : fitT 1048576 ts) (hl : es.length ≤ 1048576) (hk : kT k es es.length ≤ 1000000000) (hk1 : 1 ≤ k) :
    Calls Tryz.prog 15 #[.slice A es.length c, .int .i64 k] w fun e w' => e = .returned (.int .i64 (kT k es es.length)) ∧ Below w.heap.size w w' := by
  have HF := Lib.hid (show ∀ j, j < es.length → (tex es j).es.length ≤ 1048576 ∧ ∀ e ∈ (tex es j).es, e.r.length ≤ 1048576 from fun j hj => by
    have hx := tex_t hd hj
    have hfj := hf j (by rw [← hd]; simpa using hj)
    rw [hx] at hfj
    have e1 : (tex es j).t.rows = (tex es j).es.map Ent.r := rfl
    rw [e1] at hfj
    exact ⟨by simpa using hfj.2.1, ents_rr rfl hfj.2.2⟩)
  have HM := Lib.hid (show ∀ j, j ≤ es.length → kT k es j ≤ 1000000000 ∧ 1 ≤ kT k es j from fun j hj => ⟨Nat.le_trans (kT_mono k es hj) hk, Nat.le_trans hk1 (kT_mono k es (i := 0) (Nat.zero_le j))⟩)
  clear hf hd hk hk1
  go_enter Tryz.func15, Tryz.ntmps15
  go_wp2
  go_loopw [1, 5] (fun q i wr => ∃ j : Nat, j ≤ es.length ∧ i = .int .i64 j ∧ q = .int .i64 (kT k es j) ∧ Below w.heap.size w wr) (fun _ i _ => es.length - (intOf i).toNat)
  case atStart => exact ⟨0, Nat.zero_le _, rfl, rfl, Below.refl _ _⟩
  case round =>
    obtain ⟨j, hj, rfl, hq, hW⟩ := hrel
    obtain ⟨a, ha⟩ : ∃ a, kT k es j = a := ⟨_, rfl⟩
    have hab := HM.out j hj
    rw [ha] at hab hq
    subst hq
    have HA := Lib.hid ha
    have hMr := hM.on hW
    clear hM ha
    by_cases hlt : j < es.length
    · obtain ⟨G, rfl, _, _, hB, hr, _⟩ := hMr.2 (by omega)
      have hGl := hB.lt
      have c0 : wr.cell? ⟨G, j * 3, none⟩ = some (.string (mt a)) := by rw [hB.cell, arr_get _ (by omega), ucell_0 k es hlt, HA.out]
      have c1 : wr.cell? ⟨G, j * 3 + 1, none⟩ = some (.int .i64 ((a : Int) + 1)) := by rw [hB.cell, arr_get _ (by omega), ucell_1 k es hlt, HA.out]
      have c2 : wr.cell? ⟨G, j * 3 + 2, none⟩ = some (.slice (tex es j).A (tex es j).es.length (tex es j).c) := by rw [hB.cell, arr_get _ (by omega), ucell_2]
      have hrj := hr j hlt
      rw [if_pos hlt] at hrj
      obtain ⟨q1, q2⟩ := HF.out j hlt
      have HQ2 := Lib.hid q2
      have hN := HM.out (j + 1) (by omega)
      have HCT := Lib.hid (show ∀ W, Calls Tryz.prog 32 #[.int .i64 (a : Int)] W fun e w' => e = .returned (.string (mt a)) ∧ Below W.heap.size W w' from fun W => markText_any a W (by omega) (by omega))
      obtain ⟨T, hT⟩ : ∃ T, mt a = T := ⟨_, rfl⟩
      rw [hT] at c0 HCT
      have hwa : IntKind.i64.wrap ((a : Int) + 1) = (a : Int) + 1 := by rw [IntKind.wrap_i64]; omega
      have hwb : IntKind.i64.wrap ((a : Int) + 1 + 1) = (a : Int) + 1 + 1 := by rw [IntKind.wrap_i64]; omega
      have hwc : IntKind.i64.wrap ((a : Int) + 2) = (a : Int) + 2 := by rw [IntKind.wrap_i64]; omega
      have hji : (j : Int) < (es.length : Int) := by omega
      have d0 := cell_bel hGl c0
      have HC1 := Lib.hid c1
      have HC2 := Lib.hid c2
      clear hB hr hT hMr q2 c0 c1 c2
      go_wp2_with fail
      refine wp_quiet_bel (by kernel_rfl) (by kernel_rfl) ?_
      repeat (go_big_quiet_step (first | (go_at_call 32; exact bel_of (HCT.out _))))
      refine wpQuiet_nil ?_
      rintro w1 ⟨⟨_, hk1⟩, rfl⟩
      have e1 := (hk1.cell hGl).trans HC1.out
      have e2 := (hk1.cell hGl).trans HC2.out
      have hr1 := hrj.on hk1
      have hW1 := bel_step hW hk1
      have hR1 : Rws w1 w1.heap.size (tex es j).A ((mkTo ((a : Int) + 1 + 1) (tex es j).es (tex es j).es.length).map Ent.r) := by
        have : mkE k es j = mkTo ((a : Int) + 1 + 1) (tex es j).es (tex es j).es.length := by
          unfold mkE
          rw [HA.out, show ((a + 2 : Nat) : Int) = (a : Int) + 1 + 1 by omega]
        rw [this] at hr1
        exact RIn.rwsK hr1 (fun e he => by have := HQ2.out e he; omega)
      clear d0 hk1 hrj hr1 hW HC1 HC2
      have HKN := Lib.hid (show kR ((a : Int) + 1 + 1) (tex es j).es (tex es j).es.length = ((kT k es (j + 1) : Nat) : Int) by rw [kR_all]; simp only [kT, HA.out]; omega)
      have haa : (((a : Int) + 1) != ((a : Int) + 1)) = false := by simp
      go_wp2_with fail
      refine (heldInt64SS_any (tex es j).A (tex es j).es.length (tex es j).c w1.heap.size (tex es j).es ((a : Int) + 1 + 1) w1 rfl hR1 (by omega) (fun e he => by have := HQ2.out e he; omega) (by omega) (by omega)).mono ?_
      rintro e w2 ⟨rfl, hw2⟩
      subst hw2
      rw [HKN.out]
      have hnn : decide (((kT k es (j + 1) : Nat) : Int) < 0) = false := by simp
      generalize hkn : kT k es (j + 1) = kn at *
      have HKJ := Lib.hid hkn
      clear hkn e1 e2 hR1 hwa hwb hwc
      go_wp2
      go_roundw
      case rel => exact ⟨j + 1, by omega, by go_num, by rw [HKJ.out], hW1⟩
      case measure => simp [intOf]; omega
    · obtain rfl : j = es.length := by omega
      go_wp2
      go_ret
      exact ⟨by rw [HA.out]; rfl, hW⟩
end Go.Proofs.YtdjoiehknpfigaaGreat
