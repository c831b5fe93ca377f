/- The laws' copies of views; nothing that lay has turned. -/
import Derived.Test.YtejgofhpjkebbaaDoorNodL
namespace Go.Proofs.YtejgofhpjkebbaaDoor
open Go.RowKit

/-- A node in memory: what it is, the blocks of its conds and of its places. -/
structure NE where
  d : Nd
  gc : Nat
  gz : Nat
def ncl (e : NE) (r : Nat) : Value := if r = 0 then .int .i64 e.d.k else if r = 1 then .string e.d.n else if r = 2 then .slice (some ⟨e.gc, 0, none⟩) e.d.c.length e.d.c.length else if r = 3 then .slice (some ⟨e.gz, 0, none⟩) e.d.z.length e.d.z.length else .int .i64 e.d.p
def zcl (r : Nat) : Value := if r = 0 then .int .i64 0 else if r = 1 then .string ⟨#[]⟩ else if r = 2 then .slice none 0 0 else if r = 3 then .slice none 0 0 else .int .i64 0
def ncell (es : List NE) (q : Nat) : Value := match es[q / 5]? with | some e => ncl e (q % 5) | none => zcl (q % 5)
theorem ncell_at {es : List NE} {j r : Nat} (hj : j < es.length) (hr : r < 5) : ncell es (j * 5 + r) = ncl es[j] r := by
  unfold ncell
  rw [show (j * 5 + r) / 5 = j by omega, show (j * 5 + r) % 5 = r by omega, List.getElem?_eq_getElem hj]
theorem ncell_out {es : List NE} {j r : Nat} (hj : es.length ≤ j) (hr : r < 5) : ncell es (j * 5 + r) = zcl r := by
  unfold ncell
  rw [show (j * 5 + r) / 5 = j by omega, show (j * 5 + r) % 5 = r by omega, List.getElem?_eq_none hj]
theorem ncell_push (es : List NE) (e : NE) (q : Nat) : (if q = es.length * 5 + 4 then ncl e 4 else if q = es.length * 5 + 3 then ncl e 3 else if q = es.length * 5 + 2 then ncl e 2 else if q = es.length * 5 + 1 then ncl e 1 else if q = es.length * 5 then ncl e 0 else ncell es q) = ncell (es ++ [e]) q := by
  have hq : q = q / 5 * 5 + q % 5 := by omega
  have hr : q % 5 < 5 := Nat.mod_lt _ (by omega)
  generalize q / 5 = j at hq
  generalize q % 5 = r at hq hr
  subst hq
  by_cases hj : j < es.length
  · rw [if_neg (by omega), if_neg (by omega), if_neg (by omega), if_neg (by omega), if_neg (by omega), ncell_at hj hr, ncell_at (by simp; omega) hr]
    rw [List.getElem_append_left hj]
  · by_cases e1 : j = es.length
    · subst e1
      rw [ncell_at (show es.length < (es ++ [e]).length by simp) hr]
      have e2 : (es ++ [e])[es.length]'(by simp) = e := by simp
      rw [e2]
      have h5 : r = 0 ∨ r = 1 ∨ r = 2 ∨ r = 3 ∨ r = 4 := by omega
      rcases h5 with h | h | h | h | h
      · rw [if_neg (by omega), if_neg (by omega), if_neg (by omega), if_neg (by omega), if_pos (by omega), h]
      · rw [if_neg (by omega), if_neg (by omega), if_neg (by omega), if_pos (by omega), h]
      · rw [if_neg (by omega), if_neg (by omega), if_pos (by omega), h]
      · rw [if_neg (by omega), if_pos (by omega), h]
      · rw [if_pos (by omega), h]
    · rw [if_neg (by omega), if_neg (by omega), if_neg (by omega), if_neg (by omega), if_neg (by omega), ncell_out (by omega) hr, ncell_out (by simp; omega) hr]

theorem info_node : (Tryd.prog.info? 50).map (fun i => (i.zero, i.size, i.bytes)) = some (some (.agg #[.int .i64 0, .string ⟨#[]⟩, .slice none 0 0, .slice none 0 0, .int .i64 0]), 5, 80) := by kernel_rfl
theorem make_node (n : Nat) (hn : n ≤ 1099511627776) (w : World) : (Instr.makeSlice 29 (.int .i64 (n : Int)) (.int .i64 (n : Int))).run Tryd.prog w = .ok (.slice (some ⟨w.heap.size, 0, none⟩) n n) (w.alloc (.cells (madeCells #[.int .i64 0, .string ⟨#[]⟩, .slice none 0 0, .slice none 0 0, .int .i64 0] (n * 5)) 50)) := by
  obtain ⟨i, hi, hz, hs, hby⟩ := info_parts info_node
  have := run_make (P := Tryd.prog) w 29 50 i (.agg #[.int .i64 0, .string ⟨#[]⟩, .slice none 0 0, .slice none 0 0, .int .i64 0]) Tryd.underlying29 hi hz .i64 .i64 (n : Int) (n : Int) (by omega) (by omega) (by rw [hby]; omega) (by omega)
  rw [hs] at this
  simpa [Value.cells] using this
theorem made_nodes (n : Nat) : madeCells #[Value.int .i64 0, .string ⟨#[]⟩, .slice none 0 0, .slice none 0 0, .int .i64 0] (n * 5) = arr (5 * n) (ncell []) := by
  apply Array.ext_getElem?
  intro q
  by_cases hq : q < 5 * n
  · rw [arr_get _ hq]
    have hq' : q < n * 5 := by omega
    have h5 : q % 5 = 0 ∨ q % 5 = 1 ∨ q % 5 = 2 ∨ q % 5 = 3 ∨ q % 5 = 4 := by omega
    rcases h5 with h | h | h | h | h
    · simp [madeCells, hq', h, ncell, zcl]
    · simp [madeCells, hq', h, ncell, zcl]
    · simp [madeCells, hq', h, ncell, zcl]
    · simp [madeCells, hq', h, ncell, zcl]
    · simp [madeCells, hq', h, ncell, zcl]
  · rw [Array.getElem?_eq_none (by rw [size_madeCells]; omega), Array.getElem?_eq_none (by simp [arr]; omega)]
/-- The node lies in blocks behind G. -/
def NBk (w : World) (G : Nat) (e : NE) : Prop := CAt w e.gc e.d.c ∧ Blk w e.gz 2 (i64s e.d.z) ∧ G < e.gc ∧ G < e.gz
theorem NBk.on {w w' : World} {G : Nat} {e : NE} (h : NBk w G e) (hb : Below w.heap.size w w') : NBk w' G e := ⟨h.1.on hb, h.2.1.on hb, h.2.2⟩
theorem NBk.set_ {w : World} {G : Nat} {e : NE} (h : NBk w G e) (i : Nat) (u : Value) : NBk (w.setCell ⟨G, i, none⟩ u) G e :=
  ⟨Blk.far h.1 (p := ⟨G, i, none⟩) (by have := h.2.2.1; simp; omega) u, Blk.far h.2.1 (p := ⟨G, i, none⟩) (by have := h.2.2.2; simp; omega) u, h.2.2⟩
/-- A view under way: es stand in the block G of n nodes. -/
def NodSt (w : World) (G n : Nat) (es : List NE) (wr : World) : Prop :=
  Blk wr G 50 (arr (5 * n) (ncell es)) ∧ (∀ e ∈ es, NBk wr G e) ∧ Below w.heap.size w wr
theorem NodSt.on {w wr w' : World} {G n : Nat} {es : List NE} (h : NodSt w G n es wr) (hb : Below wr.heap.size wr w') : NodSt w G n es w' :=
  ⟨h.1.on hb, fun e he => (h.2.1 e he).on hb, bel_step h.2.2 hb⟩
theorem NodSt.push {w wr w3 : World} {G n : Nat} {es : List NE} {e : NE} (h : NodSt w G n es wr) (hG : w.heap.size ≤ G) (hb : Below wr.heap.size wr w3) (he : NBk w3 G e) :
    NodSt w G n (es ++ [e]) (((((w3.setCell ⟨G, es.length * 5, none⟩ (ncl e 0)).setCell ⟨G, es.length * 5 + 1, none⟩ (ncl e 1)).setCell ⟨G, es.length * 5 + 2, none⟩ (ncl e 2)).setCell ⟨G, es.length * 5 + 3, none⟩ (ncl e 3)).setCell ⟨G, es.length * 5 + 4, none⟩ (ncl e 4)) := by
  have h3 := h.on hb
  have B := ((((h3.1.set_ (es.length * 5) (ncl e 0)).set_ (es.length * 5 + 1) (ncl e 1)).set_ (es.length * 5 + 2) (ncl e 2)).set_ (es.length * 5 + 3) (ncl e 3)).set_ (es.length * 5 + 4) (ncl e 4)
  rw [arr_set, arr_set, arr_set, arr_set, arr_set, arr_congr (fun q _ => ncell_push es e q)] at B
  refine ⟨B, fun x hx => ?_, ?_⟩
  · have hx3 : NBk w3 G x := by
      rcases List.mem_append.1 hx with hx | hx
      · exact h3.2.1 x hx
      · obtain rfl : x = e := by simpa using hx
        exact he
    exact ((((hx3.set_ _ _).set_ _ _).set_ _ _).set_ _ _).set_ _ _
  · exact ((((h3.2.2.setCell (p := ⟨G, es.length * 5, none⟩) hG _).setCell (p := ⟨G, es.length * 5 + 1, none⟩) hG _).setCell (p := ⟨G, es.length * 5 + 2, none⟩) hG _).setCell (p := ⟨G, es.length * 5 + 3, none⟩) hG _).setCell (p := ⟨G, es.length * 5 + 4, none⟩) hG _
theorem NodSt.nds {w wr : World} {G : Nat} {es : List NE} {v : List Nd} (h : NodSt w G es.length es wr) (hv : es.map NE.d = v) : Nds wr wr.heap.size (some ⟨G, 0, none⟩) v := fun hn => by
  have hl : es.length = v.length := by rw [← hv, List.length_map]
  refine ⟨G, 0, rfl, h.1.lt, fun j hj => ?_⟩
  have hj' : j < es.length := by omega
  have hx : ndx v j = es[j].d := by rw [ndx_eq v j hj]; simp [← hv]
  obtain ⟨h1, h2, _⟩ := h.2.1 es[j] (List.getElem_mem hj')
  refine ⟨some ⟨es[j].gc, 0, none⟩, es[j].d.c.length, some ⟨es[j].gz, 0, none⟩, es[j].d.z.length, ?_, ?_, ?_, ?_, ?_, ?_, ?_⟩
  · have := ncell_at (es := es) (r := 0) hj' (by omega)
    rw [Nat.zero_add, h.1.cell (j * 5), arr_get _ (by omega), hx]
    exact congrArg some this
  · rw [Nat.zero_add, h.1.cell (j * 5 + 1), arr_get _ (by omega), hx, ncell_at hj' (by omega)]; rfl
  · rw [Nat.zero_add, h.1.cell (j * 5 + 2), arr_get _ (by omega), hx, ncell_at hj' (by omega)]; rfl
  · rw [Nat.zero_add, h.1.cell (j * 5 + 3), arr_get _ (by omega), hx, ncell_at hj' (by omega)]; rfl
  · rw [Nat.zero_add, h.1.cell (j * 5 + 4), arr_get _ (by omega), hx, ncell_at hj' (by omega)]; rfl
  · rw [hx]; exact h1.cnds
  · rw [hx]; exact h2.ints
/-- A view that the laws copied. -/
def ViewAt (v : List Nd) (w : World) (e : Ending) (w' : World) : Prop :=
  ∃ A c, e = .returned (.slice A v.length c) ∧ Nds w' w'.heap.size A v ∧ Below w.heap.size w w'
set_option maxRecDepth 100000 in
set_option maxHeartbeats 4000000 in
theorem toNodeS_any (A : Option Addr) (c : Nat) (v : List Nd) (w : World) (hT : Nds w w.heap.size A v) (hf : fitN 1048576 v) (hl : v.length ≤ 1048576) :
    Calls Tryd.prog 8 #[.slice A v.length c] w (ViewAt v w) := by
  have hmk := fun wx => make_node v.length (by omega) wx
  have HFT := Lib.hid hf
  have bc := (Below.refl w.heap.size w).alloc (Nat.le_refl _) (.cells (madeCells #[Value.int .i64 0, .string ⟨#[]⟩, .slice none 0 0, .slice none 0 0, .int .i64 0] (v.length * 5)) 50)
  have BM := Blk.new w 50 (madeCells #[Value.int .i64 0, .string ⟨#[]⟩, .slice none 0 0, .slice none 0 0, .int .i64 0] (v.length * 5))
  rw [made_nodes] at BM bc
  have st0 : NodSt w w.heap.size v.length [] (w.alloc (.cells (arr (5 * v.length) (ncell [])) 50)) := ⟨BM, (fun e he => by cases he), bc⟩
  clear bc BM hf
  go_enter Tryd.func8, Tryd.ntmps8
  go_wp2
  clear hmk
  rw [made_nodes]
  generalize w.alloc (.cells (arr (5 * v.length) (ncell [])) 50) = wb at *
  obtain ⟨G, hG⟩ : ∃ G, w.heap.size = G := ⟨_, rfl⟩
  have HG := Lib.hid hG
  rw [hG] at st0 ⊢
  clear hG
  go_loopw [4] (fun i wr => ∃ (k : Nat) (es : List NE), k ≤ v.length ∧ i = .int .i64 k ∧ es.length = k ∧ es.map NE.d = v.take k ∧ NodSt w G v.length es wr) (fun i _ => v.length - (intOf i).toNat)
  case atStart => exact ⟨0, [], Nat.zero_le _, rfl, rfl, by simp, st0⟩
  case round =>
    obtain ⟨k, es, hk, rfl, hel, he, hst⟩ := hrel
    have HE := Lib.hid he
    have HEL := Lib.hid hel
    clear he st0 hel
    by_cases hlt : k < v.length
    · have hTr := hT.on hst.2.2
      obtain ⟨b, off, Ac, cc, Az, cz, rfl, hb, c0, c1, c2, c3, c4, hC, hZ⟩ := hTr.here hlt
      have HST := Lib.hid hst
      clear hst hT hTr
      go_wp2_with fail
      refine (toNode_any (ndx v k) Ac cc Az cz wr hC hZ (HFT.out k hlt)).mono ?_
      rintro e w1 ⟨gc, gz, rfl, hgc, hgz, hC1, hZ1, hb1⟩
      have hGl := Blk.lt HST.out.1
      have hst1 := HST.out.push (e := ⟨ndx v k, gc, gz⟩) (by rw [HG.out]; exact Nat.le_refl _) hb1 ⟨hC1, hZ1, by show G < gc; omega, by show G < gz; omega⟩
      have B1 := (HST.out.on hb1).1
      have m0 : w1.cell? ⟨G, k * 5, none⟩ = some (ncell es (k * 5)) := by rw [B1.cell, arr_get _ (by omega)]
      have m1 : w1.cell? ⟨G, k * 5 + 1, none⟩ = some (ncell es (k * 5 + 1)) := by rw [B1.cell, arr_get _ (by omega)]
      have m2 : w1.cell? ⟨G, k * 5 + 2, none⟩ = some (ncell es (k * 5 + 2)) := by rw [B1.cell, arr_get _ (by omega)]
      have m3 : w1.cell? ⟨G, k * 5 + 3, none⟩ = some (ncell es (k * 5 + 3)) := by rw [B1.cell, arr_get _ (by omega)]
      have m4 : w1.cell? ⟨G, k * 5 + 4, none⟩ = some (ncell es (k * 5 + 4)) := by rw [B1.cell, arr_get _ (by omega)]
      have fr0 := B1.frozen (k * 5)
      have fr1 := B1.frozen (k * 5 + 1)
      have fr2 := B1.frozen (k * 5 + 2)
      have fr3 := B1.frozen (k * 5 + 3)
      have fr4 := B1.frozen (k * 5 + 4)
      rw [HEL.out] at hst1
      have HS := Lib.hid hst1
      have HP := Lib.hid (show (es ++ [(⟨ndx v k, gc, gz⟩ : NE)]).map NE.d = v.take (k + 1) by
        rw [List.map_append, HE.out, List.take_succ_eq_append_getElem hlt, ← ndx_eq v k hlt]; rfl)
      have HL := Lib.hid (show (es ++ [(⟨ndx v k, gc, gz⟩ : NE)]).length = k + 1 by rw [List.length_append, HEL.out]; rfl)
      clear hst1 HST B1 hC1 hZ1 hb1 c0 c1 c2 c3 c4 hC hZ HE HEL
      generalize ncell es (k * 5) = y0 at *
      generalize ncell es (k * 5 + 1) = y1 at *
      generalize ncell es (k * 5 + 2) = y2 at *
      generalize ncell es (k * 5 + 3) = y3 at *
      generalize ncell es (k * 5 + 4) = y4 at *
      go_wp2
      go_roundw
      case rel => exact ⟨k + 1, _, by omega, by go_num, HL.out, HP.out, HS.out⟩
      case measure => simp [intOf]; omega
    · have hd : decide (k < v.length) = false := by simpa using hlt
      have hkk : k = v.length := by omega
      have HO := Lib.hid (show Nds wr wr.heap.size (some ⟨G, 0, none⟩) v by
        refine NodSt.nds (w := w) (es := es) ?_ (by rw [HE.out, hkk, List.take_length])
        rw [HEL.out, hkk]; exact hst)
      have hW := hst.2.2
      clear hst hkk
      go_wp2
      go_ret
      exact ⟨_, _, rfl, HO.out, hW⟩
end Go.Proofs.YtejgofhpjkebbaaDoor
