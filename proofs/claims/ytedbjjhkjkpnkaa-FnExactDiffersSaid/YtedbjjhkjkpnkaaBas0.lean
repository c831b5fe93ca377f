/- Bases in memory: a slice of tables read as a list, of the call's own or one that came in; words and laws. No condition; of the program only types are named. -/
import Derived.Test.YtedbjjhkjkpnkaaJC
import Derived.Test.YtedbjjhkjkpnkaaTabFit
import Derived.Test.YtedbjjhkjkpnkaaArr0
namespace Go.Proofs.Ytedbjjhkjkpnkaa
open Go.ChangeShapes Go.WideShapes Go.ChangeAt Go.RowKit Go.Deep

/-- A table as it is meant. -/
structure TB where
  n : ByteArray
  wd : Int
  rows : List (List Int)
def zeroT : TB := ⟨⟨#[]⟩, 0, []⟩
instance : Inhabited TB := ⟨zeroT⟩
theorem le_sum : ∀ {l : List Nat} {x : Nat}, x ∈ l → x ≤ l.sum
  | y :: l, x, h => by
    rcases List.mem_cons.1 h with rfl | h
    · simp
    · have := le_sum h; simp; omega
def tx (ts : List TB) (j : Nat) : TB := ts[j]?.getD zeroT
theorem tx_eq (ts : List TB) (j : Nat) (h : j < ts.length) : tx ts j = ts[j] := by simp [tx, h]
theorem tx_mem {ts : List TB} {j : Nat} (h : j < ts.length) : tx ts j ∈ ts := by rw [tx_eq ts j h]; exact List.getElem_mem h
def TB.ok (t : TB) : Bool := tabB t.n t.wd t.rows

/-! ### sizes -/
def rsum (rows : List (List Int)) : Nat := (rows.map List.length).sum
theorem rsum_take {rows : List (List Int)} {k : Nat} (h : k < rows.length) : rsum (rows.take (k + 1)) = rsum (rows.take k) + (rr rows k).length := by
  unfold rsum
  rw [List.take_succ_eq_append_getElem h, List.map_append, List.sum_append_nat, ← rr_eq h]; simp
theorem rsum_ge {rows : List (List Int)} : ∀ j, j < rows.length → (rr rows j).length ≤ rsum rows := fun j hj => by
  unfold rsum
  rw [rr_eq hj]
  exact le_sum (List.mem_map.2 ⟨_, List.getElem_mem hj, rfl⟩)
def tw (t : TB) : Nat := t.n.size + t.rows.length + rsum t.rows
def twS (ts : List TB) : Nat := (ts.map tw).sum
theorem twS_take {ts : List TB} {k : Nat} (h : k < ts.length) : twS (ts.take (k + 1)) = twS (ts.take k) + tw (tx ts k) := by
  unfold twS
  rw [List.take_succ_eq_append_getElem h, List.map_append, List.sum_append_nat, ← tx_eq ts k h]; simp
theorem twS_ge {ts : List TB} : ∀ j, j < ts.length → tw (tx ts j) ≤ twS ts := fun j hj => by
  unfold twS
  rw [tx_eq ts j hj]
  exact le_sum (List.mem_map.2 ⟨_, List.getElem_mem hj, rfl⟩)
/-- No name, no list of rows, no row is longer than m. -/
def fitT (m : Nat) (ts : List TB) : Prop := ∀ j, j < ts.length → (tx ts j).n.size ≤ m ∧ (tx ts j).rows.length ≤ m ∧ ∀ i, i < (tx ts j).rows.length → (rr (tx ts j).rows i).length ≤ m
theorem fitT_of {m : Nat} {ts : List TB} (h : twS ts ≤ m) : fitT m ts := fun j hj => by
  have h1 := twS_ge j hj
  unfold tw at h1
  exact ⟨by omega, by omega, fun i hi => by have := rsum_ge i hi; omega⟩

/-! ### in memory -/
/-- The slice value '.slice A ts.length c' reads as these tables. -/
def Tabs (w : World) (B : Nat) (A : Option Addr) (ts : List TB) : Prop :=
  0 < ts.length → ∃ b off, A = some ⟨b, off, none⟩ ∧ b < B ∧ ∀ j, j < ts.length → ∃ Ar cr, w.cell? ⟨b, off + j * 3, none⟩ = some (.string (tx ts j).n) ∧ w.cell? ⟨b, off + j * 3 + 1, none⟩ = some (.int .i64 (tx ts j).wd) ∧ w.cell? ⟨b, off + j * 3 + 2, none⟩ = some (.slice Ar (tx ts j).rows.length cr) ∧ Rws w B Ar (tx ts j).rows
section
variable {w w' : World} {B B' : Nat} {A : Option Addr} {ts : List TB}
theorem Tabs.below (h : Tabs w B A ts) (hb : Below B w w') : Tabs w' B A ts := fun hn => by
  obtain ⟨b, off, e, hlt, hc⟩ := h hn
  refine ⟨b, off, e, hlt, fun j hj => ?_⟩
  obtain ⟨Ar, cr, h1, h2, h3, h4⟩ := hc j hj
  exact ⟨Ar, cr, (hb.cell hlt).trans h1, (hb.cell hlt).trans h2, (hb.cell hlt).trans h3, h4.below hb⟩
theorem Tabs.more (h : Tabs w B A ts) (hB : B ≤ B') : Tabs w B' A ts := fun hn => by
  obtain ⟨b, off, e, hlt, hc⟩ := h hn
  refine ⟨b, off, e, Nat.lt_of_lt_of_le hlt hB, fun j hj => ?_⟩
  obtain ⟨Ar, cr, h1, h2, h3, h4⟩ := hc j hj
  exact ⟨Ar, cr, h1, h2, h3, h4.more hB⟩
theorem Tabs.on (h : Tabs w w.heap.size A ts) (hb : Below w.heap.size w w') : Tabs w' w'.heap.size A ts := (h.below hb).more hb.size
theorem Tabs.drewN (h : Tabs w B A ts) (n : Nat) : Tabs (w.drewN n) B A ts := h
theorem Tabs.nil (w : World) (B : Nat) (A : Option Addr) : Tabs w B A [] := fun h => absurd h (by simp)
theorem Tabs.here (h : Tabs w B A ts) {j : Nat} (hj : j < ts.length) : ∃ b off Ar cr, A = some ⟨b, off, none⟩ ∧ b < B ∧ w.cell? ⟨b, off + j * 3, none⟩ = some (.string (tx ts j).n) ∧ w.cell? ⟨b, off + j * 3 + 1, none⟩ = some (.int .i64 (tx ts j).wd) ∧ w.cell? ⟨b, off + j * 3 + 2, none⟩ = some (.slice Ar (tx ts j).rows.length cr) ∧ Rws w B Ar (tx ts j).rows := by
  obtain ⟨b, off, e, hlt, hc⟩ := h (by omega)
  obtain ⟨Ar, cr, h1, h2, h3, h4⟩ := hc j hj
  exact ⟨b, off, Ar, cr, e, hlt, h1, h2, h3, h4⟩
end
/-- The same, of tables that came in. -/
def RawTabs (w : World) (B : Nat) (A : Option Addr) (ts : List TB) : Prop :=
  0 < ts.length → ∃ b off, A = some ⟨b, off, none⟩ ∧ b < B ∧ ∀ j, j < ts.length → ∃ Ar cr, w.cell? ⟨b, off + j * 3, none⟩ = some (.string (tx ts j).n) ∧ w.cell? ⟨b, off + j * 3 + 1, none⟩ = some (.int .i64 (tx ts j).wd) ∧ w.cell? ⟨b, off + j * 3 + 2, none⟩ = some (.slice Ar (tx ts j).rows.length cr) ∧ RawRows w B Ar (tx ts j).rows ∧ (tx ts j).rows.length ≤ maxLen ∧ (tx ts j).n.size ≤ maxLen
theorem RawTabs.on {w w' : World} {A : Option Addr} {ts : List TB} (h : RawTabs w w.heap.size A ts) (hb : Below w.heap.size w w') : RawTabs w' w'.heap.size A ts := fun hn => by
  obtain ⟨b, off, e, hlt, hc⟩ := h hn
  refine ⟨b, off, e, Nat.lt_of_lt_of_le hlt hb.size, fun j hj => ?_⟩
  obtain ⟨Ar, cr, h1, h2, h3, h4, h5⟩ := hc j hj
  exact ⟨Ar, cr, (hb.cell hlt).trans h1, (hb.cell hlt).trans h2, (hb.cell hlt).trans h3, h4.on hb, h5⟩
theorem RawTabs.tabs {w : World} {A : Option Addr} {ts : List TB} (h : RawTabs w w.heap.size A ts) (hf : fitT 1048576 ts) : Tabs w w.heap.size A ts := fun hn => by
  obtain ⟨b, off, e, hlt, hc⟩ := h hn
  refine ⟨b, off, e, hlt, fun j hj => ?_⟩
  obtain ⟨Ar, cr, h1, h2, h3, h4, _⟩ := hc j hj
  exact ⟨Ar, cr, h1, h2, h3, h4.rws (fun i hi => by have := (hf j hj).2.2 i hi; omega)⟩

/-! ### of the call's own -/
/-- A table in memory: what it is, between which blocks its rows lie. -/
structure TE where
  n : ByteArray
  wd : Int
  es : List Ent
  A : Option Addr
  c : Nat
  lo : Nat
  hi : Nat
def TE.t (e : TE) : TB := ⟨e.n, e.wd, e.es.map Ent.r⟩
def TE.v (e : TE) : Value := .slice e.A e.es.length e.c
def zeroE : TE := ⟨⟨#[]⟩, 0, [], none, 0, 0, 0⟩
def tex (es : List TE) (j : Nat) : TE := es[j]?.getD zeroE
theorem tex_eq (es : List TE) (j : Nat) (h : j < es.length) : tex es j = es[j] := by simp [tex, h]
theorem tex_mem (es : List TE) (j : Nat) (h : j < es.length) : tex es j ∈ es := by rw [tex_eq es j h]; exact List.getElem_mem h
theorem tex_t {es : List TE} {ts : List TB} (h : es.map TE.t = ts) {j : Nat} (hj : j < es.length) : tx ts j = (tex es j).t := by
  have hj' : j < ts.length := by rw [← h]; simpa using hj
  rw [tx_eq ts j hj', tex_eq es j hj]; simp [← h]
def tcell (es : List TE) (q : Nat) : Value := if q % 3 = 0 then .string (tex es (q / 3)).n else if q % 3 = 1 then .int .i64 (tex es (q / 3)).wd else .slice (tex es (q / 3)).A (tex es (q / 3)).es.length (tex es (q / 3)).c
theorem tcell_0 (es : List TE) (j : Nat) : tcell es (j * 3) = .string (tex es j).n := by unfold tcell; rw [if_pos (by omega), show j * 3 / 3 = j by omega]
theorem tcell_1 (es : List TE) (j : Nat) : tcell es (j * 3 + 1) = .int .i64 (tex es j).wd := by unfold tcell; rw [if_neg (by omega), if_pos (by omega), show (j * 3 + 1) / 3 = j by omega]
theorem tcell_2 (es : List TE) (j : Nat) : tcell es (j * 3 + 2) = .slice (tex es j).A (tex es j).es.length (tex es j).c := by unfold tcell; rw [if_neg (by omega), if_neg (by omega), show (j * 3 + 2) / 3 = j by omega]
/-- The rows of the tables es lie apart, behind block G, ahead of hi. -/
def TEs (w : World) (G hi : Nat) (es : List TE) : Prop := (∀ e ∈ es, RIn w e.lo e.hi e.v e.es ∧ G < e.lo ∧ e.lo ≤ e.hi ∧ e.hi ≤ hi) ∧ es.Pairwise fun a b => a.hi ≤ b.lo
theorem TEs.on {w w' : World} {G hi : Nat} {es : List TE} (h : TEs w G hi es) (hb : Below w.heap.size w w') : TEs w' G hi es := ⟨fun e he => ⟨(h.1 e he).1.on hb, (h.1 e he).2⟩, h.2⟩
theorem TEs.nil (w : World) (G hi : Nat) : TEs w G hi [] := ⟨(fun e he => by cases he), List.Pairwise.nil⟩
theorem TEs.snoc {w : World} {G hi hi' : Nat} {es : List TE} {e : TE} (h : TEs w G hi es) (hh : hi ≤ hi') (he : RIn w e.lo e.hi e.v e.es) (h2 : G < e.lo) (h3 : e.lo ≤ e.hi) (h4 : hi ≤ e.lo) (h5 : e.hi ≤ hi') : TEs w G hi' (es ++ [e]) := by
  refine ⟨fun x hx => ?_, ?_⟩
  · rcases List.mem_append.1 hx with hx | hx
    · exact ⟨(h.1 x hx).1, (h.1 x hx).2.1, (h.1 x hx).2.2.1, Nat.le_trans (h.1 x hx).2.2.2 hh⟩
    · obtain rfl : x = e := by simpa using hx
      exact ⟨he, h2, h3, h5⟩
  · rw [List.pairwise_append]
    refine ⟨h.2, List.pairwise_singleton _ _, fun a ha b hb => ?_⟩
    obtain rfl : b = e := by simpa using hb
    exact Nat.le_trans (h.1 a ha).2.2.2 h4
/-- The slice value '.slice A es.length c' is of the call's own: its tables es, all in blocks from lo on, ahead of hi. -/
def OwnT (w : World) (lo hi : Nat) (A : Option Addr) (es : List TE) : Prop :=
  hi ≤ w.heap.size ∧ (0 < es.length → ∃ G, A = some ⟨G, 0, none⟩ ∧ lo ≤ G ∧ G < hi ∧ Blk w G 28 (arr (3 * es.length) (tcell es)) ∧ TEs w G hi es)
theorem OwnT.on {w w' : World} {lo hi : Nat} {A : Option Addr} {es : List TE} (h : OwnT w lo hi A es) (hb : Below w.heap.size w w') : OwnT w' lo hi A es := ⟨Nat.le_trans h.1 hb.size, fun hn => by
  obtain ⟨G, e, hl, hg, hB, hr⟩ := h.2 hn
  exact ⟨G, e, hl, hg, hB.on hb, hr.on hb⟩⟩
theorem OwnT.drewN {w : World} {lo hi : Nat} {A : Option Addr} {es : List TE} (h : OwnT w lo hi A es) (n : Nat) : OwnT (w.drewN n) lo hi A es := h
/-- Behind a writing into other blocks. -/
theorem OwnT.within {w w' : World} {lo hi lo' hi' : Nat} {A : Option Addr} {es : List TE} (h : OwnT w lo hi A es) (hw : Within lo' hi' w w') (ha : hi ≤ lo' ∨ hi' ≤ lo) : OwnT w' lo hi A es := ⟨Nat.le_trans h.1 hw.size, fun hn => by
  obtain ⟨G, e, hl, hg, hB, hr⟩ := h.2 hn
  refine ⟨G, e, hl, hg, (hw.block G hB.lt (by omega)).trans hB, fun x hx => ⟨(hr.1 x hx).1.within hw ?_, (hr.1 x hx).2⟩, hr.2⟩
  have := (hr.1 x hx).2
  omega⟩
theorem OwnT.nil {w : World} {lo hi : Nat} (A : Option Addr) (h : hi ≤ w.heap.size) : OwnT w lo hi A [] := ⟨h, fun h => absurd h (by simp)⟩
theorem OwnT.tabsB {w : World} {lo hi : Nat} {A : Option Addr} {es : List TE} {ts : List TB} (h : OwnT w lo hi A es) (hd : es.map TE.t = ts) (hf : fitT 1048576 ts) : Tabs w w.heap.size A ts := fun hn => by
  have hl : es.length = ts.length := by rw [← hd, List.length_map]
  obtain ⟨G, e, _, _, hB, hr⟩ := h.2 (by omega)
  refine ⟨G, 0, e, hB.lt, fun j hj => ?_⟩
  have hj' : j < es.length := by omega
  have hx := tex_t hd hj'
  have hm := tex_mem es j hj'
  refine ⟨(tex es j).A, (tex es j).c, ?_, ?_, ?_, ?_⟩
  · rw [Nat.zero_add, hB.cell (j * 3), arr_get _ (by omega), tcell_0, hx]; rfl
  · rw [Nat.zero_add, hB.cell (j * 3 + 1), arr_get _ (by omega), tcell_1, hx]; rfl
  · rw [Nat.zero_add, hB.cell (j * 3 + 2), arr_get _ (by omega), tcell_2, hx]; simp [TE.t]
  · have hfj := hf j hj
    rw [hx] at hfj ⊢
    exact WRows.rws (hr.1 _ hm).1.1 (ents_rr (rows := (tex es j).es.map Ent.r) rfl fun i hi => by have := hfj.2.2 i hi; have e1 : (tex es j).t.rows = (tex es j).es.map Ent.r := rfl; rw [e1] at this; omega)

/-! ### one that came in -/
theorem open_slice3 {H : Type} {enc : TypeId × Value → H} {P : Program} {w : World} {base : Nat} {spare : Nat → Bool} {held : Bool} {t e : TypeId} {f0 f1 f2 : Field} {fuel : Nat} {a : Option Addr} {len cap : Nat} {x : DataW H × List MemPlace} (ht : P.underlying t = some (.slice e)) (he : P.underlying e = some (.struct #[f0, f1, f2]))
    (ce : P.cellsOf e = 3) (o0 : f0.offset = 0) (o1 : f1.offset = 1) (o2 : f2.offset = 2) (c0 : P.cellsOf f0.type = 1) (c1 : P.cellsOf f1.type = 1) (c2 : P.cellsOf f2.type = 1)
    (h : DataW.trod enc P w base spare held fuel t [.slice a len cap] = some x) :
    (a = none ∧ len = 0) ∨ ∃ ad n, a = some ad ∧ len ≤ maxLen ∧ ∀ i, i < len → ∃ v0 v1 v2 y0 y1 y2, w.cell? (ad.add (i * 3)) = some v0 ∧ w.cell? (ad.add (i * 3 + 1)) = some v1 ∧ w.cell? (ad.add (i * 3 + 2)) = some v2 ∧
      DataW.trod enc P w base spare held n f0.type [v0] = some y0 ∧ DataW.trod enc P w base spare held n f1.type [v1] = some y1 ∧ DataW.trod enc P w base spare held n f2.type [v2] = some y2 := by
  rcases open_slice ht h with ⟨hcs, _⟩ | ⟨ad, l, c, m, n, D, Pl, hcs, hb, hl, hm, hmm, rfl, hx⟩
  · simp at hcs
    exact .inl ⟨hcs.1, hcs.2.1⟩
  right
  simp at hcs
  obtain ⟨rfl, rfl, rfl⟩ := hcs
  have hlm : len ≤ m := by rw [hmm]; split <;> omega
  refine ⟨ad, n - 1, rfl, by omega, fun i hi => ?_⟩
  obtain ⟨cs', h1, h2⟩ := hx i (by omega)
  rw [ce] at h1
  obtain ⟨_, hlen, hcell⟩ := World.cells?_some h1
  obtain ⟨xs, k, hk, hxy, _, hxl, hf⟩ := DataW.trod_struct he h2
  have hk' : k = n - 1 := by omega
  subst hk'
  match xs, hxl, cs', hlen with
  | [y0, y1, y2], _, [v0, v1, v2], _ =>
    have g0 := hf 0 f0 rfl
    have g1 := hf 1 f1 rfl
    have g2 := hf 2 f2 rfl
    simp [o0, o1, o2, c0, c1, c2] at g0 g1 g2
    have e0 := hcell 0 (by omega)
    have e1 := hcell 1 (by omega)
    have e2 := hcell 2 (by omega)
    rw [add_add] at e0 e1 e2
    exact ⟨v0, v1, v2, y0, y1, y2, by simpa using e0, by simpa using e1, by simpa using e2, g0, g1, g2⟩
theorem rawTabs_of {H : Type} {enc : TypeId × Value → H} {W : World} {base : Nat} {held : Bool} {fuel : Nat} {a : Option Addr} {len cap : Nat} {x : DataW H × List MemPlace}
    (h : DataW.trod enc Try.prog W base (fun _ => true) held fuel 35 [.slice a len cap] = some x) : ∃ ts : List TB, ts.length = len ∧ RawTabs W W.heap.size a ts ∧ len ≤ maxLen := by
  rcases open_slice3 Try.underlying35 Try.underlying24 (by kernel_rfl) rfl rfl rfl (by kernel_rfl) (by kernel_rfl) (by kernel_rfl) h with ⟨rfl, rfl⟩ | ⟨ad, n, rfl, hm, hat⟩
  · exact ⟨[], rfl, fun h => absurd h (by simp), by decide⟩
  · have hkey : ∀ i, i < len → ∃ y : TB, ∃ Ar cr, W.cell? (ad.add (i * 3)) = some (.string y.n) ∧ W.cell? (ad.add (i * 3 + 1)) = some (.int .i64 y.wd) ∧ W.cell? (ad.add (i * 3 + 2)) = some (.slice Ar y.rows.length cr) ∧ RawRows W W.heap.size Ar y.rows ∧ y.rows.length ≤ maxLen ∧ y.n.size ≤ maxLen := by
      intro i hi
      obtain ⟨v0, v1, v2, y0, y1, y2, k0, k1, k2, t0, t1, t2⟩ := hat i hi
      obtain ⟨s, hv0, _, hs⟩ := DataW.trod_string Try.underlying9 t0
      obtain ⟨wd, hv1, _⟩ := DataW.trod_int Try.underlying2 t1
      obtain ⟨Ar, l2, cr, hv2⟩ : ∃ Ar l2 cr, v2 = .slice Ar l2 cr := by
        rcases open_slice1 Try.underlying22 (by kernel_rfl) t2 with ⟨hcs, _⟩ | ⟨ad, l, c, m, n, V, D, Pl, hcs, _⟩
        · exact ⟨none, 0, 0, by simpa using hcs⟩
        · exact ⟨some ad, l, c, by simpa using hcs⟩
      subst hv2
      obtain ⟨rows, rfl, hR, hrm⟩ := rawRows_of t2
      have e0 : v0 = .string s := by simpa using hv0
      have e1 : v1 = .int .i64 wd := by simpa using hv1
      subst e0 e1
      exact ⟨⟨s, wd, rows⟩, Ar, cr, k0, k1, k2, hR, hrm, hs⟩
    obtain ⟨f, hf⟩ := choose_lt (α := TB) hkey
    have hlen : ((List.range len).map f).length = len := by simp
    have hr : ∀ j, j < len → tx ((List.range len).map f) j = f j := by
      intro j hj
      simp [tx, hj]
    refine ⟨(List.range len).map f, hlen, fun hn => ?_, hm⟩
    have hn' : 0 < len := by rw [hlen] at hn; exact hn
    obtain ⟨b, off, spot⟩ := ad
    obtain ⟨Ar, cp, k0, _⟩ := hf 0 hn'
    have hspot : spot = none := by simpa [Addr.add] using World.cell?_spot k0
    subst hspot
    refine ⟨b, off, rfl, by simpa [Addr.add] using cell_lt k0, fun j hj => ?_⟩
    rw [hlen] at hj
    obtain ⟨Ar, cr, h0, h1, h2, h3⟩ := hf j hj
    rw [add_plain] at h0 h1 h2
    rw [hr j hj]
    exact ⟨Ar, cr, h0, h1, h2, h3⟩
end Go.Proofs.Ytedbjjhkjkpnkaa
