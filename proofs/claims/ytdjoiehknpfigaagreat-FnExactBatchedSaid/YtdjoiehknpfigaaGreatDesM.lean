/- Lists of deeds: one that came in, its size, the laws' copy, comparison and marking; nothing that lay has turned. -/
import Derived.Test.YtdjoiehknpfigaaGreatDes0
import Derived.Test.YtdjoiehknpfigaaGreatJZA
import Derived.Test.YtdjoiehknpfigaaGreatBas3
import Derived.StillTailTactics
namespace Go.Proofs.YtdjoiehknpfigaaGreat
open Go.ChangeShapes Go.WideShapes Go.ChangeAt Go.RowKit Go.Deep Go.Joins

/-- The slice value '.slice A ds.length c' of a list that came in. -/
def RawDLs (w : World) (B : Nat) (A : Option Addr) (ds : List DL) : Prop :=
  0 < ds.length → ∃ b off, A = some ⟨b, off, none⟩ ∧ b < B ∧ ∀ j, j < ds.length → ∃ Ar cr, w.cell? ⟨b, off + j * 3, none⟩ = some (.int .i64 (dlx ds j).k) ∧ w.cell? ⟨b, off + j * 3 + 1, none⟩ = some (.string (dlx ds j).n) ∧ w.cell? ⟨b, off + j * 3 + 2, none⟩ = some (.slice Ar (dlx ds j).z.length cr) ∧ Ints w B Ar (dlx ds j).z ∧ (dlx ds j).z.length ≤ maxLen ∧ (dlx ds j).n.size ≤ maxLen
theorem RawDLs.on {w w' : World} {A : Option Addr} {ds : List DL} (h : RawDLs w w.heap.size A ds) (hb : Below w.heap.size w w') : RawDLs w' w'.heap.size A ds := fun hn => by
  obtain ⟨b, off, e, hlt, hc⟩ := h hn
  refine ⟨b, off, e, Nat.lt_of_lt_of_le hlt hb.size, fun j hj => ?_⟩
  obtain ⟨Ar, cr, h1, h2, h3, h4, h5⟩ := hc j hj
  exact ⟨Ar, cr, (hb.cell hlt).trans h1, (hb.cell hlt).trans h2, (hb.cell hlt).trans h3, h4.on hb, h5⟩
theorem RawDLs.dls {w : World} {B : Nat} {A : Option Addr} {ds : List DL} (h : RawDLs w B A ds) : DLs w B A ds := fun hn => by
  obtain ⟨b, off, e, hlt, hc⟩ := h hn
  refine ⟨b, off, e, hlt, fun j hj => ?_⟩
  obtain ⟨Ar, cr, h1, h2, h3, h4, _⟩ := hc j hj
  exact ⟨Ar, cr, h1, h2, h3, h4⟩
theorem rawDLs_of {H : Type} {enc : TypeId × Value → H} {W : World} {base : Nat} {held : Bool} {fuel : Nat} {a : Option Addr} {len cap : Nat} {x : DataW H × List MemPlace}
    (h : DataW.trod enc Tryz.prog W base (fun _ => true) held fuel 39 [.slice a len cap] = some x) : ∃ ds : List DL, ds.length = len ∧ RawDLs W W.heap.size a ds ∧ len ≤ maxLen := by
  rcases open_slice3 Tryz.underlying39 Tryz.underlying25 (by kernel_rfl) rfl rfl rfl (by kernel_rfl) (by kernel_rfl) (by kernel_rfl) h with ⟨rfl, rfl⟩ | ⟨ad, n, rfl, hm, hat⟩
  · exact ⟨[], rfl, fun h => absurd h (by simp), by decide⟩
  · have hkey : ∀ i, i < len → ∃ y : DL, ∃ Ar cr, W.cell? (ad.add (i * 3)) = some (.int .i64 y.k) ∧ W.cell? (ad.add (i * 3 + 1)) = some (.string y.n) ∧ W.cell? (ad.add (i * 3 + 2)) = some (.slice Ar y.z.length cr) ∧ Ints W W.heap.size Ar y.z ∧ y.z.length ≤ maxLen ∧ y.n.size ≤ maxLen := by
      intro i hi
      obtain ⟨v0, v1, v2, y0, y1, y2, k0, k1, k2, t0, t1, t2⟩ := hat i hi
      obtain ⟨kd, hv0, _⟩ := DataW.trod_int Tryz.underlying2 t0
      obtain ⟨s, hv1, _, hs⟩ := DataW.trod_string Tryz.underlying9 t1
      obtain ⟨Ar, l2, cr, hv2⟩ : ∃ Ar l2 cr, v2 = .slice Ar l2 cr := by
        rcases open_slice1 Tryz.underlying23 (by kernel_rfl) t2 with ⟨hcs, _⟩ | ⟨ad, l, c, m, n, V, D, Pl, hcs, _⟩
        · exact ⟨none, 0, 0, by simpa using hcs⟩
        · exact ⟨some ad, l, c, by simpa using hcs⟩
      subst hv2
      obtain ⟨zs, hz⟩ : ∃ zs, IsRow .i64 W Ar l2 cr zs := by
        rcases open_ints Tryz.underlying23 Tryz.underlying2 (by kernel_rfl) t2 with ⟨hcs, _⟩ | ⟨x, l, c, zs, hcs, _, hl, hm, hz, _, hcell, hwz⟩
        · simp at hcs
          obtain ⟨rfl, rfl, rfl⟩ := hcs
          exact ⟨[], .inl ⟨rfl, rfl, rfl, rfl⟩⟩
        · simp at hcs
          obtain ⟨rfl, rfl, rfl⟩ := hcs
          exact ⟨zs, .inr ⟨_, rfl, hl, hm, by simpa using hz, hcell, hwz⟩⟩
      obtain ⟨ys, rfl, hI, hm, _⟩ := isRow_ints hz
      have e0 : v0 = .int .i64 kd := by simpa using hv0
      have e1 : v1 = .string s := by simpa using hv1
      subst e0 e1
      exact ⟨⟨kd, s, ys⟩, Ar, cr, k0, k1, k2, hI, hm, hs⟩
    obtain ⟨f, hf⟩ := choose_lt (α := DL) hkey
    have hlen : ((List.range len).map f).length = len := by simp
    have hr : ∀ j, j < len → dlx ((List.range len).map f) j = f j := by
      intro j hj
      simp [dlx, hj]
    refine ⟨(List.range len).map f, hlen, fun hn => ?_, hm⟩
    have hn' : 0 < len := by rw [hlen] at hn; exact hn
    obtain ⟨b, off, spot⟩ := ad
    obtain ⟨Ar, cp, k0, _⟩ := hf 0 hn'
    have hspot : spot = none := by simpa [Addr.add] using World.cell?_spot k0
    subst hspot
    refine ⟨b, off, rfl, by simpa [Addr.add] using cell_lt k0, fun j hj => ?_⟩
    rw [hlen] at hj
    obtain ⟨Ar, cr, h0, h1, h2, h3⟩ := hf j hj
    rw [add_plain] at h0 h1 h2
    rw [hr j hj]
    exact ⟨Ar, cr, h0, h1, h2, h3⟩

set_option maxRecDepth 100000 in
set_option maxHeartbeats 1500000 in
theorem szDeedS_sum (A : Option Addr) (c : Nat) (ds : List DL) (left : Int) (w : World) (hB : RawDLs w w.heap.size A ds) (hl : ds.length ≤ maxLen) (hz0 : 0 ≤ left) (hz1 : left ≤ 1048576) :
    Calls Tryz.prog 16 #[.slice A ds.length c, .int .i64 left] w (SzE (ds.length + dwS ds) left w) := by
  unfold maxLen at hl
  by_cases hbig : left < (ds.length : Int)
  · have hbn : left - (ds.length : Int) < 0 := by omega
    go_enter Tryz.func16, Tryz.ntmps16
    go_wp2
    go_ret
    exact ⟨-1, rfl, by omega, fun h => absurd h (by omega), Below.refl _ _⟩
  have hx2 : 0 ≤ left - (ds.length : Int) ∧ left - (ds.length : Int) ≤ 1048576 := by omega
  have hbn : decide (left - (ds.length : Int) < 0) = false := by simp; omega
  have hl2 : ds.length ≤ 1048576 := by omega
  clear hl
  go_enter Tryz.func16, Tryz.ntmps16
  go_wp2
  go_loopw [1, 5] (fun l i wr => ∃ (k : Nat) (x : Int), k ≤ ds.length ∧ i = .int .i64 k ∧ l = .int .i64 x ∧ 0 ≤ x ∧ x + (ds.length : Int) + (dwS (ds.take k) : Int) = left ∧ Below w.heap.size w wr) (fun _ i _ => ds.length - (intOf i).toNat)
  case atStart => exact ⟨0, _, Nat.zero_le _, rfl, rfl, by omega, by simp [dwS], Below.refl _ _⟩
  case round =>
    obtain ⟨k, x, hk, rfl, rfl, hx0, hx1, hW⟩ := hrel
    have HR := Lib.hid hx1
    have hx3 : x ≤ 1048576 := by omega
    have hBr := hB.on hW
    clear hx1 hbn hx2 hbig hB
    by_cases hlt : k < ds.length
    · obtain ⟨b, off, rfl, _, hc⟩ := hBr (by omega)
      obtain ⟨Ar, cr, c0, c1, c2, hI, hrl, hnl⟩ := hc k hlt
      clear hc
      go_wp2_with fail
      refine (szDeed_sum (dlx ds k).k (dlx ds k).n Ar (dlx ds k).z.length cr x wr hnl hrl hx0 hx3).mono ?_
      rintro e w1 ⟨y, rfl, hy1, hy, hb1⟩
      have HY := Lib.hid hy
      have hW1 := bel_step hW hb1
      clear c0 c1 c2 hy hI hb1 hW hBr
      by_cases hs : y < 0
      · go_wp2
        go_ret
        exact ⟨-1, rfl, by omega, fun h => absurd h (by omega), hW1⟩
      · have hs0 : 0 ≤ y := by omega
        have HS := Lib.hid (show y + (ds.length : Int) + (dwS (ds.take (k + 1)) : Int) = left by
          have h1 := HY.out hs0
          have h2 := HR.out
          rw [dwS_take hlt]
          unfold dw
          omega)
        clear HY
        go_wp2
        go_roundw
        case rel => exact ⟨k + 1, y, by omega, by go_num, rfl, hs0, HS.out, hW1⟩
        case measure => simp [intOf]; omega
    · have hd : decide (k < ds.length) = false := by simpa using hlt
      have HE := Lib.hid (show x + ((ds.length + dwS ds : Nat) : Int) = left by
        have := HR.out
        rw [List.take_of_length_le (by omega)] at this
        omega)
      go_wp2
      go_ret
      exact ⟨x, rfl, by have := HE.out; omega, fun _ => HE.out, hW⟩
set_option maxRecDepth 100000 in
set_option maxHeartbeats 1500000 in
theorem eqDLs_same (A A' : Option Addr) (c c' : Nat) (ds : List DL) (w : World) (hB : DLs w w.heap.size A ds) (hB' : DLs w w.heap.size A' ds) (hf : fitD 1048576 ds) (hl : ds.length ≤ 1048576) :
    Calls Tryz.prog 20 #[.slice A ds.length c, .slice A' ds.length c'] w fun e w' => e = .returned (.bool true) ∧ Below w.heap.size w w' := by
  have hb : ((ds.length : Int) != (ds.length : Int)) = false := by simp
  go_enter Tryz.func20, Tryz.ntmps20
  go_wp2
  go_loopw [5] (fun i wr => ∃ k : Nat, k ≤ ds.length ∧ i = .int .i64 k ∧ Below w.heap.size w wr) (fun i _ => ds.length - (intOf i).toNat)
  case atStart => exact ⟨0, Nat.zero_le _, rfl, Below.refl _ _⟩
  case round =>
    obtain ⟨k, hk, rfl, hW⟩ := hrel
    have hBr := hB.on hW
    have hBr' := hB'.on hW
    clear hB hB' hb
    by_cases hlt : k < ds.length
    · obtain ⟨b, off, rfl, _, hc⟩ := hBr (by omega)
      obtain ⟨b', off', rfl, _, hc'⟩ := hBr' (by omega)
      obtain ⟨Ar, cr, h1, h2, h3, h4⟩ := hc k hlt
      obtain ⟨Ar', cr', h1', h2', h3', h4'⟩ := hc' k hlt
      have h5 := (hf k hlt).2
      clear hc hc' hf
      go_wp2_with fail
      go_still_tail 8, (by kernel_rfl)
      change wpList _ _ _ _ _ wr.drew
      have hW2 : Below w.heap.size w wr.drew := bel_drewN hW 1
      have i3 : Ints wr.drew wr.drew.heap.size Ar (dlx ds k).z := h4
      have i3' : Ints wr.drew wr.drew.heap.size Ar' (dlx ds k).z := h4'
      clear h1 h2 h3 h1' h2' h3' h4 h4' hW hBr hBr'
      generalize wr.drew = wd at *
      go_wp2_with fail
      refine (eqDeed_same (dlx ds k).k (dlx ds k).n Ar Ar' cr cr' (dlx ds k).z wd i3 i3' (by omega)).mono ?_
      rintro e w1 ⟨rfl, hb1⟩
      have hW3 : Below w.heap.size w w1 := hW2.trans (hb1.mono hW2.size)
      go_wp2
      go_roundw
      case rel => exact ⟨k + 1, by omega, by go_num, hW3⟩
      case measure => simp [intOf]; omega
    · have hd : decide (k < ds.length) = false := by simpa using hlt
      go_wp2
      go_ret
      exact ⟨rfl, hW⟩

/-! ### the copy -/
/-- A deed of the copy: what it is, the block of its row. -/
structure DX where
  d : DL
  g : Nat
def dxl (e : DX) (r : Nat) : Value := if r = 0 then .int .i64 e.d.k else if r = 1 then .string e.d.n else .slice (some ⟨e.g, 0, none⟩) e.d.z.length e.d.z.length
def dxz (r : Nat) : Value := if r = 0 then .int .i64 0 else if r = 1 then .string ⟨#[]⟩ else .slice none 0 0
def dxc (es : List DX) (q : Nat) : Value := match es[q / 3]? with | some e => dxl e (q % 3) | none => dxz (q % 3)
theorem dxc_at {es : List DX} {j r : Nat} (hj : j < es.length) (hr : r < 3) : dxc es (j * 3 + r) = dxl es[j] r := by
  unfold dxc
  rw [show (j * 3 + r) / 3 = j by omega, show (j * 3 + r) % 3 = r by omega, List.getElem?_eq_getElem hj]
theorem dxc_out {es : List DX} {j r : Nat} (hj : es.length ≤ j) (hr : r < 3) : dxc es (j * 3 + r) = dxz r := by
  unfold dxc
  rw [show (j * 3 + r) / 3 = j by omega, show (j * 3 + r) % 3 = r by omega, List.getElem?_eq_none hj]
theorem dxc_push (es : List DX) (e : DX) (q : Nat) : (if q = es.length * 3 + 2 then dxl e 2 else if q = es.length * 3 + 1 then dxl e 1 else if q = es.length * 3 then dxl e 0 else dxc es q) = dxc (es ++ [e]) q := by
  have hq : q = q / 3 * 3 + q % 3 := by omega
  have hr : q % 3 < 3 := Nat.mod_lt _ (by omega)
  generalize q / 3 = j at hq
  generalize q % 3 = r at hq hr
  subst hq
  by_cases hj : j < es.length
  · rw [if_neg (by omega), if_neg (by omega), if_neg (by omega), dxc_at hj hr, dxc_at (by simp; omega) hr]
    rw [List.getElem_append_left hj]
  · by_cases e1 : j = es.length
    · subst e1
      rw [dxc_at (show es.length < (es ++ [e]).length by simp) hr]
      have e2 : (es ++ [e])[es.length]'(by simp) = e := by simp
      rw [e2]
      have h3 : r = 0 ∨ r = 1 ∨ r = 2 := by omega
      rcases h3 with h | h | h
      · rw [if_neg (by omega), if_neg (by omega), if_pos (by omega), h]
      · rw [if_neg (by omega), if_pos (by omega), h]
      · rw [if_pos (by omega), h]
    · rw [if_neg (by omega), if_neg (by omega), if_neg (by omega), dxc_out (by omega) hr, dxc_out (by simp; omega) hr]
theorem info_deedX : (Tryz.prog.info? 32).map (fun i => (i.zero, i.size, i.bytes)) = some (some (.agg #[.int .i64 0, .string ⟨#[]⟩, .slice none 0 0]), 3, 48) := by kernel_rfl
theorem make_deedX (n : Nat) (hn : n ≤ 1099511627776) (w : World) : (Instr.makeSlice 42 (.int .i64 (n : Int)) (.int .i64 (n : Int))).run Tryz.prog w = .ok (.slice (some ⟨w.heap.size, 0, none⟩) n n) (w.alloc (.cells (madeCells #[.int .i64 0, .string ⟨#[]⟩, .slice none 0 0] (n * 3)) 32)) := by
  obtain ⟨i, hi, hz, hs, hby⟩ := info_parts info_deedX
  have := run_make (P := Tryz.prog) w 42 32 i (.agg #[.int .i64 0, .string ⟨#[]⟩, .slice none 0 0]) Tryz.underlying42 hi hz .i64 .i64 (n : Int) (n : Int) (by omega) (by omega) (by rw [hby]; omega) (by omega)
  rw [hs] at this
  simpa [Value.cells] using this
theorem made_deedX (n : Nat) : madeCells #[Value.int .i64 0, .string ⟨#[]⟩, .slice none 0 0] (n * 3) = arr (3 * n) (dxc []) := by
  apply Array.ext_getElem?
  intro q
  by_cases hq : q < 3 * n
  · rw [arr_get _ hq]
    have hq' : q < n * 3 := by omega
    have h3 : q % 3 = 0 ∨ q % 3 = 1 ∨ q % 3 = 2 := by omega
    rcases h3 with h | h | h
    · simp [madeCells, hq', h, dxc, dxz]
    · simp [madeCells, hq', h, dxc, dxz]
    · simp [madeCells, hq', h, dxc, dxz]
  · rw [Array.getElem?_eq_none (by rw [size_madeCells]; omega), Array.getElem?_eq_none (by simp [arr]; omega)]
/-- The rows of es lie in blocks of their own behind G, ahead of hi. -/
def DXs (w : World) (G hi : Nat) (es : List DX) : Prop := (∀ e ∈ es, Blk w e.g 2 (i64s e.d.z) ∧ G < e.g ∧ e.g < hi) ∧ es.Pairwise fun a b => a.g < b.g
def DXSt (w : World) (G n : Nat) (es : List DX) (wr : World) : Prop :=
  Blk wr G 32 (arr (3 * n) (dxc es)) ∧ DXs wr G wr.heap.size es ∧ Below w.heap.size w wr
theorem DXs.on {w w' : World} {G hi hi' : Nat} {es : List DX} (h : DXs w G hi es) (hb : Below w.heap.size w w') (hh : hi ≤ hi') : DXs w' G hi' es :=
  ⟨fun e he => ⟨(h.1 e he).1.on hb, (h.1 e he).2.1, Nat.lt_of_lt_of_le (h.1 e he).2.2 hh⟩, h.2⟩
theorem DXs.set_ {w : World} {G hi : Nat} {es : List DX} (h : DXs w G hi es) (i : Nat) (u : Value) : DXs (w.setCell ⟨G, i, none⟩ u) G hi es :=
  ⟨fun e he => ⟨Blk.far (h.1 e he).1 (p := ⟨G, i, none⟩) (by have := (h.1 e he).2.1; simp; omega) u, (h.1 e he).2⟩, h.2⟩
theorem DXs.snoc {w : World} {G hi hi' : Nat} {es : List DX} {e : DX} (h : DXs w G hi es) (hh : hi ≤ hi') (he : Blk w e.g 2 (i64s e.d.z)) (h1 : G < e.g) (h2 : hi ≤ e.g) (h3 : e.g < hi') : DXs w G hi' (es ++ [e]) := by
  refine ⟨fun x hx => ?_, ?_⟩
  · rcases List.mem_append.1 hx with hx | hx
    · exact ⟨(h.1 x hx).1, (h.1 x hx).2.1, Nat.lt_of_lt_of_le (h.1 x hx).2.2 hh⟩
    · obtain rfl : x = e := by simpa using hx
      exact ⟨he, h1, h3⟩
  · rw [List.pairwise_append]
    refine ⟨h.2, List.pairwise_singleton _ _, fun a ha b hb => ?_⟩
    obtain rfl : b = e := by simpa using hb
    exact Nat.lt_of_lt_of_le (h.1 a ha).2.2 h2
theorem DXSt.push {w wr w3 : World} {G n : Nat} {es : List DX} {e : DX} (h : DXSt w G n es wr) (hG : w.heap.size ≤ G) (hb : Below wr.heap.size wr w3) (he : Blk w3 e.g 2 (i64s e.d.z)) (hg : wr.heap.size ≤ e.g) :
    DXSt w G n (es ++ [e]) (((w3.setCell ⟨G, es.length * 3, none⟩ (dxl e 0)).setCell ⟨G, es.length * 3 + 1, none⟩ (dxl e 1)).setCell ⟨G, es.length * 3 + 2, none⟩ (dxl e 2)) := by
  obtain ⟨hB, hr, hW⟩ := h
  have hGl := hB.lt
  have hsz := hb.size
  have B := (((hB.on hb).set_ (es.length * 3) (dxl e 0)).set_ (es.length * 3 + 1) (dxl e 1)).set_ (es.length * 3 + 2) (dxl e 2)
  rw [arr_set, arr_set, arr_set, arr_congr (fun q _ => dxc_push es e q)] at B
  have hs3 : (((w3.setCell ⟨G, es.length * 3, none⟩ (dxl e 0)).setCell ⟨G, es.length * 3 + 1, none⟩ (dxl e 1)).setCell ⟨G, es.length * 3 + 2, none⟩ (dxl e 2)).heap.size = w3.heap.size := by rw [size_set, size_set, size_set]
  refine ⟨B, ?_, (((bel_step hW hb).setCell (p := ⟨G, es.length * 3, none⟩) hG _).setCell (p := ⟨G, es.length * 3 + 1, none⟩) hG _).setCell (p := ⟨G, es.length * 3 + 2, none⟩) hG _⟩
  rw [hs3]
  exact ((((hr.on hb (Nat.le_refl _)).snoc hsz he (by omega) hg he.lt).set_ _ _).set_ _ _).set_ _ _
/-- The slice value '.slice A ds.length c' is of the call's own. -/
def OwnDL (w : World) (lo hi : Nat) (A : Option Addr) (ds : List DL) : Prop :=
  hi ≤ w.heap.size ∧ (0 < ds.length → ∃ G es, A = some ⟨G, 0, none⟩ ∧ lo ≤ G ∧ G < hi ∧ es.map DX.d = ds ∧ Blk w G 32 (arr (3 * ds.length) (dxc es)) ∧ DXs w G hi es)
theorem OwnDL.on {w w' : World} {lo hi : Nat} {A : Option Addr} {ds : List DL} (h : OwnDL w lo hi A ds) (hb : Below w.heap.size w w') : OwnDL w' lo hi A ds := ⟨Nat.le_trans h.1 hb.size, fun hn => by
  obtain ⟨G, es, e, h1, h2, h3, hB, hr⟩ := h.2 hn
  exact ⟨G, es, e, h1, h2, h3, hB.on hb, hr.on hb (Nat.le_refl _)⟩⟩
theorem OwnDL.within {w w' : World} {lo hi lo' hi' : Nat} {A : Option Addr} {ds : List DL} (h : OwnDL w lo hi A ds) (hw : Within lo' hi' w w') (ha : hi ≤ lo' ∨ hi' ≤ lo) : OwnDL w' lo hi A ds := ⟨Nat.le_trans h.1 hw.size, fun hn => by
  obtain ⟨G, es, e, h1, h2, h3, hB, hr⟩ := h.2 hn
  refine ⟨G, es, e, h1, h2, h3, hB.within hw (by omega), fun x hx => ⟨(hr.1 x hx).1.within hw ?_, (hr.1 x hx).2⟩, hr.2⟩
  have := (hr.1 x hx).2
  omega⟩
theorem OwnDL.dls {w : World} {lo hi : Nat} {A : Option Addr} {ds : List DL} (h : OwnDL w lo hi A ds) : DLs w w.heap.size A ds := fun hn => by
  obtain ⟨G, es, e, h1, h2, hv, hB, hr⟩ := h.2 hn
  have hl : es.length = ds.length := by rw [← hv, List.length_map]
  refine ⟨G, 0, e, hB.lt, fun j hj => ?_⟩
  have hj' : j < es.length := by omega
  have hx : dlx ds j = es[j].d := by rw [dlx_eq ds j hj]; simp [← hv]
  obtain ⟨hb, _⟩ := hr.1 es[j] (List.getElem_mem hj')
  refine ⟨some ⟨es[j].g, 0, none⟩, es[j].d.z.length, ?_, ?_, ?_, ?_⟩
  · have := dxc_at (es := es) (r := 0) hj' (by omega)
    rw [Nat.zero_add, hB.cell (j * 3), arr_get _ (by omega), hx]
    exact congrArg some this
  · rw [Nat.zero_add, hB.cell (j * 3 + 1), arr_get _ (by omega), hx, dxc_at hj' (by omega)]; rfl
  · rw [Nat.zero_add, hB.cell (j * 3 + 2), arr_get _ (by omega), hx, dxc_at hj' (by omega)]; rfl
  · rw [hx]; exact hb.ints
def DLsOwn (ds : List DL) (w : World) (e : Ending) (w' : World) : Prop :=
  ∃ A c, e = .returned (.slice A ds.length c) ∧ OwnDL w' w.heap.size w'.heap.size A ds ∧ Below w.heap.size w w'
set_option maxRecDepth 100000 in
set_option maxHeartbeats 1500000 in
theorem toDeedS_any (A : Option Addr) (c : Nat) (ds : List DL) (w : World) (hT : DLs w w.heap.size A ds) (hf : fitD 1048576 ds) (hl : ds.length ≤ 1048576) :
    Calls Tryz.prog 18 #[.slice A ds.length c] w (DLsOwn ds w) := by
  have hmk := fun wx => make_deedX ds.length (by omega) wx
  have HFT := Lib.hid hf
  have bc := (Below.refl w.heap.size w).alloc (Nat.le_refl _) (.cells (madeCells #[Value.int .i64 0, .string ⟨#[]⟩, .slice none 0 0] (ds.length * 3)) 32)
  have BM := Blk.new w 32 (madeCells #[Value.int .i64 0, .string ⟨#[]⟩, .slice none 0 0] (ds.length * 3))
  rw [made_deedX] at BM bc
  have st0 : DXSt w w.heap.size ds.length [] (w.alloc (.cells (arr (3 * ds.length) (dxc [])) 32)) := ⟨BM, ⟨(fun e he => by cases he), List.Pairwise.nil⟩, bc⟩
  clear bc BM hf
  go_enter Tryz.func18, Tryz.ntmps18
  go_wp2
  clear hmk
  rw [made_deedX]
  generalize w.alloc (.cells (arr (3 * ds.length) (dxc [])) 32) = wb at *
  obtain ⟨G, hG⟩ : ∃ G, w.heap.size = G := ⟨_, rfl⟩
  have HG := Lib.hid hG
  rw [hG] at st0 ⊢
  clear hG
  go_loopw [4] (fun i wr => ∃ (k : Nat) (es : List DX), k ≤ ds.length ∧ i = .int .i64 k ∧ es.length = k ∧ es.map DX.d = ds.take k ∧ DXSt w G ds.length es wr) (fun i _ => ds.length - (intOf i).toNat)
  case atStart => exact ⟨0, [], Nat.zero_le _, rfl, rfl, by simp, st0⟩
  case round =>
    obtain ⟨k, es, hk, rfl, hel, he, hst⟩ := hrel
    have HE := Lib.hid he
    have HEL := Lib.hid hel
    clear he st0 hel
    by_cases hlt : k < ds.length
    · have hTr := hT.on hst.2.2
      obtain ⟨b, off, Ar, cr, rfl, hb, c0, c1, c2, hI⟩ := hTr.here hlt
      have f2 := (HFT.out k hlt).2
      have HST := Lib.hid hst
      clear hst hT hTr
      go_wp2_with fail
      refine (toDeed_any (dlx ds k).k (dlx ds k).n Ar cr (dlx ds k).z wr hI (by omega)).mono ?_
      rintro e w1 ⟨g, rfl, hg, hO, hb1⟩
      have hst1 := HST.out.push (e := ⟨dlx ds k, g⟩) (by rw [HG.out]; exact Nat.le_refl _) hb1 hO hg
      have B1 := HST.out.1.on hb1
      have m0 : w1.cell? ⟨G, k * 3, none⟩ = some (dxc es (k * 3)) := by rw [B1.cell, arr_get _ (by omega)]
      have m1 : w1.cell? ⟨G, k * 3 + 1, none⟩ = some (dxc es (k * 3 + 1)) := by rw [B1.cell, arr_get _ (by omega)]
      have m2 : w1.cell? ⟨G, k * 3 + 2, none⟩ = some (dxc es (k * 3 + 2)) := by rw [B1.cell, arr_get _ (by omega)]
      have fr0 := B1.frozen (k * 3)
      have fr1 := B1.frozen (k * 3 + 1)
      have fr2 := B1.frozen (k * 3 + 2)
      rw [HEL.out] at hst1
      have HS := Lib.hid hst1
      have HP := Lib.hid (show (es ++ [(⟨dlx ds k, g⟩ : DX)]).map DX.d = ds.take (k + 1) by
        rw [List.map_append, HE.out, List.take_succ_eq_append_getElem hlt, ← dlx_eq ds k hlt]; rfl)
      have HL := Lib.hid (show (es ++ [(⟨dlx ds k, g⟩ : DX)]).length = k + 1 by rw [List.length_append, HEL.out]; rfl)
      clear hst1 HST B1 hO hg hb1 c0 c1 c2 hI HE HEL
      generalize dxc es (k * 3) = y0 at *
      generalize dxc es (k * 3 + 1) = y1 at *
      generalize dxc es (k * 3 + 2) = y2 at *
      go_wp2
      go_roundw
      case rel => exact ⟨k + 1, _, by omega, by go_num, HL.out, HP.out, HS.out⟩
      case measure => simp [intOf]; omega
    · have hd : decide (k < ds.length) = false := by simpa using hlt
      have hkk : k = ds.length := by omega
      have hW := hst.2.2
      have HO := Lib.hid (show OwnDL wr w.heap.size wr.heap.size (some ⟨G, 0, none⟩) ds from
        ⟨Nat.le_refl _, fun _ => ⟨G, es, rfl, by rw [HG.out]; exact Nat.le_refl _, hst.1.lt, by rw [HE.out, hkk, List.take_length], hst.1, hst.2.1⟩⟩)
      clear hst hkk
      go_wp2
      go_ret
      exact ⟨_, _, rfl, HO.out, hW⟩

/-! ### the marks -/
theorem dwS_le (ds : List DL) (j : Nat) : dwS (ds.take j) ≤ dwS ds := by
  have h : dwS ds = dwS (ds.take j) + dwS (ds.drop j) := by
    unfold dwS
    rw [← List.sum_append_nat, ← List.map_append, List.take_append_drop]
  omega
/-- Marking under way: from cell q0 on, and from deed j on, nothing is marked. -/
def DXU (G n : Nat) (es : List DX) (q0 j : Nat) (wr : World) : Prop :=
  (∃ cs, Blk wr G 32 cs ∧ ∀ q, q0 ≤ q → q < 3 * n → cs[q]? = some (dxc es q)) ∧ ∀ i (h : i < es.length), j ≤ i → Blk wr es[i].g 2 (i64s es[i].d.z)
theorem DXU.on {G n q0 j : Nat} {es : List DX} {wr w' : World} (h : DXU G n es q0 j wr) (hb : Below wr.heap.size wr w') : DXU G n es q0 j w' := by
  obtain ⟨⟨cs, hB, hc⟩, hr⟩ := h
  exact ⟨⟨cs, hB.on hb, hc⟩, fun i hi hj => (hr i hi hj).on hb⟩
theorem DXU.set {G n q0 q1 j p : Nat} {es : List DX} {wr : World} (h : DXU G n es q0 j wr) (h01 : q0 ≤ q1) (hp : p < q1) (hG : ∀ i (h : i < es.length), G < es[i].g) (v : Value) : DXU G n es q1 j (wr.setCell ⟨G, p, none⟩ v) := by
  obtain ⟨⟨cs, hB, hc⟩, hr⟩ := h
  refine ⟨⟨_, hB.set_ p v, fun q hq hn => ?_⟩, fun i hi hj => Blk.far (hr i hi hj) (p := ⟨G, p, none⟩) (by have := hG i hi; simp; omega) v⟩
  rw [Array.getElem?_setIfInBounds, if_neg (by omega)]
  exact hc q (by omega) hn
theorem DXU.row {G n q0 j g : Nat} {es : List DX} {wr w' : World} (h : DXU G n es q0 j wr) (hg : wr.grownBy w' (some g)) (hG : G ≠ g) (hne : ∀ i (h : i < es.length), j < i → es[i].g ≠ g) : DXU G n es q0 (j + 1) w' := by
  obtain ⟨⟨cs, hB, hc⟩, hr⟩ := h
  exact ⟨⟨cs, hB.grown hg (by simpa using hG), hc⟩, fun i hi hj => (hr i hi (by omega)).grown hg (by simpa using hne i hi (by omega))⟩
theorem DXU.later {G n q0 q1 j : Nat} {es : List DX} {wr : World} (h : DXU G n es q0 j wr) (h01 : q0 ≤ q1) : DXU G n es q1 j wr := by
  obtain ⟨⟨cs, hB, hc⟩, hr⟩ := h
  exact ⟨⟨cs, hB, fun q hq hn => hc q (by omega) hn⟩, hr⟩
theorem DXU.cell {G n q0 j q : Nat} {es : List DX} {wr : World} (h : DXU G n es q0 j wr) (h1 : q0 ≤ q) (h2 : q < 3 * n) : wr.cell? ⟨G, q, none⟩ = some (dxc es q) ∧ wr.frozen? ⟨G, q, none⟩ = false := by
  obtain ⟨⟨cs, hB, hc⟩, _⟩ := h
  exact ⟨(hB.cell q).trans (hc q h1 h2), hB.frozen q⟩
set_option maxRecDepth 100000 in
set_option maxHeartbeats 1500000 in
theorem markDLs_any (A : Option Addr) (c k lo hi : Nat) (ds : List DL) (w : World) (hO : OwnDL w lo hi A ds) (hf : fitD 1048576 ds) (hl : ds.length ≤ 1048576) (hk : k + 2 * ds.length + dwS ds ≤ 1000000000) (hhw : hi ≤ w.heap.size) :
    Calls Tryz.prog 21 #[.slice A ds.length c, .int .i64 k] w fun e w' => (∃ m : Nat, e = .returned (.int .i64 m)) ∧ Within lo hi w w' := by
  by_cases h0 : 0 < ds.length
  · obtain ⟨G, es, rfl, hG, hGh, hd, hB, hr⟩ := hO.2 h0
    have hel : es.length = ds.length := by rw [← hd, List.length_map]
    have HX := Lib.hid (show ∀ j (h : j < es.length), dlx ds j = es[j].d from fun j hj => by rw [dlx_eq ds j (by omega)]; simp [← hd])
    have HG := Lib.hid (show ∀ j (h : j < es.length), G < es[j].g ∧ es[j].g < hi from fun j hj => (hr.1 _ (List.getElem_mem hj)).2)
    have HP := Lib.hid (show ∀ i j (hi' : i < es.length) (hj : j < es.length), i < j → es[i].g < es[j].g from fun i j hi' hj h => by
      have hp := hr.2
      rw [List.pairwise_iff_getElem] at hp
      exact hp i j hi' hj h)
    have HF := Lib.hid hf
    have HK := Lib.hid hk
    have hst : DXU G ds.length es 0 0 w := ⟨⟨_, hB, fun q _ hq => arr_get _ hq⟩, fun i hi' _ => (hr.1 _ (List.getElem_mem hi')).1⟩
    clear hO hB hr hf hd hk
    go_enter Tryz.func21, Tryz.ntmps21
    go_wp2
    go_loopw [1, 5] (fun q i wr => ∃ j a : Nat, j ≤ ds.length ∧ i = .int .i64 j ∧ q = .int .i64 a ∧ a ≤ k + 2 * j + dwS (ds.take j) ∧ DXU G ds.length es (j * 3) j wr ∧ Within lo hi w wr) (fun _ i _ => ds.length - (intOf i).toNat)
    case atStart => exact ⟨0, k, Nat.zero_le _, rfl, rfl, by omega, hst, Within.refl _ _ _⟩
    case round =>
      obtain ⟨j, a, hj, rfl, rfl, hak, hU, hW⟩ := hrel
      by_cases hlt : j < ds.length
      · have hje : j < es.length := by omega
        obtain ⟨g1, g2⟩ := HG.out j hje
        have hNX : a + 2 + (dlx ds j).z.length ≤ k + 2 * (j + 1) + dwS (ds.take (j + 1)) ∧ a + 2 + (dlx ds j).z.length ≤ 1000000000 := by
          have h1 := dwS_le ds (j + 1)
          have h2 := HK.out
          rw [dwS_take hlt] at h1 ⊢
          unfold dw at h1 ⊢
          omega
        have hzl := (HF.out j hlt).2
        rw [HX.out j hje] at hNX hzl
        have HN := Lib.hid hNX
        have hb9 : a + 2 ≤ 1000000000 := by omega
        have HNE := Lib.hid (show ∀ i (h : i < es.length), j < i → es[i].g ≠ es[j].g from fun i hi' h => by have := HP.out j i hje hi' h; omega)
        have U1 := hU.set (p := j * 3) (q1 := j * 3 + 1) (by omega) (by omega) (fun i hi' => (HG.out i hi').1) (.int .i64 (a : Int))
        have W1 := hW.setCell (p := ⟨G, j * 3, none⟩) ⟨hG, hGh⟩ (.int .i64 (a : Int))
        obtain ⟨c0, f0⟩ := hU.cell (q := j * 3) (Nat.le_refl _) (by omega)
        have hcl : (some ⟨es[j].g, 0, none⟩ : Option Addr) = some ⟨es[j].g, 0, none⟩ := rfl
        have HROW := Lib.hid (show ∀ (q0 : Nat) (W : World), DXU G ds.length es q0 j W → Row W 2 (some ⟨es[j].g, 0, none⟩) es[j].d.z es[j].g from fun q0 W h => Row.of_blk (h.2 j hje (Nat.le_refl _)))
        have HC2 := Lib.hid (show dxc es (j * 3 + 2) = .slice (some ⟨es[j].g, 0, none⟩) es[j].d.z.length es[j].d.z.length from dxc_at hje (by omega))
        have HUN := Lib.hid (show ∀ (W W' : World), DXU G ds.length es (j * 3 + 2) j W → W.grownBy W' (some es[j].g) → DXU G ds.length es ((j + 1) * 3) (j + 1) W' from fun W W' h hg => (h.row hg (by omega) HNE.out).later (by omega))
        obtain ⟨g, hgj⟩ : ∃ g, es[j].g = g := ⟨_, rfl⟩
        obtain ⟨z, hzj⟩ : ∃ z, es[j].d.z = z := ⟨_, rfl⟩
        rw [hgj] at g1 g2 HROW HC2 HUN
        rw [hzj] at HROW HC2 HN hzl
        have HCT := Lib.hid (show ∀ W, Calls Tryz.prog 32 #[.int .i64 ((a : Int) + 1)] W fun e w' => e = .returned (.string (mt (a + 1))) ∧ Below W.heap.size W w' from fun W => by
          rw [show ((a : Int) + 1) = ((a + 1 : Nat) : Int) from rfl]; exact markText_any (a + 1) W (by omega) (by omega))
        have hw0 : IntKind.i64.wrap (a : Int) = (a : Int) := by rw [IntKind.wrap_i64]; omega
        have hwa : IntKind.i64.wrap ((a : Int) + 1) = (a : Int) + 1 := by rw [IntKind.wrap_i64]; omega
        have hwb : IntKind.i64.wrap ((a : Int) + 1 + 1) = (a : Int) + 1 + 1 := by rw [IntKind.wrap_i64]; omega
        have hwc : IntKind.i64.wrap ((a : Int) + 2) = (a : Int) + 2 := by rw [IntKind.wrap_i64]; omega
        generalize dxc es (j * 3) = y0 at *
        clear hak hU hW hcl HNE hNX hgj hzj
        go_wp2_with fail
        generalize wr.setCell ⟨G, j * 3, none⟩ (.int .i64 (a : Int)) = w1 at *
        clear c0 f0
        refine (HCT.out w1).mono ?_
        rintro e w2 ⟨rfl, hb2⟩
        have U2 := U1.on hb2
        have W2 := W1.trans (bel_within (lo := lo) (hi := hi) hb2)
        have U3 := U2.set (p := j * 3 + 1) (q1 := j * 3 + 2) (by omega) (by omega) (fun i hi' => (HG.out i hi').1) (.string (mt (a + 1)))
        have W3 := W2.setCell (p := ⟨G, j * 3 + 1, none⟩) ⟨hG, hGh⟩ (.string (mt (a + 1)))
        obtain ⟨c1, f1⟩ := U2.cell (q := j * 3 + 1) (Nat.le_refl _) (by omega)
        have c2 := (U3.cell (q := j * 3 + 2) (Nat.le_refl _) (by omega)).1
        rw [HC2.out] at c2
        generalize dxc es (j * 3 + 1) = y1 at *
        clear U1 W1 hb2 U2 W2
        go_wp2_with fail
        generalize w2.setCell ⟨G, j * 3 + 1, none⟩ (.string (mt (a + 1))) = w3 at *
        refine (markInt64S_any (some ⟨g, 0, none⟩) z.length g z ((a : Int) + 1 + 1) w3 (HROW.out _ _ U3) (by omega) (by omega) (by omega)).mono ?_
        rintro e w4 ⟨rfl, _, hg4⟩
        have HU4 := Lib.hid (HUN.out _ _ U3 hg4)
        have W4 := W3.trans (Within.of_grown (lo := lo) (hi := hi) hg4 (.inl ⟨by omega, g2⟩))
        have HKN := Lib.hid (show (a : Int) + 1 + 1 + (z.length : Int) = ((a + 2 + z.length : Nat) : Int) by omega)
        rw [HKN.out]
        clear c1 f1 c2 U3 W3 hg4 hw0 hwa hwb hwc
        go_wp2
        go_roundw
        case rel => exact ⟨j + 1, a + 2 + z.length, by omega, by go_num, rfl, HN.out.1, HU4.out, W4⟩
        case measure => simp [intOf]; omega
      · have hd : decide (j < ds.length) = false := by simpa using hlt
        clear hU
        go_wp2
        go_ret
        exact ⟨⟨a, rfl⟩, hW⟩
  · have hn : ds = [] := List.length_eq_zero_iff.1 (by omega)
    subst hn
    go_enter Tryz.func21, Tryz.ntmps21
    go_wp2
    go_loopw [1, 5] (fun q i wr => i = .int .i64 0 ∧ q = .int .i64 k ∧ wr = w) (fun _ i _ => 0)
    case atStart => exact ⟨rfl, rfl, rfl⟩
    case round =>
      obtain ⟨rfl, rfl, rfl⟩ := hrel
      go_wp2
      go_ret
      exact ⟨⟨k, rfl⟩, Within.refl _ _ _⟩
end Go.Proofs.YtdjoiehknpfigaaGreat
