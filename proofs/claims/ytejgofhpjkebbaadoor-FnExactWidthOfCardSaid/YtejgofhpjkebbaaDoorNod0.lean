/- Nodes and views: words and plain facts; how they lie in memory; one that came in. No condition; of the program only types are named. -/
import Derived.Test.YtejgofhpjkebbaaDoorCndL
import Derived.Test.YtejgofhpjkebbaaDoorCndOpen
import Derived.Test.YtejgofhpjkebbaaDoorJC
import Derived.Test.YtejgofhpjkebbaaDoorJA
import Derived.OpenShut
import Derived.ShutString
import Derived.Lib.SmallJoins
namespace Go.Proofs.YtejgofhpjkebbaaDoor
open Go.ChangeShapes Go.WideShapes Go.ChangeAt Go.RowKit Go.Deep Go.Joins

/-- A node as it is meant: kind, name, conds, places, place. -/
structure Nd where
  k : Int
  n : ByteArray
  c : List Cnd
  z : List Int
  p : Int
def zeroN : Nd := ⟨0, ⟨#[]⟩, [], [], 0⟩
instance : Inhabited Nd := ⟨zeroN⟩
def ndx (v : List Nd) (j : Nat) : Nd := v[j]?.getD zeroN
theorem ndx_eq (v : List Nd) (j : Nat) (h : j < v.length) : ndx v j = v[j] := by simp [ndx, h]
theorem ndx_mem {v : List Nd} {j : Nat} (h : j < v.length) : ndx v j ∈ v := by rw [ndx_eq v j h]; exact List.getElem_mem h
/-- No part of a node is longer than m. -/
def fitD (m : Nat) (d : Nd) : Prop := d.n.size ≤ m ∧ d.c.length ≤ m ∧ d.z.length ≤ m
def fitN (m : Nat) (v : List Nd) : Prop := ∀ j, j < v.length → fitD m (ndx v j)

def lenB (k : Int) (m : Nat) : Bool := if k = 3 then inB (m : Int) 1 6 else if k = 4 then decide (m = 2) else decide (m ≤ 3)
def nameD (d : Nd) : Bool := if d.k = 1 then nameB d.n else decide (d.n.size = 0)
def condsD (d : Nd) : Bool := if d.k = 2 then rightB d.c else decide (d.c.length = 0)
def placesD (d : Nd) : Bool := (decide (d.k = 3 ∨ d.k = 4 ∨ d.k = 7) || decide (d.z.length = 0)) && (placesB d.z 6 && lenB d.k d.z.length)
def placeD (d : Nd) : Bool := if d.k = 7 then inB d.p (-1) 5 else decide (d.p = -1)
/-- Which nodes are right. -/
def nodeB (d : Nd) : Bool := inB d.k 1 7 && (nameD d && (condsD d && (placesD d && placeD d)))
theorem nodeB_k {d : Nd} (h : inB d.k 1 7 = false) : nodeB d = false := by unfold nodeB; rw [h]; rfl
theorem nodeB_n {d : Nd} (h : nameD d = false) : nodeB d = false := by unfold nodeB; rw [h]; simp
theorem nodeB_c {d : Nd} (h : condsD d = false) : nodeB d = false := by unfold nodeB; rw [h]; simp
theorem nodeB_z {d : Nd} (h : placesD d = false) : nodeB d = false := by unfold nodeB; rw [h]; simp
theorem nodeB_p {d : Nd} (h : placeD d = false) : nodeB d = false := by unfold nodeB; rw [h]; simp
theorem nodeB_is {d : Nd} (h1 : inB d.k 1 7 = true) (h2 : nameD d = true) (h3 : condsD d = true) (h4 : placesD d = true) : nodeB d = placeD d := by unfold nodeB; rw [h1, h2, h3, h4]; rfl
theorem nodeB_all {d : Nd} (h : nodeB d = true) : inB d.k 1 7 = true ∧ nameD d = true ∧ condsD d = true ∧ placesD d = true ∧ placeD d = true := by
  unfold nodeB at h
  simp only [Bool.and_eq_true] at h
  exact h
theorem rightB_nil : rightB [] = true := rfl

/-- How many nodes one looks at. -/
def looksN (k : Int) : Nat := if k = 1 then 0 else if k = 4 ∨ k = 5 then 2 else 1
def freeAt (v : List Nd) (k : Nat) : Int := (v.take k).foldl (fun a d => a + 1 - (looksN d.k : Int)) 0
theorem freeAt_zero (v : List Nd) : freeAt v 0 = 0 := rfl
theorem freeAt_succ {v : List Nd} {k : Nat} (h : k < v.length) : freeAt v (k + 1) = freeAt v k + 1 - (looksN (ndx v k).k : Int) := by
  unfold freeAt
  rw [List.take_succ_eq_append_getElem h, List.foldl_append, ← ndx_eq v k h]; rfl
theorem looksN_le (k : Int) : looksN k ≤ 2 := by unfold looksN; split; · omega
                                                 · split <;> omega
theorem freeAt_bound (v : List Nd) : ∀ k, k ≤ v.length → -(k : Int) ≤ freeAt v k ∧ freeAt v k ≤ k
  | 0, _ => by rw [freeAt_zero]; simp
  | k + 1, h => by
    have := freeAt_bound v k (by omega)
    have h2 := looksN_le (ndx v k).k
    rw [freeAt_succ (by omega)]
    omega
def okNd (v : List Nd) (k : Nat) : Bool := nodeB (ndx v k) && decide ((looksN (ndx v k).k : Int) ≤ freeAt v k)
/-- Which lists of nodes are views. -/
def viewB (v : List Nd) : Bool := (List.range v.length).all (okNd v) && (decide (freeAt v v.length = 1) && decide (v.length ≤ 9))
theorem okNd_succ (v : List Nd) (k : Nat) : (List.range (k + 1)).all (okNd v) = ((List.range k).all (okNd v) && okNd v k) := by
  rw [List.range_succ, List.all_append]; simp
theorem viewB_stop {v : List Nd} {k : Nat} (hk : k < v.length) (h : okNd v k = false) : viewB v = false := by
  unfold viewB
  rw [List.all_eq_false.2 ⟨k, List.mem_range.2 hk, by rw [h]; simp⟩]
  rfl
theorem viewB_end {v : List Nd} (h : (List.range v.length).all (okNd v) = true) : viewB v = (decide (freeAt v v.length = 1) && decide (v.length ≤ 9)) := by unfold viewB; rw [h, Bool.true_and]
theorem viewB_all {v : List Nd} (h : viewB v = true) : (∀ k, k < v.length → okNd v k = true) ∧ freeAt v v.length = 1 ∧ v.length ≤ 9 := by
  unfold viewB at h
  simp only [Bool.and_eq_true, decide_eq_true_eq, List.all_eq_true, List.mem_range] at h
  exact h

/-! ### in memory -/
/-- The slice value '.slice A v.length c' reads as these nodes. -/
def Nds (w : World) (B : Nat) (A : Option Addr) (v : List Nd) : Prop :=
  0 < v.length → ∃ b off, A = some ⟨b, off, none⟩ ∧ b < B ∧ ∀ j, j < v.length → ∃ Ac cc Az cz, w.cell? ⟨b, off + j * 5, none⟩ = some (.int .i64 (ndx v j).k) ∧ w.cell? ⟨b, off + j * 5 + 1, none⟩ = some (.string (ndx v j).n) ∧ w.cell? ⟨b, off + j * 5 + 2, none⟩ = some (.slice Ac (ndx v j).c.length cc) ∧ w.cell? ⟨b, off + j * 5 + 3, none⟩ = some (.slice Az (ndx v j).z.length cz) ∧ w.cell? ⟨b, off + j * 5 + 4, none⟩ = some (.int .i64 (ndx v j).p) ∧ Cnds w B Ac (ndx v j).c ∧ Ints w B Az (ndx v j).z
section
variable {w w' : World} {B B' : Nat} {A : Option Addr} {v : List Nd}
theorem Nds.below (h : Nds w B A v) (hb : Below B w w') : Nds w' B A v := fun hn => by
  obtain ⟨b, off, e, hlt, hc⟩ := h hn
  refine ⟨b, off, e, hlt, fun j hj => ?_⟩
  obtain ⟨Ac, cc, Az, cz, h1, h2, h3, h4, h5, h6, h7⟩ := hc j hj
  exact ⟨Ac, cc, Az, cz, (hb.cell hlt).trans h1, (hb.cell hlt).trans h2, (hb.cell hlt).trans h3, (hb.cell hlt).trans h4, (hb.cell hlt).trans h5, h6.below hb, h7.below hb⟩
theorem Nds.more (h : Nds w B A v) (hB : B ≤ B') : Nds w B' A v := fun hn => by
  obtain ⟨b, off, e, hlt, hc⟩ := h hn
  refine ⟨b, off, e, Nat.lt_of_lt_of_le hlt hB, fun j hj => ?_⟩
  obtain ⟨Ac, cc, Az, cz, h1, h2, h3, h4, h5, h6, h7⟩ := hc j hj
  exact ⟨Ac, cc, Az, cz, h1, h2, h3, h4, h5, h6.more hB, h7.more hB⟩
theorem Nds.on (h : Nds w w.heap.size A v) (hb : Below w.heap.size w w') : Nds w' w'.heap.size A v := (h.below hb).more hb.size
theorem Nds.drewN (h : Nds w B A v) (n : Nat) : Nds (w.drewN n) B A v := h
theorem Nds.nil (w : World) (B : Nat) (A : Option Addr) : Nds w B A [] := fun h => absurd h (by simp)
theorem Nds.here (h : Nds w B A v) {j : Nat} (hj : j < v.length) : ∃ b off Ac cc Az cz, A = some ⟨b, off, none⟩ ∧ b < B ∧ w.cell? ⟨b, off + j * 5, none⟩ = some (.int .i64 (ndx v j).k) ∧ w.cell? ⟨b, off + j * 5 + 1, none⟩ = some (.string (ndx v j).n) ∧ w.cell? ⟨b, off + j * 5 + 2, none⟩ = some (.slice Ac (ndx v j).c.length cc) ∧ w.cell? ⟨b, off + j * 5 + 3, none⟩ = some (.slice Az (ndx v j).z.length cz) ∧ w.cell? ⟨b, off + j * 5 + 4, none⟩ = some (.int .i64 (ndx v j).p) ∧ Cnds w B Ac (ndx v j).c ∧ Ints w B Az (ndx v j).z := by
  obtain ⟨b, off, e, hlt, hc⟩ := h (by omega)
  obtain ⟨Ac, cc, Az, cz, hh⟩ := hc j hj
  exact ⟨b, off, Ac, cc, Az, cz, e, hlt, hh⟩
end
theorem Blk.c5 {w : World} {G : Nat} {t : TypeId} {a b c d e : Value} (h : Blk w G t #[a, b, c, d, e]) : w.cell? ⟨G, 0, none⟩ = some a ∧ w.cell? ⟨G, 1, none⟩ = some b ∧ w.cell? ⟨G, 2, none⟩ = some c ∧ w.cell? ⟨G, 3, none⟩ = some d ∧ w.cell? ⟨G, 4, none⟩ = some e := by
  have d0 := h.cell 0
  have d1 := h.cell 1
  have d2 := h.cell 2
  have d3 := h.cell 3
  have d4 := h.cell 4
  simp only [List.getElem?_toArray, List.getElem?_cons_zero, List.getElem?_cons_succ] at d0 d1 d2 d3 d4
  exact ⟨d0, d1, d2, d3, d4⟩

/-! ### one that came in -/
theorem array5 {α : Type} {cs : Array α} (h : cs.size = 5) : ∃ c0 c1 c2 c3 c4, cs = #[c0, c1, c2, c3, c4] := by
  obtain ⟨l⟩ := cs
  match l, h with
  | [a, b, c, d, e], _ => exact ⟨a, b, c, d, e, rfl⟩
theorem open_agg5 {H : Type} {enc : TypeId × Value → H} {P : Program} {w : World} {base : Nat} {spare : Nat → Bool} {held : Bool} {r : Reach} {b0 : Nat} {t : TypeId} {f0 f1 f2 f3 f4 : Field} {v : Value} {d : DataW H} {p : List MemPlace} (hs : P.underlying t = some (.struct #[f0, f1, f2, f3, f4])) (hone : oneCellFields P #[f0, f1, f2, f3, f4] = true) (hC : P.cellsOf t = 5)
    (hv : Value.okWide P w r b0 t v) (h : DataW.Trod enc P w base spare held t v d p) :
    ∃ (v0 v1 v2 v3 v4 : Value) (y0 y1 y2 y3 y4 : DataW H × List MemPlace) (n : Nat), v = .agg #[v0, v1, v2, v3, v4] ∧
      DataW.trod enc P w base spare held n f0.type [v0] = some y0 ∧ DataW.trod enc P w base spare held n f1.type [v1] = some y1 ∧ DataW.trod enc P w base spare held n f2.type [v2] = some y2 ∧ DataW.trod enc P w base spare held n f3.type [v3] = some y3 ∧ DataW.trod enc P w base spare held n f4.type [v4] = some y4 := by
  obtain ⟨cs, rfl, hsz⟩ := okWide_struct hs hv
  obtain ⟨c0, c1, c2, c3, c4, rfl⟩ := array5 (hsz.trans hC)
  obtain ⟨fuel, hf⟩ := h
  obtain ⟨xs, n, _, _, hl, hlen, hg⟩ := DataW.trod_struct hs hf
  match xs, hlen with
  | [y0, y1, y2, y3, y4], _ =>
    have g0 := hg 0 f0 rfl
    have g1 := hg 1 f1 rfl
    have g2 := hg 2 f2 rfl
    have g3 := hg 3 f3 rfl
    have g4 := hg 4 f4 rfl
    obtain ⟨o0, k0⟩ := hone_of hone 0 f0 rfl
    obtain ⟨o1, k1⟩ := hone_of hone 1 f1 rfl
    obtain ⟨o2, k2⟩ := hone_of hone 2 f2 rfl
    obtain ⟨o3, k3⟩ := hone_of hone 3 f3 rfl
    obtain ⟨o4, k4⟩ := hone_of hone 4 f4 rfl
    exact ⟨c0, c1, c2, c3, c4, y0, y1, y2, y3, y4, n, rfl, by simpa [Value.cells, o0, k0] using g0, by simpa [Value.cells, o1, k1] using g1, by simpa [Value.cells, o2, k2] using g2, by simpa [Value.cells, o3, k3] using g3, by simpa [Value.cells, o4, k4] using g4⟩
theorem open_slice5 {H : Type} {enc : TypeId × Value → H} {P : Program} {w : World} {base : Nat} {spare : Nat → Bool} {held : Bool} {t e : TypeId} {f0 f1 f2 f3 f4 : Field} {fuel : Nat} {a : Option Addr} {len cap : Nat} {x : DataW H × List MemPlace} (ht : P.underlying t = some (.slice e)) (he : P.underlying e = some (.struct #[f0, f1, f2, f3, f4]))
    (ce : P.cellsOf e = 5) (o0 : f0.offset = 0) (o1 : f1.offset = 1) (o2 : f2.offset = 2) (o3 : f3.offset = 3) (o4 : f4.offset = 4) (c0 : P.cellsOf f0.type = 1) (c1 : P.cellsOf f1.type = 1) (c2 : P.cellsOf f2.type = 1) (c3 : P.cellsOf f3.type = 1) (c4 : P.cellsOf f4.type = 1)
    (h : DataW.trod enc P w base spare held fuel t [.slice a len cap] = some x) :
    (a = none ∧ len = 0) ∨ ∃ ad n, a = some ad ∧ len ≤ maxLen ∧ ∀ i, i < len → ∃ v0 v1 v2 v3 v4 y0 y1 y2 y3 y4, w.cell? (ad.add (i * 5)) = some v0 ∧ w.cell? (ad.add (i * 5 + 1)) = some v1 ∧ w.cell? (ad.add (i * 5 + 2)) = some v2 ∧ w.cell? (ad.add (i * 5 + 3)) = some v3 ∧ w.cell? (ad.add (i * 5 + 4)) = some v4 ∧
      DataW.trod enc P w base spare held n f0.type [v0] = some y0 ∧ DataW.trod enc P w base spare held n f1.type [v1] = some y1 ∧ DataW.trod enc P w base spare held n f2.type [v2] = some y2 ∧ DataW.trod enc P w base spare held n f3.type [v3] = some y3 ∧ DataW.trod enc P w base spare held n f4.type [v4] = some y4 := by
  rcases open_slice ht h with ⟨hcs, _⟩ | ⟨ad, l, c, m, n, D, Pl, hcs, hb, hl, hm, hmm, rfl, hx⟩
  · simp at hcs
    exact .inl ⟨hcs.1, hcs.2.1⟩
  right
  simp at hcs
  obtain ⟨rfl, rfl, rfl⟩ := hcs
  have hlm : len ≤ m := by rw [hmm]; split <;> omega
  refine ⟨ad, n - 1, rfl, by omega, fun i hi => ?_⟩
  obtain ⟨cs', h1, h2⟩ := hx i (by omega)
  rw [ce] at h1
  obtain ⟨_, hlen, hcell⟩ := World.cells?_some h1
  obtain ⟨xs, k, hk, hxy, _, hxl, hf⟩ := DataW.trod_struct he h2
  have hk' : k = n - 1 := by omega
  subst hk'
  match xs, hxl, cs', hlen with
  | [y0, y1, y2, y3, y4], _, [v0, v1, v2, v3, v4], _ =>
    have g0 := hf 0 f0 rfl
    have g1 := hf 1 f1 rfl
    have g2 := hf 2 f2 rfl
    have g3 := hf 3 f3 rfl
    have g4 := hf 4 f4 rfl
    simp [o0, o1, o2, o3, o4, c0, c1, c2, c3, c4] at g0 g1 g2 g3 g4
    have e0 := hcell 0 (by omega)
    have e1 := hcell 1 (by omega)
    have e2 := hcell 2 (by omega)
    have e3 := hcell 3 (by omega)
    have e4 := hcell 4 (by omega)
    rw [addC_add] at e0 e1 e2 e3 e4
    exact ⟨v0, v1, v2, v3, v4, y0, y1, y2, y3, y4, by simpa using e0, by simpa using e1, by simpa using e2, by simpa using e3, by simpa using e4, g0, g1, g2, g3, g4⟩
theorem slice_any {H : Type} {enc : TypeId × Value → H} {W : World} {base : Nat} {held : Bool} {fuel : Nat} {t e : TypeId} {v : Value} {x : DataW H × List MemPlace} (ht : Tryd.prog.underlying t = some (.slice e)) (h : DataW.trod enc Tryd.prog W base (fun _ => true) held fuel t [v] = some x) : ∃ a len cap, v = .slice a len cap := by
  rcases open_slice ht h with ⟨hcs, _⟩ | ⟨ad, l, c, m, n, D, Pl, hcs, _⟩
  · exact ⟨none, 0, 0, by simpa using hcs⟩
  · exact ⟨some ad, l, c, by simpa using hcs⟩
theorem ints_of {H : Type} {enc : TypeId × Value → H} {W : World} {base : Nat} {held : Bool} {fuel : Nat} {a : Option Addr} {len cap : Nat} {x : DataW H × List MemPlace}
    (h : DataW.trod enc Tryd.prog W base (fun _ => true) held fuel 40 [.slice a len cap] = some x) : ∃ ys : List Int, ys.length = len ∧ Ints W W.heap.size a ys ∧ len ≤ maxLen := by
  obtain ⟨zs, hz⟩ : ∃ zs, IsRow .i64 W a len cap zs := by
    rcases open_ints Tryd.underlying40 Tryd.underlying2 (by kernel_rfl) h with ⟨hcs, _⟩ | ⟨x, l, c, zs, hcs, _, hl, hm, hz, _, hcell, hwz⟩
    · simp at hcs
      obtain ⟨rfl, rfl, rfl⟩ := hcs
      exact ⟨[], .inl ⟨rfl, rfl, rfl, rfl⟩⟩
    · simp at hcs
      obtain ⟨rfl, rfl, rfl⟩ := hcs
      exact ⟨zs, .inr ⟨_, rfl, hl, hm, by simpa using hz, hcell, hwz⟩⟩
  obtain ⟨ys, e, hI, hm, _⟩ := isRow_ints hz
  exact ⟨ys, e, hI, hm⟩

set_option maxRecDepth 100000 in
theorem node_of {H : Type} {enc : TypeId × Value → H} {W : World} {base : Nat} {held : Bool} {r : Reach} {b0 : Nat} {v : Value} {d : DataW H} {p : List MemPlace} (hv : Value.okWide Tryd.prog W r b0 42 v)
    (h : DataW.Trod enc Tryd.prog W base (fun _ => true) held 42 v d p) : ∃ (nd : Nd) (Ac : Option Addr) (cc : Nat) (Az : Option Addr) (cz : Nat), v = .agg #[.int .i64 nd.k, .string nd.n, .slice Ac nd.c.length cc, .slice Az nd.z.length cz, .int .i64 nd.p] ∧ Cnds W W.heap.size Ac nd.c ∧ Ints W W.heap.size Az nd.z ∧ fitD maxLen nd := by
  obtain ⟨v0, v1, v2, v3, v4, y0, y1, y2, y3, y4, n, rfl, h0, h1, h2, h3, h4⟩ := open_agg5 Tryd.underlying42 (by kernel_rfl) (by kernel_rfl) hv h
  obtain ⟨k, hv0, _⟩ := DataW.trod_int Tryd.underlying2 h0
  obtain ⟨s, hv1, _, hs⟩ := DataW.trod_string Tryd.underlying9 h1
  obtain ⟨q, hv4, _⟩ := DataW.trod_int Tryd.underlying2 h4
  obtain ⟨Ac, lc, cc, rfl⟩ := slice_any Tryd.underlying39 h2
  obtain ⟨Az, lz, cz, rfl⟩ := slice_any Tryd.underlying40 h3
  obtain ⟨l, rfl, hC, hm⟩ := conds_of h2
  obtain ⟨z, rfl, hZ, hm2⟩ := ints_of h3
  have e0 : v0 = .int .i64 k := by simpa using hv0
  have e1 : v1 = .string s := by simpa using hv1
  have e4 : v4 = .int .i64 q := by simpa using hv4
  subst e0 e1 e4
  exact ⟨⟨k, s, l, z, q⟩, Ac, cc, Az, cz, rfl, hC, hZ, hs, hm, hm2⟩
set_option maxRecDepth 100000 in
theorem nodes_of {H : Type} {enc : TypeId × Value → H} {W : World} {base : Nat} {held : Bool} {fuel : Nat} {a : Option Addr} {len cap : Nat} {x : DataW H × List MemPlace}
    (h : DataW.trod enc Tryd.prog W base (fun _ => true) held fuel 23 [.slice a len cap] = some x) : ∃ v : List Nd, v.length = len ∧ (Nds W W.heap.size a v ∧ fitN maxLen v) ∧ len ≤ maxLen := by
  rcases open_slice5 Tryd.underlying23 Tryd.underlying42 (by kernel_rfl) rfl rfl rfl rfl rfl (by kernel_rfl) (by kernel_rfl) (by kernel_rfl) (by kernel_rfl) (by kernel_rfl) h with ⟨rfl, rfl⟩ | ⟨ad, n, rfl, hm, hat⟩
  · exact ⟨[], rfl, ⟨Nds.nil _ _ _, fun j hj => absurd hj (by simp)⟩, by decide⟩
  · have hkey : ∀ i, i < len → ∃ y : Nd, ∃ Ac cc Az cz, W.cell? (ad.add (i * 5)) = some (.int .i64 y.k) ∧ W.cell? (ad.add (i * 5 + 1)) = some (.string y.n) ∧ W.cell? (ad.add (i * 5 + 2)) = some (.slice Ac y.c.length cc) ∧ W.cell? (ad.add (i * 5 + 3)) = some (.slice Az y.z.length cz) ∧ W.cell? (ad.add (i * 5 + 4)) = some (.int .i64 y.p) ∧ Cnds W W.heap.size Ac y.c ∧ Ints W W.heap.size Az y.z ∧ fitD maxLen y := by
      intro i hi
      obtain ⟨v0, v1, v2, v3, v4, y0, y1, y2, y3, y4, k0, k1, k2, k3, k4, t0, t1, t2, t3, t4⟩ := hat i hi
      obtain ⟨k, hv0, _⟩ := DataW.trod_int Tryd.underlying2 t0
      obtain ⟨s, hv1, _, hs⟩ := DataW.trod_string Tryd.underlying9 t1
      obtain ⟨q, hv4, _⟩ := DataW.trod_int Tryd.underlying2 t4
      obtain ⟨Ac, lc, cc, rfl⟩ := slice_any Tryd.underlying39 t2
      obtain ⟨Az, lz, cz, rfl⟩ := slice_any Tryd.underlying40 t3
      obtain ⟨l, rfl, hC, hm1⟩ := conds_of t2
      obtain ⟨z, rfl, hZ, hm2⟩ := ints_of t3
      have e0 : v0 = .int .i64 k := by simpa using hv0
      have e1 : v1 = .string s := by simpa using hv1
      have e4 : v4 = .int .i64 q := by simpa using hv4
      subst e0 e1 e4
      exact ⟨⟨k, s, l, z, q⟩, Ac, cc, Az, cz, k0, k1, k2, k3, k4, hC, hZ, hs, hm1, hm2⟩
    obtain ⟨f, hf⟩ := choose_lt (α := Nd) hkey
    have hlen : ((List.range len).map f).length = len := by simp
    have hr : ∀ j, j < len → ndx ((List.range len).map f) j = f j := by
      intro j hj
      simp [ndx, hj]
    refine ⟨(List.range len).map f, hlen, ⟨fun hn => ?_, fun j hj => ?_⟩, hm⟩
    · have hn' : 0 < len := by rw [hlen] at hn; exact hn
      obtain ⟨b, off, spot⟩ := ad
      obtain ⟨Ac, cc, Az, cz, k0, _⟩ := hf 0 hn'
      have hspot : spot = none := by simpa [Addr.add] using World.cell?_spot k0
      subst hspot
      refine ⟨b, off, rfl, by simpa [Addr.add] using cell_lt k0, fun j hj => ?_⟩
      rw [hlen] at hj
      obtain ⟨Ac, cc, Az, cz, h0, h1, h2, h3, h4, h5, h6, _⟩ := hf j hj
      rw [addC_plain] at h0 h1 h2 h3 h4
      rw [hr j hj]
      exact ⟨Ac, cc, Az, cz, h0, h1, h2, h3, h4, h5, h6⟩
    · rw [hlen] at hj
      obtain ⟨_, _, _, _, _, _, _, _, _, _, _, h7⟩ := hf j hj
      rw [hr j hj]
      exact h7
end Go.Proofs.YtejgofhpjkebbaaDoor
