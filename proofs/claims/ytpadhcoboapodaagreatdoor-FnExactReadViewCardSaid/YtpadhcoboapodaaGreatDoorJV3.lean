/- Texts joined: Nod0, NodL, Deed1, DeedThy, CndThy, QuietB: contracts and plain facts; each says its own below. -/
import Derived.Test.YtpadhcoboapodaaGreatDoorJV2
import Derived.Test.YtpadhcoboapodaaGreatDoorJC
import Derived.Test.YtpadhcoboapodaaGreatDoorJA
import Derived.OpenShut
import Derived.ShutString
import Derived.Lib.SmallJoins
import Derived.Test.YtpadhcoboapodaaGreatDoorJB
import Derived.StillTailTactics
import Derived.Test.YtpadhcoboapodaaGreatDoorJV1
import Derived.Lib.IndexMore
import Derived.Deep.QuietTactic
import Derived.BigQuiet
/- Nodes and views: words and plain facts; how they lie in memory; one that came in. No condition; of the program only types are named. -/
namespace Go.Proofs.YtpadhcoboapodaaGreatDoor
open Go.ChangeShapes Go.WideShapes Go.ChangeAt Go.RowKit Go.Deep Go.Joins

/-- A node as it is meant: kind, name, conds, places, place. -/
structure Nd where
  k : Int
  n : ByteArray
  c : List Cnd
  z : List Int
  p : Int
def zeroN : Nd := ⟨0, ⟨#[]⟩, [], [], 0⟩
instance : Inhabited Nd := ⟨zeroN⟩
def ndx (v : List Nd) (j : Nat) : Nd := v[j]?.getD zeroN
theorem ndx_eq (v : List Nd) (j : Nat) (h : j < v.length) : ndx v j = v[j] := by simp [ndx, h]
theorem ndx_mem {v : List Nd} {j : Nat} (h : j < v.length) : ndx v j ∈ v := by rw [ndx_eq v j h]; exact List.getElem_mem h
/-- No part of a node is longer than m. -/
def fitD (m : Nat) (d : Nd) : Prop := d.n.size ≤ m ∧ d.c.length ≤ m ∧ d.z.length ≤ m
def fitN (m : Nat) (v : List Nd) : Prop := ∀ j, j < v.length → fitD m (ndx v j)

def lenB (k : Int) (m : Nat) : Bool := if k = 3 then inB (m : Int) 1 6 else if k = 4 then decide (m = 2) else decide (m ≤ 3)
def nameD (d : Nd) : Bool := if d.k = 1 then nameB d.n else decide (d.n.size = 0)
def condsD (d : Nd) : Bool := if d.k = 2 then rightB d.c else decide (d.c.length = 0)
def placesD (d : Nd) : Bool := (decide (d.k = 3 ∨ d.k = 4 ∨ d.k = 7) || decide (d.z.length = 0)) && (placesB d.z 6 && lenB d.k d.z.length)
def placeD (d : Nd) : Bool := if d.k = 7 then inB d.p (-1) 5 else decide (d.p = -1)
/-- Which nodes are right. -/
def nodeB (d : Nd) : Bool := inB d.k 1 7 && (nameD d && (condsD d && (placesD d && placeD d)))
theorem nodeB_k {d : Nd} (h : inB d.k 1 7 = false) : nodeB d = false := by unfold nodeB; rw [h]; rfl
theorem nodeB_n {d : Nd} (h : nameD d = false) : nodeB d = false := by unfold nodeB; rw [h]; simp
theorem nodeB_c {d : Nd} (h : condsD d = false) : nodeB d = false := by unfold nodeB; rw [h]; simp
theorem nodeB_z {d : Nd} (h : placesD d = false) : nodeB d = false := by unfold nodeB; rw [h]; simp
theorem nodeB_p {d : Nd} (h : placeD d = false) : nodeB d = false := by unfold nodeB; rw [h]; simp
theorem nodeB_is {d : Nd} (h1 : inB d.k 1 7 = true) (h2 : nameD d = true) (h3 : condsD d = true) (h4 : placesD d = true) : nodeB d = placeD d := by unfold nodeB; rw [h1, h2, h3, h4]; rfl
theorem nodeB_all {d : Nd} (h : nodeB d = true) : inB d.k 1 7 = true ∧ nameD d = true ∧ condsD d = true ∧ placesD d = true ∧ placeD d = true := by
  unfold nodeB at h
  simp only [Bool.and_eq_true] at h
  exact h
theorem rightB_nil : rightB [] = true := rfl

/-- How many nodes one looks at. -/
def looksN (k : Int) : Nat := if k = 1 then 0 else if k = 4 ∨ k = 5 then 2 else 1
def freeAt (v : List Nd) (k : Nat) : Int := (v.take k).foldl (fun a d => a + 1 - (looksN d.k : Int)) 0
theorem freeAt_zero (v : List Nd) : freeAt v 0 = 0 := rfl
theorem freeAt_succ {v : List Nd} {k : Nat} (h : k < v.length) : freeAt v (k + 1) = freeAt v k + 1 - (looksN (ndx v k).k : Int) := by
  unfold freeAt
  rw [List.take_succ_eq_append_getElem h, List.foldl_append, ← ndx_eq v k h]; rfl
theorem looksN_le (k : Int) : looksN k ≤ 2 := by unfold looksN; split; · omega
                                                 · split <;> omega
theorem freeAt_bound (v : List Nd) : ∀ k, k ≤ v.length → -(k : Int) ≤ freeAt v k ∧ freeAt v k ≤ k
  | 0, _ => by rw [freeAt_zero]; simp
  | k + 1, h => by
    have := freeAt_bound v k (by omega)
    have h2 := looksN_le (ndx v k).k
    rw [freeAt_succ (by omega)]
    omega
def okNd (v : List Nd) (k : Nat) : Bool := nodeB (ndx v k) && decide ((looksN (ndx v k).k : Int) ≤ freeAt v k)
/-- Which lists of nodes are views. -/
def viewB (v : List Nd) : Bool := (List.range v.length).all (okNd v) && (decide (freeAt v v.length = 1) && decide (v.length ≤ 9))
theorem okNd_succ (v : List Nd) (k : Nat) : (List.range (k + 1)).all (okNd v) = ((List.range k).all (okNd v) && okNd v k) := by
  rw [List.range_succ, List.all_append]; simp
theorem viewB_stop {v : List Nd} {k : Nat} (hk : k < v.length) (h : okNd v k = false) : viewB v = false := by
  unfold viewB
  rw [List.all_eq_false.2 ⟨k, List.mem_range.2 hk, by rw [h]; simp⟩]
  rfl
theorem viewB_end {v : List Nd} (h : (List.range v.length).all (okNd v) = true) : viewB v = (decide (freeAt v v.length = 1) && decide (v.length ≤ 9)) := by unfold viewB; rw [h, Bool.true_and]
theorem viewB_all {v : List Nd} (h : viewB v = true) : (∀ k, k < v.length → okNd v k = true) ∧ freeAt v v.length = 1 ∧ v.length ≤ 9 := by
  unfold viewB at h
  simp only [Bool.and_eq_true, decide_eq_true_eq, List.all_eq_true, List.mem_range] at h
  exact h

/-! ### in memory -/
/-- The slice value '.slice A v.length c' reads as these nodes. -/
def Nds (w : World) (B : Nat) (A : Option Addr) (v : List Nd) : Prop :=
  0 < v.length → ∃ b off, A = some ⟨b, off, none⟩ ∧ b < B ∧ ∀ j, j < v.length → ∃ Ac cc Az cz, w.cell? ⟨b, off + j * 5, none⟩ = some (.int .i64 (ndx v j).k) ∧ w.cell? ⟨b, off + j * 5 + 1, none⟩ = some (.string (ndx v j).n) ∧ w.cell? ⟨b, off + j * 5 + 2, none⟩ = some (.slice Ac (ndx v j).c.length cc) ∧ w.cell? ⟨b, off + j * 5 + 3, none⟩ = some (.slice Az (ndx v j).z.length cz) ∧ w.cell? ⟨b, off + j * 5 + 4, none⟩ = some (.int .i64 (ndx v j).p) ∧ Cnds w B Ac (ndx v j).c ∧ Ints w B Az (ndx v j).z
section
variable {w w' : World} {B B' : Nat} {A : Option Addr} {v : List Nd}
theorem Nds.below (h : Nds w B A v) (hb : Below B w w') : Nds w' B A v := fun hn => by
  obtain ⟨b, off, e, hlt, hc⟩ := h hn
  refine ⟨b, off, e, hlt, fun j hj => ?_⟩
  obtain ⟨Ac, cc, Az, cz, h1, h2, h3, h4, h5, h6, h7⟩ := hc j hj
  exact ⟨Ac, cc, Az, cz, (hb.cell hlt).trans h1, (hb.cell hlt).trans h2, (hb.cell hlt).trans h3, (hb.cell hlt).trans h4, (hb.cell hlt).trans h5, h6.below hb, h7.below hb⟩
theorem Nds.more (h : Nds w B A v) (hB : B ≤ B') : Nds w B' A v := fun hn => by
  obtain ⟨b, off, e, hlt, hc⟩ := h hn
  refine ⟨b, off, e, Nat.lt_of_lt_of_le hlt hB, fun j hj => ?_⟩
  obtain ⟨Ac, cc, Az, cz, h1, h2, h3, h4, h5, h6, h7⟩ := hc j hj
  exact ⟨Ac, cc, Az, cz, h1, h2, h3, h4, h5, h6.more hB, h7.more hB⟩
theorem Nds.on (h : Nds w w.heap.size A v) (hb : Below w.heap.size w w') : Nds w' w'.heap.size A v := (h.below hb).more hb.size
theorem Nds.drewN (h : Nds w B A v) (n : Nat) : Nds (w.drewN n) B A v := h
theorem Nds.nil (w : World) (B : Nat) (A : Option Addr) : Nds w B A [] := fun h => absurd h (by simp)
theorem Nds.here (h : Nds w B A v) {j : Nat} (hj : j < v.length) : ∃ b off Ac cc Az cz, A = some ⟨b, off, none⟩ ∧ b < B ∧ w.cell? ⟨b, off + j * 5, none⟩ = some (.int .i64 (ndx v j).k) ∧ w.cell? ⟨b, off + j * 5 + 1, none⟩ = some (.string (ndx v j).n) ∧ w.cell? ⟨b, off + j * 5 + 2, none⟩ = some (.slice Ac (ndx v j).c.length cc) ∧ w.cell? ⟨b, off + j * 5 + 3, none⟩ = some (.slice Az (ndx v j).z.length cz) ∧ w.cell? ⟨b, off + j * 5 + 4, none⟩ = some (.int .i64 (ndx v j).p) ∧ Cnds w B Ac (ndx v j).c ∧ Ints w B Az (ndx v j).z := by
  obtain ⟨b, off, e, hlt, hc⟩ := h (by omega)
  obtain ⟨Ac, cc, Az, cz, hh⟩ := hc j hj
  exact ⟨b, off, Ac, cc, Az, cz, e, hlt, hh⟩
end
theorem Blk.c5 {w : World} {G : Nat} {t : TypeId} {a b c d e : Value} (h : Blk w G t #[a, b, c, d, e]) : w.cell? ⟨G, 0, none⟩ = some a ∧ w.cell? ⟨G, 1, none⟩ = some b ∧ w.cell? ⟨G, 2, none⟩ = some c ∧ w.cell? ⟨G, 3, none⟩ = some d ∧ w.cell? ⟨G, 4, none⟩ = some e := by
  have d0 := h.cell 0
  have d1 := h.cell 1
  have d2 := h.cell 2
  have d3 := h.cell 3
  have d4 := h.cell 4
  simp only [List.getElem?_toArray, List.getElem?_cons_zero, List.getElem?_cons_succ] at d0 d1 d2 d3 d4
  exact ⟨d0, d1, d2, d3, d4⟩

/-! ### one that came in -/
theorem array5 {α : Type} {cs : Array α} (h : cs.size = 5) : ∃ c0 c1 c2 c3 c4, cs = #[c0, c1, c2, c3, c4] := by
  obtain ⟨l⟩ := cs
  match l, h with
  | [a, b, c, d, e], _ => exact ⟨a, b, c, d, e, rfl⟩
theorem open_agg5 {H : Type} {enc : TypeId × Value → H} {P : Program} {w : World} {base : Nat} {spare : Nat → Bool} {held : Bool} {r : Reach} {b0 : Nat} {t : TypeId} {f0 f1 f2 f3 f4 : Field} {v : Value} {d : DataW H} {p : List MemPlace} (hs : P.underlying t = some (.struct #[f0, f1, f2, f3, f4])) (hone : oneCellFields P #[f0, f1, f2, f3, f4] = true) (hC : P.cellsOf t = 5)
    (hv : Value.okWide P w r b0 t v) (h : DataW.Trod enc P w base spare held t v d p) :
    ∃ (v0 v1 v2 v3 v4 : Value) (y0 y1 y2 y3 y4 : DataW H × List MemPlace) (n : Nat), v = .agg #[v0, v1, v2, v3, v4] ∧
      DataW.trod enc P w base spare held n f0.type [v0] = some y0 ∧ DataW.trod enc P w base spare held n f1.type [v1] = some y1 ∧ DataW.trod enc P w base spare held n f2.type [v2] = some y2 ∧ DataW.trod enc P w base spare held n f3.type [v3] = some y3 ∧ DataW.trod enc P w base spare held n f4.type [v4] = some y4 := by
  obtain ⟨cs, rfl, hsz⟩ := okWide_struct hs hv
  obtain ⟨c0, c1, c2, c3, c4, rfl⟩ := array5 (hsz.trans hC)
  obtain ⟨fuel, hf⟩ := h
  obtain ⟨xs, n, _, _, hl, hlen, hg⟩ := DataW.trod_struct hs hf
  match xs, hlen with
  | [y0, y1, y2, y3, y4], _ =>
    have g0 := hg 0 f0 rfl
    have g1 := hg 1 f1 rfl
    have g2 := hg 2 f2 rfl
    have g3 := hg 3 f3 rfl
    have g4 := hg 4 f4 rfl
    obtain ⟨o0, k0⟩ := hone_of hone 0 f0 rfl
    obtain ⟨o1, k1⟩ := hone_of hone 1 f1 rfl
    obtain ⟨o2, k2⟩ := hone_of hone 2 f2 rfl
    obtain ⟨o3, k3⟩ := hone_of hone 3 f3 rfl
    obtain ⟨o4, k4⟩ := hone_of hone 4 f4 rfl
    exact ⟨c0, c1, c2, c3, c4, y0, y1, y2, y3, y4, n, rfl, by simpa [Value.cells, o0, k0] using g0, by simpa [Value.cells, o1, k1] using g1, by simpa [Value.cells, o2, k2] using g2, by simpa [Value.cells, o3, k3] using g3, by simpa [Value.cells, o4, k4] using g4⟩
theorem open_slice5 {H : Type} {enc : TypeId × Value → H} {P : Program} {w : World} {base : Nat} {spare : Nat → Bool} {held : Bool} {t e : TypeId} {f0 f1 f2 f3 f4 : Field} {fuel : Nat} {a : Option Addr} {len cap : Nat} {x : DataW H × List MemPlace} (ht : P.underlying t = some (.slice e)) (he : P.underlying e = some (.struct #[f0, f1, f2, f3, f4]))
    (ce : P.cellsOf e = 5) (o0 : f0.offset = 0) (o1 : f1.offset = 1) (o2 : f2.offset = 2) (o3 : f3.offset = 3) (o4 : f4.offset = 4) (c0 : P.cellsOf f0.type = 1) (c1 : P.cellsOf f1.type = 1) (c2 : P.cellsOf f2.type = 1) (c3 : P.cellsOf f3.type = 1) (c4 : P.cellsOf f4.type = 1)
    (h : DataW.trod enc P w base spare held fuel t [.slice a len cap] = some x) :
    (a = none ∧ len = 0) ∨ ∃ ad n, a = some ad ∧ len ≤ maxLen ∧ ∀ i, i < len → ∃ v0 v1 v2 v3 v4 y0 y1 y2 y3 y4, w.cell? (ad.add (i * 5)) = some v0 ∧ w.cell? (ad.add (i * 5 + 1)) = some v1 ∧ w.cell? (ad.add (i * 5 + 2)) = some v2 ∧ w.cell? (ad.add (i * 5 + 3)) = some v3 ∧ w.cell? (ad.add (i * 5 + 4)) = some v4 ∧
      DataW.trod enc P w base spare held n f0.type [v0] = some y0 ∧ DataW.trod enc P w base spare held n f1.type [v1] = some y1 ∧ DataW.trod enc P w base spare held n f2.type [v2] = some y2 ∧ DataW.trod enc P w base spare held n f3.type [v3] = some y3 ∧ DataW.trod enc P w base spare held n f4.type [v4] = some y4 := by
  rcases open_slice ht h with ⟨hcs, _⟩ | ⟨ad, l, c, m, n, D, Pl, hcs, hb, hl, hm, hmm, rfl, hx⟩
  · simp at hcs
    exact .inl ⟨hcs.1, hcs.2.1⟩
  right
  simp at hcs
  obtain ⟨rfl, rfl, rfl⟩ := hcs
  have hlm : len ≤ m := by rw [hmm]; split <;> omega
  refine ⟨ad, n - 1, rfl, by omega, fun i hi => ?_⟩
  obtain ⟨cs', h1, h2⟩ := hx i (by omega)
  rw [ce] at h1
  obtain ⟨_, hlen, hcell⟩ := World.cells?_some h1
  obtain ⟨xs, k, hk, hxy, _, hxl, hf⟩ := DataW.trod_struct he h2
  have hk' : k = n - 1 := by omega
  subst hk'
  match xs, hxl, cs', hlen with
  | [y0, y1, y2, y3, y4], _, [v0, v1, v2, v3, v4], _ =>
    have g0 := hf 0 f0 rfl
    have g1 := hf 1 f1 rfl
    have g2 := hf 2 f2 rfl
    have g3 := hf 3 f3 rfl
    have g4 := hf 4 f4 rfl
    simp [o0, o1, o2, o3, o4, c0, c1, c2, c3, c4] at g0 g1 g2 g3 g4
    have e0 := hcell 0 (by omega)
    have e1 := hcell 1 (by omega)
    have e2 := hcell 2 (by omega)
    have e3 := hcell 3 (by omega)
    have e4 := hcell 4 (by omega)
    rw [addC_add] at e0 e1 e2 e3 e4
    exact ⟨v0, v1, v2, v3, v4, y0, y1, y2, y3, y4, by simpa using e0, by simpa using e1, by simpa using e2, by simpa using e3, by simpa using e4, g0, g1, g2, g3, g4⟩
theorem slice_any {H : Type} {enc : TypeId × Value → H} {W : World} {base : Nat} {held : Bool} {fuel : Nat} {t e : TypeId} {v : Value} {x : DataW H × List MemPlace} (ht : Tryz.prog.underlying t = some (.slice e)) (h : DataW.trod enc Tryz.prog W base (fun _ => true) held fuel t [v] = some x) : ∃ a len cap, v = .slice a len cap := by
  rcases open_slice ht h with ⟨hcs, _⟩ | ⟨ad, l, c, m, n, D, Pl, hcs, _⟩
  · exact ⟨none, 0, 0, by simpa using hcs⟩
  · exact ⟨some ad, l, c, by simpa using hcs⟩
theorem ints_of {H : Type} {enc : TypeId × Value → H} {W : World} {base : Nat} {held : Bool} {fuel : Nat} {a : Option Addr} {len cap : Nat} {x : DataW H × List MemPlace}
    (h : DataW.trod enc Tryz.prog W base (fun _ => true) held fuel 31 [.slice a len cap] = some x) : ∃ ys : List Int, ys.length = len ∧ Ints W W.heap.size a ys ∧ len ≤ maxLen := by
  obtain ⟨zs, hz⟩ : ∃ zs, IsRow .i64 W a len cap zs := by
    rcases open_ints Tryz.underlying31 Tryz.underlying2 (by kernel_rfl) h with ⟨hcs, _⟩ | ⟨x, l, c, zs, hcs, _, hl, hm, hz, _, hcell, hwz⟩
    · simp at hcs
      obtain ⟨rfl, rfl, rfl⟩ := hcs
      exact ⟨[], .inl ⟨rfl, rfl, rfl, rfl⟩⟩
    · simp at hcs
      obtain ⟨rfl, rfl, rfl⟩ := hcs
      exact ⟨zs, .inr ⟨_, rfl, hl, hm, by simpa using hz, hcell, hwz⟩⟩
  obtain ⟨ys, e, hI, hm, _⟩ := isRow_ints hz
  exact ⟨ys, e, hI, hm⟩

end Go.Proofs.YtpadhcoboapodaaGreatDoor

/- The laws' words on nodes and views: sizes, copies, comparing; nothing that lay has turned. -/
namespace Go.Proofs.YtpadhcoboapodaaGreatDoor
open Go.RowKit

/-! ### sizes -/
def SzN (P : Prop) (left : Int) (w : World) (e : Ending) (w' : World) : Prop := ∃ x, e = .returned (.int .i64 x) ∧ x ≤ left ∧ (0 ≤ x → P) ∧ Below w.heap.size w w'
/-! ### copies -/
/-- A node that the laws copied. -/
def NodeAt (d : Nd) (w : World) (e : Ending) (w' : World) : Prop :=
  ∃ gc gz, e = .returned (.agg #[.int .i64 d.k, .string d.n, .slice (some ⟨gc, 0, none⟩) d.c.length d.c.length, .slice (some ⟨gz, 0, none⟩) d.z.length d.z.length, .int .i64 d.p]) ∧ w.heap.size ≤ gc ∧ w.heap.size ≤ gz ∧ CAt w' gc d.c ∧ Blk w' gz 2 (i64s d.z) ∧ Below w.heap.size w w'
theorem bel_three {w : World} (o o' o2 : Obj) : Below w.heap.size w (((w.alloc o).alloc o').alloc o2) := (bel_two o o').alloc (by simp; omega) o2
/-! ### comparing -/
set_option maxRecDepth 100000 in
set_option maxHeartbeats 2000000 in
/-- Two nodes alike: the laws' eqNode says so. -/
theorem eqNode_same (d : Nd) (Ac Ac' Az Az' : Option Addr) (cc cc' cz cz' : Nat) (w : World) (hC : Cnds w w.heap.size Ac d.c) (hC' : Cnds w w.heap.size Ac' d.c) (hZ : Ints w w.heap.size Az d.z) (hZ' : Ints w w.heap.size Az' d.z) (hf : fitD 1048576 d) :
    Calls Tryz.prog 15 #[.agg #[.int .i64 d.k, .string d.n, .slice Ac d.c.length cc, .slice Az d.z.length cz, .int .i64 d.p], .agg #[.int .i64 d.k, .string d.n, .slice Ac' d.c.length cc', .slice Az' d.z.length cz', .int .i64 d.p]] w fun e w' => e = .returned (.bool true) ∧ Below w.heap.size w w' := by
  obtain ⟨_, hlc, hlz⟩ := hf
  have bc := bel_two (w := w) (.cells #[.int .i64 d.k, .string d.n, .slice Ac d.c.length cc, .slice Az d.z.length cz, .int .i64 d.p] 33) (.cells #[.int .i64 d.k, .string d.n, .slice Ac' d.c.length cc', .slice Az' d.z.length cz', .int .i64 d.p] 33)
  have B1 := (Blk.new w 33 #[.int .i64 d.k, .string d.n, .slice Ac d.c.length cc, .slice Az d.z.length cz, .int .i64 d.p]).alloc (.cells #[.int .i64 d.k, .string d.n, .slice Ac' d.c.length cc', .slice Az' d.z.length cz', .int .i64 d.p] 33)
  have B2 := Blk.new (w.alloc (.cells #[.int .i64 d.k, .string d.n, .slice Ac d.c.length cc, .slice Az d.z.length cz, .int .i64 d.p] 33)) 33 #[.int .i64 d.k, .string d.n, .slice Ac' d.c.length cc', .slice Az' d.z.length cz', .int .i64 d.p]
  rw [World.size_alloc] at B2
  have hCb := hC.on bc
  have hCb' := hC'.on bc
  have hZb := hZ.on bc
  have hZb' := hZ'.on bc
  have hkk : (d.k != d.k) = false := by simp
  have hpp : (d.p != d.p) = false := by simp
  clear hC hC' hZ hZ'
  go_enter Tryz.func15, Tryz.ntmps15
  go_wp2_with fail
  generalize (w.alloc (.cells #[.int .i64 d.k, .string d.n, .slice Ac d.c.length cc, .slice Az d.z.length cz, .int .i64 d.p] 33)).alloc (.cells #[.int .i64 d.k, .string d.n, .slice Ac' d.c.length cc', .slice Az' d.z.length cz', .int .i64 d.p] 33) = wb at *
  refine (eqCondS_any Ac Ac' cc cc' d.c d.c wb hCb hCb' (by omega) (by omega)).mono ?_
  rintro e w1 ⟨rfl, hb1⟩
  rw [decide_eq_true (rfl : d.c = d.c)]
  have hW1 := bel_step bc hb1
  have hZ1 := hZb.on hb1
  have hZ1' := hZb'.on hb1
  obtain ⟨p0, p1, p2, p3, p4⟩ := (B1.on hb1).c5
  obtain ⟨q0, q1, q2, q3, q4⟩ := (B2.on hb1).c5
  have B1 := B1.on hb1
  have B2 := B2.on hb1
  clear hCb hCb' hZb hZb' hb1 bc
  go_wp2_with fail
  refine (eqInt64S_any Az Az' cz cz' d.z d.z w1 _ _ hZ1 hZ1' (by omega) (by omega)).mono ?_
  rintro e w2 ⟨rfl, n2, hw2⟩
  rw [decide_eq_true (rfl : d.z = d.z)]
  have hW2 : Below w.heap.size w w2 := by rw [hw2]; exact bel_drewN hW1 n2
  have B1' := B1.drewN n2
  have B2' := B2.drewN n2
  rw [← hw2] at B1' B2'
  clear p0 p1 p2 p3 p4 q0 q1 q2 q3 q4 hw2 hZ1 hZ1' hW1 B1 B2
  obtain ⟨p0, p1, p2, p3, p4⟩ := B1'.c5
  obtain ⟨q0, q1, q2, q3, q4⟩ := B2'.c5
  go_wp2
  go_ret
  exact ⟨rfl, hW2⟩
set_option maxRecDepth 100000 in
set_option maxHeartbeats 2000000 in
theorem eqNodeS_same (A A' : Option Addr) (c c' : Nat) (v : List Nd) (w : World) (hB : Nds w w.heap.size A v) (hB' : Nds w w.heap.size A' v) (hf : fitN 1048576 v) (hl : v.length ≤ 1099511627776) :
    Calls Tryz.prog 6 #[.slice A v.length c, .slice A' v.length c'] w fun e w' => e = .returned (.bool true) ∧ Below w.heap.size w w' := by
  have hb : ((v.length : Int) != (v.length : Int)) = false := by simp
  have HFT := Lib.hid hf
  clear hf
  go_enter Tryz.func6, Tryz.ntmps6
  go_wp2
  go_loopw [5] (fun i wr => ∃ k : Nat, k ≤ v.length ∧ i = .int .i64 k ∧ Below w.heap.size w wr) (fun i _ => v.length - (intOf i).toNat)
  case atStart => exact ⟨0, Nat.zero_le _, rfl, Below.refl _ _⟩
  case round =>
    obtain ⟨k, hk, rfl, hW⟩ := hrel
    have hBr := hB.on hW
    have hBr' := hB'.on hW
    clear hB hB' hb
    by_cases hlt : k < v.length
    · obtain ⟨b, off, Ac, cc, Az, cz, rfl, _, h0, h1, h2, h3, h4, hC, hZ⟩ := hBr.here hlt
      obtain ⟨b', off', Ac', cc', Az', cz', rfl, _, h0', h1', h2', h3', h4', hC', hZ'⟩ := hBr'.here hlt
      go_wp2_with fail
      go_still_tail 8, (by kernel_rfl)
      change wpList _ _ _ _ _ wr.drew
      have hW2 : Below w.heap.size w wr.drew := bel_drewN hW 1
      have i1 : Cnds wr.drew wr.drew.heap.size Ac (ndx v k).c := hC
      have i2 : Cnds wr.drew wr.drew.heap.size Ac' (ndx v k).c := hC'
      have i3 : Ints wr.drew wr.drew.heap.size Az (ndx v k).z := hZ
      have i4 : Ints wr.drew wr.drew.heap.size Az' (ndx v k).z := hZ'
      clear h0 h1 h2 h3 h4 h0' h1' h2' h3' h4' hC hC' hZ hZ' hW hBr hBr'
      generalize wr.drew = wd at *
      go_wp2_with fail
      refine (eqNode_same (ndx v k) Ac Ac' Az Az' cc cc' cz cz' wd i1 i2 i3 i4 (HFT.out k hlt)).mono ?_
      rintro e w1 ⟨rfl, hb1⟩
      have hW3 : Below w.heap.size w w1 := bel_step hW2 hb1
      go_wp2
      go_roundw
      case rel => exact ⟨k + 1, by omega, by go_num, hW3⟩
      case measure => simp [intOf]; omega
    · have hd : decide (k < v.length) = false := by simpa using hlt
      go_wp2
      go_ret
      exact ⟨rfl, hW⟩
end Go.Proofs.YtpadhcoboapodaaGreatDoor

/- A deed: what DeedOk says of it, of the model and of the program; the laws' copies and sizes of one; nothing that lay has turned. -/
namespace Go.Proofs.YtpadhcoboapodaaGreatDoor
open Go.RowKit

/-- What a deed's kind asks of how many numbers there are. -/
def kindB (k : Int) (n : Nat) : Bool := if k = 1 ∨ k = 3 then decide (0 < n) else if k = 2 ∨ k = 4 ∨ k = 5 then decide (n = 1) else decide (k = 6) && decide (n = 0)
def deedB (k : Int) (s : ByteArray) (zs : List Int) : Bool := nameB s && (rowOkB zs && kindB k zs.length)
theorem deedB_name {k : Int} {s : ByteArray} {zs : List Int} (h : nameB s = false) : deedB k s zs = false := by unfold deedB; rw [h]; rfl
theorem deedB_row {k : Int} {s : ByteArray} {zs : List Int} (h : rowOkB zs = false) : deedB k s zs = false := by unfold deedB; rw [h, Bool.false_and, Bool.and_false]
theorem deedB_is {k : Int} {s : ByteArray} {zs : List Int} (h : nameB s = true) (h2 : rowOkB zs = true) : deedB k s zs = kindB k zs.length := by unfold deedB; rw [h, h2]; rfl
theorem deedB_all {k : Int} {s : ByteArray} {zs : List Int} (h : deedB k s zs = true) : nameB s = true ∧ rowOkB zs = true ∧ kindB k zs.length = true := by
  unfold deedB at h
  rw [Bool.and_eq_true, Bool.and_eq_true] at h
  exact h
theorem rowOkB_six {zs : List Int} (h : rowOkB zs = true) : zs.length ≤ 6 := by
  unfold rowOkB at h
  rw [Bool.and_eq_true] at h
  exact of_decide_eq_true h.2
theorem kind_cases (k : Int) : k = 1 ∨ k = 2 ∨ k = 3 ∨ k = 4 ∨ k = 5 ∨ k = 6 ∨ (k ≠ 1 ∧ k ≠ 2 ∧ k ≠ 3 ∧ k ≠ 4 ∧ k ≠ 5 ∧ k ≠ 6) := by omega

/-- A deed in memory: its value. -/
def deedV (k : Int) (s : ByteArray) (A : Option Addr) (n c : Nat) : Value := .agg #[.int .i64 k, .string s, .slice A n c]

def SzD (s : ByteArray) (n : Nat) (w : World) (e : Ending) (w' : World) : Prop :=
  ∃ x, e = .returned (.int .i64 x) ∧ (0 ≤ x → s.size ≤ 1048576 ∧ n ≤ 1048576) ∧ Below w.heap.size w w'
/-- A deed that the laws copied. -/
def DeedAt (k : Int) (s : ByteArray) (zs : List Int) (w : World) (e : Ending) (w' : World) : Prop :=
  ∃ g, e = .returned (.agg #[.int .i64 k, .string s, .slice (some ⟨g, 0, none⟩) zs.length zs.length]) ∧ w.heap.size ≤ g ∧ Blk w' g 2 (i64s zs) ∧ Below w.heap.size w w'
end Go.Proofs.YtpadhcoboapodaaGreatDoor

/- Deeds as texts: how they are shown, how the model and the program read them, and that both read alike: plain facts. -/
namespace Go.Proofs.YtpadhcoboapodaaGreatDoor
open Go.RowKit

/-- The word of a kind; the kind of a word. -/
def wordL (k : Int) : List UInt8 := if k = 1 then [112, 117, 116] else if k = 2 then [99, 117, 116] else if k = 3 then [115, 101, 116] else if k = 4 then [109, 117, 115, 116] else if k = 5 then [109, 97, 107, 101] else if k = 6 then [100, 114, 111, 112] else []
def kindL (l : List UInt8) : Int := if l = [112, 117, 116] then 1 else if l = [99, 117, 116] then 2 else if l = [115, 101, 116] then 3 else if l = [109, 117, 115, 116] then 4 else if l = [109, 97, 107, 101] then 5 else if l = [100, 114, 111, 112] then 6 else 0
theorem word_kind {l : List UInt8} (h : kindL l ≠ 0) : wordL (kindL l) = l := by
  unfold kindL at h ⊢
  repeat' split
  all_goals first | (rename_i h1; rw [h1]; rfl) | (simp_all)
theorem kind_word {k : Int} (h : 1 ≤ k) (h6 : k ≤ 6) : kindL (wordL k) = k := by
  obtain rfl | rfl | rfl | rfl | rfl | rfl : k = 1 ∨ k = 2 ∨ k = 3 ∨ k = 4 ∨ k = 5 ∨ k = 6 := by omega
  all_goals decide
theorem word_no (k : Int) : (32 : UInt8) ∉ wordL k := by
  unfold wordL
  repeat' split
  all_goals decide
theorem kindB_kind {k : Int} {n : Nat} (h : kindB k n = true) : 1 ≤ k ∧ k ≤ 6 ∧ (n = 0 ↔ k = 6) := by
  unfold kindB at h
  split at h
  · have := of_decide_eq_true h; omega
  · split at h
    · have := of_decide_eq_true h; omega
    · rw [Bool.and_eq_true] at h
      have h1 := of_decide_eq_true h.1
      have h2 := of_decide_eq_true h.2
      omega

/-- The text of a right deed; the text of any. -/
def deedL (k : Int) (n : List UInt8) (zs : List Int) : List UInt8 := wordL k ++ 32 :: (n ++ (if zs = [] then [] else 32 :: numbersL zs))
def showD (k : Int) (s : ByteArray) (zs : List Int) : List UInt8 := if deedB k s zs = true then deedL k (bl s) zs else []

def mkB (l : List UInt8) : ByteArray := ⟨l.toArray⟩
theorem mkB_bl (s : ByteArray) : mkB (bl s) = s := rfl
theorem bl_mkB (l : List UInt8) : bl (mkB l) = l := bl_mk l
theorem name_no32 {s : ByteArray} (h : nameB s = true) : (32 : UInt8) ∉ bl s ∧ bl s ≠ [] := by
  unfold nameB at h
  rw [Bool.and_eq_true] at h
  refine ⟨fun hx => ?_, fun e => ?_⟩
  · have := List.all_eq_true.1 h.1 32 hx
    revert this; decide
  · have h2 := h.2
    have : s.size = 0 := by rw [← bl_length, e]; rfl
    rw [this] at h2
    revert h2; decide

/-- What reading a text as a deed answers: kind, name, row, and whether it is one. -/
structure RD where
  k : Int
  n : ByteArray
  z : List Int
  ok : Bool
def zeroD : RD := ⟨0, ⟨#[]⟩, [], false⟩
def finD (k : Int) (n : ByteArray) (zs : List Int) : RD := if deedB k n zs = true then ⟨k, n, zs, true⟩ else zeroD
/-- The model's way. -/
def specReadD (s : List UInt8) : RD :=
  if (spl 32 s).length < 2 then zeroD
  else if (spl 32 s).length = 2 then finD (kindL ((spl 32 s)[0]?.getD [])) (mkB ((spl 32 s)[1]?.getD [])) []
  else if (specRead (cat [32] ((spl 32 s).drop 2))).2 = false ∨ (specRead (cat [32] ((spl 32 s).drop 2))).1 = [] then zeroD
  else finD (kindL ((spl 32 s)[0]?.getD [])) (mkB ((spl 32 s)[1]?.getD [])) (specRead (cat [32] ((spl 32 s).drop 2))).1
/-- The program's way. -/
def endD (s : List UInt8) (k : Int) (n : ByteArray) (zs : List Int) : RD := if deedB k n zs = true ∧ showD k n zs = s then ⟨k, n, zs, true⟩ else zeroD
def cutA (s : List UInt8) : List UInt8 := (Lib.cut s [32]).1
def cutR (s : List UInt8) : List UInt8 := (Lib.cut s [32]).2.1
def cutM (s : List UInt8) : Bool := (Lib.cut s [32]).2.2
def implReadD (s : List UInt8) : RD :=
  if cutM (cutR s) = true then
    (if (specRead (cutR (cutR s))).2 = true then endD s (kindL (cutA s)) (mkB (cutA (cutR s))) (specRead (cutR (cutR s))).1 else zeroD)
  else endD s (kindL (cutA s)) (mkB (cutA (cutR s))) []

theorem has_cut (c : UInt8) : ∀ l : List UInt8, c ∉ l ∨ ∃ a b, c ∉ a ∧ l = a ++ c :: b
  | [] => .inl (by simp)
  | x :: l => by
    by_cases hx : x = c
    · exact .inr ⟨[], l, by simp, by rw [hx]; rfl⟩
    · rcases has_cut c l with h | ⟨a, b, ha, rfl⟩
      · exact .inl (by simp only [List.mem_cons, not_or]; exact ⟨fun e => hx e.symm, h⟩)
      · exact .inr ⟨x :: a, b, by simp only [List.mem_cons, not_or]; exact ⟨fun e => hx e.symm, ha⟩, rfl⟩
theorem indexByte_no {c : UInt8} : ∀ {l : List UInt8}, c ∉ l → Lib.indexByte l c = -1
  | [], _ => rfl
  | x :: l, h => by
    have hx : x ≠ c := fun e => h (by simp [e])
    have hl : c ∉ l := fun e => h (by simp [e])
    unfold Lib.indexByte
    rw [indexByte_no hl]
    simp [hx]
theorem indexByte_at {c : UInt8} {b : List UInt8} : ∀ {a : List UInt8}, c ∉ a → Lib.indexByte (a ++ c :: b) c = a.length
  | [], _ => by simp [Lib.indexByte]
  | x :: a, h => by
    have hx : x ≠ c := fun e => h (by simp [e])
    have hl : c ∉ a := fun e => h (by simp [e])
    rw [List.cons_append]
    unfold Lib.indexByte
    rw [indexByte_at hl]
    have h1 : ((a.length : Int) == -1) = false := by rw [beq_eq_false_iff_ne]; omega
    simp [hx, h1]
theorem cut_no {c : UInt8} {l : List UInt8} (h : c ∉ l) : Lib.cut l [c] = (l, [], false) := by
  unfold Lib.cut
  rw [Lib.index_one, indexByte_no h, if_neg (by omega)]
theorem cut_at {c : UInt8} {a b : List UInt8} (h : c ∉ a) : Lib.cut (a ++ c :: b) [c] = (a, b, true) := by
  unfold Lib.cut
  rw [Lib.index_one, indexByte_at h, if_pos (by omega)]
  simp

theorem read_shown {s : List UInt8} {zs : List Int} (h : specRead s = (zs, true)) (h0 : zs ≠ []) : numbersL zs = s := by
  unfold specRead at h
  split at h
  · exact absurd (by simpa using (congrArg Prod.fst h).symm) h0
  · split at h
    · simp at h
    · rename_i r hr
      split at h
      · have e : r = zs := by simpa using h
        subst e
        rw [numbersL_cat, ← words_of hr, cat_spl]
      · simp at h
theorem deedB_nil {k : Int} {n : ByteArray} (h : deedB k n [] = true) : k = 6 := ((kindB_kind (deedB_all h).2.2).2.2).1 rfl
theorem specReadD_0 {s : List UInt8} (h : (32 : UInt8) ∉ s) : specReadD s = zeroD := by
  unfold specReadD
  rw [spl_whole 32 s h, if_pos (by simp)]
theorem specReadD_1 {a b : List UInt8} (ha : (32 : UInt8) ∉ a) (hb : (32 : UInt8) ∉ b) : specReadD (a ++ 32 :: b) = finD (kindL a) (mkB b) [] := by
  unfold specReadD
  rw [spl_cut 32 a b ha, spl_whole 32 b hb, if_neg (by simp), if_pos (by simp)]
  rfl
theorem specReadD_2 {a n c : List UInt8} (ha : (32 : UInt8) ∉ a) (hn : (32 : UInt8) ∉ n) : specReadD (a ++ 32 :: (n ++ 32 :: c)) = if (specRead c).2 = false ∨ (specRead c).1 = [] then zeroD else finD (kindL a) (mkB n) (specRead c).1 := by
  have hc : 0 < (spl 32 c).length := List.length_pos_iff.2 (spl_ne 32 c)
  have hd : cat [32] ((a :: n :: spl 32 c).drop 2) = c := cat_spl 32 c
  unfold specReadD
  rw [spl_cut 32 a _ ha, spl_cut 32 n c hn, if_neg (by simp only [List.length_cons]; omega), if_neg (by simp only [List.length_cons]; omega), hd]
  rfl
theorem implReadD_0 {s : List UInt8} (h : (32 : UInt8) ∉ s) : implReadD s = zeroD := by
  have h2 : Lib.cut [] [(32 : UInt8)] = ([], [], false) := cut_no (by simp)
  have e1 : cutR s = [] := by unfold cutR; rw [cut_no h]
  unfold implReadD
  rw [e1, if_neg (by unfold cutM; rw [h2]; simp)]
  unfold endD
  rw [if_neg]
  rintro ⟨h3, _⟩
  refine (name_no32 (deedB_all h3).1).2 ?_
  unfold cutA
  rw [h2]; rfl
theorem implReadD_1 {a b : List UInt8} (ha : (32 : UInt8) ∉ a) (hb : (32 : UInt8) ∉ b) : implReadD (a ++ 32 :: b) = endD (a ++ 32 :: b) (kindL a) (mkB b) [] := by
  have e1 : cutR (a ++ 32 :: b) = b := by unfold cutR; rw [cut_at ha]
  have e2 : cutA (a ++ 32 :: b) = a := by unfold cutA; rw [cut_at ha]
  have e3 : cutA b = b := by unfold cutA; rw [cut_no hb]
  unfold implReadD
  rw [e1, e2, e3, if_neg (by unfold cutM; rw [cut_no hb]; simp)]
theorem implReadD_2 {a n c : List UInt8} (ha : (32 : UInt8) ∉ a) (hn : (32 : UInt8) ∉ n) : implReadD (a ++ 32 :: (n ++ 32 :: c)) = if (specRead c).2 = true then endD (a ++ 32 :: (n ++ 32 :: c)) (kindL a) (mkB n) (specRead c).1 else zeroD := by
  have e1 : cutR (a ++ 32 :: (n ++ 32 :: c)) = n ++ 32 :: c := by unfold cutR; rw [cut_at ha]
  have e2 : cutA (a ++ 32 :: (n ++ 32 :: c)) = a := by unfold cutA; rw [cut_at ha]
  have e3 : cutA (n ++ 32 :: c) = n := by unfold cutA; rw [cut_at hn]
  have e4 : cutR (n ++ 32 :: c) = c := by unfold cutR; rw [cut_at hn]
  unfold implReadD
  rw [e1, e2, e3, e4, if_pos (by unfold cutM; rw [cut_at hn])]
theorem readD_same (s : List UInt8) : implReadD s = specReadD s := by
  rcases has_cut 32 s with h | ⟨a, b, ha, rfl⟩
  · rw [implReadD_0 h, specReadD_0 h]
  · rcases has_cut 32 b with hb | ⟨n, c, hn, rfl⟩
    · rw [implReadD_1 ha hb, specReadD_1 ha hb]
      unfold endD finD
      by_cases hd : deedB (kindL a) (mkB b) [] = true
      · have hs : showD (kindL a) (mkB b) [] = a ++ 32 :: b := by
          unfold showD deedL
          rw [if_pos hd, bl_mkB, word_kind (by rw [deedB_nil hd]; decide), if_pos rfl, List.append_nil]
        rw [if_pos hd, if_pos ⟨hd, hs⟩]
      · rw [if_neg hd, if_neg (fun h => hd h.1)]
    · rw [implReadD_2 ha hn, specReadD_2 ha hn]
      obtain ⟨zs, ok, hp⟩ : ∃ zs ok, specRead c = (zs, ok) := ⟨_, _, rfl⟩
      rw [hp]
      cases ok with
      | false => rw [if_neg (by simp), if_pos (.inl rfl)]
      | true =>
        rw [if_pos rfl]
        show endD _ _ _ zs = (if true = false ∨ zs = [] then zeroD else finD _ _ zs)
        by_cases hz : zs = []
        · rw [if_pos (.inr hz)]
          subst hz
          unfold endD
          rw [if_neg]
          rintro ⟨h1, h2⟩
          unfold showD deedL at h2
          rw [if_pos h1, bl_mkB, word_kind (by rw [deedB_nil h1]; decide), if_pos rfl, List.append_nil] at h2
          have := congrArg List.length h2
          simp only [List.length_append, List.length_cons] at this
          omega
        · rw [if_neg (by simp [hz])]
          unfold endD finD
          by_cases hd : deedB (kindL a) (mkB n) zs = true
          · have hs : showD (kindL a) (mkB n) zs = a ++ 32 :: (n ++ 32 :: c) := by
              unfold showD deedL
              have hk := kindB_kind (deedB_all hd).2.2
              rw [if_pos hd, bl_mkB, word_kind (by omega), if_neg hz, read_shown hp hz]
            rw [if_pos hd, if_pos ⟨hd, hs⟩]
          · rw [if_neg hd, if_neg (fun h => hd h.1)]

/-- What a right row shows as is read as that row. -/
theorem read_numbers {zs : List Int} (h : rowOkB zs = true) (h0 : zs ≠ []) : specRead (numbersL zs) = (zs, true) := by
  obtain ⟨hall, _⟩ := rowOkB_all h
  have hw : spl 32 (numbersL zs) = zs.map Lib.itoa := by
    rw [numbersL_cat]
    exact spl_cat 32 _ (by simpa using h0) (fun w hw => by
      obtain ⟨n, _, rfl⟩ := List.mem_map.1 hw
      exact fun hx => itoa_no n 32 hx rfl)
  have hm : (spl 32 (numbersL zs)).mapM (readNum 10) = some zs := by
    rw [hw]
    have := mapM_map (readNum 10) Lib.itoa id zs (fun n hn => by
      have := cell_of_B (List.all_eq_true.1 hall n hn)
      exact readNum_of n this.1 this.2)
    simpa using this
  unfold specRead
  rw [if_neg ?_, hm]
  · simp only; rw [if_pos h]
  · intro e
    rw [e] at hm
    have : (spl 32 [45]).mapM (readNum 10) = none := by rfl
    rw [this] at hm; cases hm
/-- A deed is read from its text. -/
theorem readD_show {k : Int} {s : ByteArray} {zs : List Int} (h : deedB k s zs = true) : specReadD (showD k s zs) = ⟨k, s, zs, true⟩ := by
  obtain ⟨h1, h2, h3⟩ := deedB_all h
  obtain ⟨k1, k6, kz⟩ := kindB_kind h3
  obtain ⟨n32, _⟩ := name_no32 h1
  unfold showD deedL
  rw [if_pos h]
  by_cases hz : zs = []
  · subst hz
    rw [if_pos rfl, List.append_nil, specReadD_1 (word_no k) n32]
    unfold finD
    rw [kind_word k1 k6, mkB_bl, if_pos h]
  · rw [if_neg hz, specReadD_2 (word_no k) n32, read_numbers h2 hz, if_neg (by simp [hz])]
    unfold finD
    rw [kind_word k1 k6, mkB_bl, if_pos h]
/-- What was read is the deed whose text it is. -/
theorem show_readD {s : List UInt8} (h : (specReadD s).ok = true) : deedB (specReadD s).k (specReadD s).n (specReadD s).z = true ∧ showD (specReadD s).k (specReadD s).n (specReadD s).z = s := by
  rw [← readD_same] at h ⊢
  unfold implReadD at h ⊢
  have key : ∀ k n zs, (endD s k n zs).ok = true → deedB (endD s k n zs).k (endD s k n zs).n (endD s k n zs).z = true ∧ showD (endD s k n zs).k (endD s k n zs).n (endD s k n zs).z = s := by
    intro k n zs hh
    unfold endD at hh ⊢
    split at hh
    · rename_i h1; rw [if_pos h1]; exact h1
    · exact absurd hh (by simp [zeroD])
  split at h
  · split at h
    · rename_i h1 h2
      rw [if_pos h1, if_pos h2]
      exact key _ _ _ h
    · exact absurd h (by simp [zeroD])
  · rename_i h1
    rw [if_neg h1]
    exact key _ _ _ h
end Go.Proofs.YtpadhcoboapodaaGreatDoor

/- Conds as texts: how they are shown, how the model reads them, how the program does, and that both read alike. Nothing of the program is named. -/
namespace Go.Proofs.YtpadhcoboapodaaGreatDoor
open Go.RowKit

def opL (o : Int) : UInt8 := if o = 1 then 60 else if o = 2 then 61 else 62
def opC (b : UInt8) : Int := if b = 60 then 1 else if b = 61 then 2 else if b = 62 then 3 else 0
def otherL (c : Cnd) : List UInt8 := if c.i = true then Lib.itoa c.t else 36 :: Lib.itoa c.t
def showC (c : Cnd) : List UInt8 := 36 :: (Lib.itoa c.p ++ opL c.o :: otherL c)
def showCs (l : List Cnd) : List UInt8 := if rightB l = true then (if l = [] then [45] else cat [44] (l.map showC)) else []

theorem opC_opL {o : Int} (h1 : 1 ≤ o) (h3 : o ≤ 3) : opC (opL o) = o := by
  have : o = 1 ∨ o = 2 ∨ o = 3 := by omega
  rcases this with rfl | rfl | rfl <;> rfl
theorem opL_opC {b : UInt8} (h : 1 ≤ opC b) : opL (opC b) = b := by
  unfold opC at h ⊢
  split
  · rename_i e; rw [e]; rfl
  · split
    · rename_i e; rw [e]; rfl
    · split
      · rename_i e; rw [e]; rfl
      · rename_i h1 h2 h3
        rw [if_neg h1, if_neg h2, if_neg h3] at h
        omega
theorem itoa_in (n : Int) (x : UInt8) (hx : x ∈ Lib.itoa n) : x = 45 ∨ isDig x = true := by
  unfold Lib.itoa at hx
  split at hx
  · rcases List.mem_cons.1 hx with e | e
    · exact .inl e
    · exact .inr (List.all_eq_true.1 (decDigits_ok _).2.1 x e)
  · exact .inr (List.all_eq_true.1 (decDigits_ok _).2.1 x hx)
theorem itoa_not (n : Int) {c : UInt8} (h1 : c ≠ 45) (h2 : isDig c = false) : c ∉ Lib.itoa n := fun h => by
  rcases itoa_in n c h with e | e
  · exact h1 e
  · rw [h2] at e; cases e
theorem showC_in (c : Cnd) (x : UInt8) (hx : x ∈ showC c) : x = 36 ∨ x = opL c.o ∨ x = 45 ∨ isDig x = true := by
  unfold showC otherL at hx
  rcases List.mem_cons.1 hx with e | e
  · exact .inl e
  rcases List.mem_append.1 e with e | e
  · exact .inr (.inr (itoa_in _ _ e))
  rcases List.mem_cons.1 e with e | e
  · exact .inr (.inl e)
  split at e
  · exact .inr (.inr (itoa_in _ _ e))
  · rcases List.mem_cons.1 e with e | e
    · exact .inl e
    · exact .inr (.inr (itoa_in _ _ e))
theorem opL_is (o : Int) : opL o = 60 ∨ opL o = 61 ∨ opL o = 62 := by
  unfold opL
  split
  · exact .inl rfl
  · split
    · exact .inr (.inl rfl)
    · exact .inr (.inr rfl)
theorem showC_no (c : Cnd) : (44 : UInt8) ∉ showC c := fun h => by
  rcases showC_in c _ h with e | e | e | e
  · exact absurd e (by decide)
  · rcases opL_is c.o with h | h | h <;> (rw [h] at e; exact absurd e (by decide))
  · exact absurd e (by decide)
  · exact absurd e (by decide)

/-- A cond of its text, as the model reads it. -/
def readC (s : List UInt8) : Option Cnd :=
  match s with
  | a :: b :: o :: d :: r =>
    if a = 36 then
      match readNum 9 [b], readNum 9 (if d = 36 then r else d :: r) with
      | some p, some n => if condB ⟨p, opC o, n, decide (d ≠ 36)⟩ = true then some ⟨p, opC o, n, decide (d ≠ 36)⟩ else none
      | _, _ => none
    else none
  | _ => none
def specReadCs (s : List UInt8) : List Cnd × Bool :=
  if s = [45] then ([], true) else match (spl 44 s).mapM readC with
    | none => ([], false)
    | some l => if l.length ≤ 3 then (l, true) else ([], false)
/-- What stands on a side of an op: a number, and whether it is a place. -/
def readI (t : List UInt8) : Option (Int × Bool) :=
  match t with
  | 36 :: r => (parseI r).map fun n => (n, true)
  | _ => (parseI t).map fun n => (n, false)
def bothI (o : Int) (t : List UInt8 × List UInt8) : Option Cnd :=
  match readI t.1, readI t.2 with
  | some (p, _), some (n, q) => some ⟨p, o, n, !q⟩
  | _, _ => none
/-- A cond of its text, as the program reads it (it asks at the end whether it is shown so). -/
def implC (s : List UInt8) : Option Cnd :=
  if (60 : UInt8) ∈ s then bothI 1 ((Lib.cut s [60]).1, (Lib.cut s [60]).2.1)
  else if (61 : UInt8) ∈ s then bothI 2 ((Lib.cut s [61]).1, (Lib.cut s [61]).2.1)
  else if (62 : UInt8) ∈ s then bothI 3 ((Lib.cut s [62]).1, (Lib.cut s [62]).2.1)
  else none
def implReadCs (s : List UInt8) (ws : List (List UInt8)) : List Cnd × Bool :=
  if s = [45] then ([], true) else match ws.mapM implC with
    | none => ([], false)
    | some l => if showCs l = s then (l, true) else ([], false)

theorem itoa_one {p : Int} (h0 : 0 ≤ p) (h5 : p ≤ 5) : ∃ b, Lib.itoa p = [b] ∧ b ≠ 36 := by
  obtain ⟨u, rfl⟩ := Int.eq_ofNat_of_zero_le h0
  refine ⟨UInt8.ofNat (48 + u), ?_, ?_⟩
  · rw [Lib.itoa_nonneg, Lib.decDigits, dif_pos (by omega)]
  · have : u = 0 ∨ u = 1 ∨ u = 2 ∨ u = 3 ∨ u = 4 ∨ u = 5 := by omega
    rcases this with rfl | rfl | rfl | rfl | rfl | rfl <;> decide
theorem readNum_small {n : Int} (h0 : -1000 ≤ n) (h1 : n ≤ 1000) : readNum 9 (Lib.itoa n) = some n := by
  by_cases hn : 0 ≤ n
  · obtain ⟨u, rfl⟩ := Int.eq_ofNat_of_zero_le hn
    obtain ⟨d1, d2, d3, d4, d5⟩ := decDigits_ok u
    have hl := decDigits_len (u := u) (k := 9) (by omega) (by omega)
    have hp := List.length_pos_iff.2 d1
    rw [Lib.itoa_nonneg]
    have hN := isNeg_digit d1 d2
    have hD : digs (Lib.decDigits u) = Lib.decDigits u := by unfold digs; rw [hN]; rfl
    unfold readNum
    rw [hD, hN, d2, d3, if_neg (by omega), if_neg (by simp), if_neg]
    · simp
    · rintro ⟨e, e2 | e2⟩
      · cases e2
      · rcases d4 with d4 | d4
        · exact d4 e
        · omega
  · obtain ⟨u, rfl⟩ : ∃ u : Nat, n = -(u : Int) := ⟨n.natAbs, by omega⟩
    obtain ⟨d1, d2, d3, d4, d5⟩ := decDigits_ok u
    have hl := decDigits_len (u := u) (k := 9) (by omega) (by omega)
    have hp := List.length_pos_iff.2 d1
    rw [Lib.itoa_neg u (by omega)]
    have hN : isNeg (45 :: Lib.decDigits u) = true := rfl
    have hD : digs (45 :: Lib.decDigits u) = Lib.decDigits u := by unfold digs; rw [if_pos hN]; rfl
    unfold readNum
    rw [hD, hN, d2, d3, if_neg (by omega), if_neg (by simp), if_neg]
    · simp
    · rintro ⟨e, _⟩
      exact d5 (by omega) e
theorem itoa_cons (n : Int) : ∃ d r, Lib.itoa n = d :: r ∧ d ≠ 36 := by
  cases h : Lib.itoa n with
  | nil => exact absurd (itoa_pos n) (by rw [h]; simp)
  | cons d r =>
    refine ⟨d, r, rfl, fun e => ?_⟩
    exact itoa_not n (c := 36) (by decide) (by decide) (by rw [h, e]; simp)
theorem condB_other {c : Cnd} (h : condB c = true) : -1000 ≤ c.t ∧ c.t ≤ 1000 := by
  rw [condB_iff] at h
  rcases h.2.2 with h | h <;> omega
/-- The model reads what is shown of a right cond, -/
theorem readC_show {c : Cnd} (h : condB c = true) : readC (showC c) = some c := by
  obtain ⟨hp, ho, ht⟩ := condB_iff.1 h
  obtain ⟨b, hb, _⟩ := itoa_one hp.1 hp.2
  obtain ⟨d, r, hd, hd36⟩ := itoa_cons c.t
  have hx := condB_other h
  have hp9 : readNum 9 [b] = some c.p := by rw [← hb]; exact readNum_small (by omega) (by omega)
  have hn9 : readNum 9 (d :: r) = some c.t := by rw [← hd]; exact readNum_small hx.1 hx.2
  unfold showC otherL
  rw [hb, hd]
  obtain ⟨p, o, t, i⟩ := c
  cases i with
  | true =>
    show readC (36 :: b :: opL o :: d :: r) = _
    unfold readC
    simp only [if_true, if_neg hd36]
    rw [hp9, hn9]
    simp only
    rw [opC_opL ho.1 ho.2, decide_eq_true hd36, if_pos h]
  | false =>
    show readC (36 :: b :: opL o :: 36 :: d :: r) = _
    unfold readC
    simp only [if_true]
    rw [hp9, hn9]
    simp only
    rw [opC_opL ho.1 ho.2]
    simp only [ne_eq, not_true_eq_false, decide_false]
    rw [if_pos h]
/-- and nothing else. -/
theorem show_readC {s : List UInt8} {c : Cnd} (h : readC s = some c) : condB c = true ∧ showC c = s := by
  unfold readC at h
  split at h
  · rename_i a b o d r
    split at h
    · rename_i ha
      subst ha
      split at h
      · rename_i p n hp hn
        split at h
        · rename_i hc
          injection h with h
          subst h
          refine ⟨hc, ?_⟩
          obtain ⟨_, ho, _⟩ := condB_iff.1 hc
          have e1 := readNum_itoa hp
          have e2 := readNum_itoa hn
          unfold showC otherL
          simp only
          rw [← e1, opL_opC ho.1, ← e2]
          by_cases hd : d = 36
          · simp [hd]
          · simp [hd]
        · cases h
      · cases h
    · cases h
  · cases h

theorem parseI_small {n : Int} (h0 : -1000 ≤ n) (h1 : n ≤ 1000) : parseI (Lib.itoa n) = some n := parseI_itoa n (by omega) (by omega)
theorem readI_place {n : Int} (h0 : -1000 ≤ n) (h1 : n ≤ 1000) : readI (36 :: Lib.itoa n) = some (n, true) := by
  show (parseI (Lib.itoa n)).map (fun n => (n, true)) = _
  rw [parseI_small h0 h1]; rfl
theorem readI_number {n : Int} (h0 : -1000 ≤ n) (h1 : n ≤ 1000) : readI (Lib.itoa n) = some (n, false) := by
  obtain ⟨d, r, hd, hd36⟩ := itoa_cons n
  have e := parseI_small h0 h1
  rw [hd] at e ⊢
  unfold readI
  split
  · rename_i h
    injection h with h1 _
    exact absurd h1 hd36
  · rw [e]; rfl
theorem bothI_show {c : Cnd} (h : condB c = true) : bothI c.o (36 :: Lib.itoa c.p, otherL c) = some c := by
  obtain ⟨hp, ho, ht⟩ := condB_iff.1 h
  have hx := condB_other h
  obtain ⟨p, o, t, i⟩ := c
  unfold bothI otherL
  simp only at *
  rw [readI_place (by omega) (by omega)]
  cases i with
  | true => rw [if_pos rfl, readI_number hx.1 hx.2]; rfl
  | false => rw [if_neg (by simp), readI_place hx.1 hx.2]; rfl
theorem showC_has (c : Cnd) : opL c.o ∈ showC c := by unfold showC; simp
theorem showC_ahead (c : Cnd) {b : UInt8} (h1 : b ≠ 36) (h2 : b ≠ 45) (h3 : isDig b = false) : b ∉ 36 :: Lib.itoa c.p := fun h => by
  rcases List.mem_cons.1 h with e | e
  · exact h1 e
  · exact itoa_not _ h2 h3 e
theorem showC_not (c : Cnd) {b : UInt8} (h1 : b ≠ 36) (h2 : b ≠ 45) (h3 : isDig b = false) (h4 : b ≠ opL c.o) : b ∉ showC c := fun h => by
  rcases showC_in c _ h with e | e | e | e
  · exact h1 e
  · exact h4 e
  · exact h2 e
  · rw [h3] at e; cases e
theorem implC_show {c : Cnd} (h : condB c = true) : implC (showC c) = some c := by
  obtain ⟨hp, ho, ht⟩ := condB_iff.1 h
  have hb := bothI_show h
  have hs : showC c = (36 :: Lib.itoa c.p) ++ opL c.o :: otherL c := rfl
  have hcut : ∀ b, b = opL c.o → Lib.cut (showC c) [b] = (36 :: Lib.itoa c.p, otherL c, true) := by
    intro b e
    subst e
    rw [hs]
    refine cut_at (showC_ahead c ?_ ?_ ?_)
    all_goals (rcases opL_is c.o with e | e | e <;> (rw [e]; decide))
  have : c.o = 1 ∨ c.o = 2 ∨ c.o = 3 := by omega
  unfold implC
  rcases this with e | e | e
  · have hL : opL c.o = 60 := by rw [e]; rfl
    rw [if_pos (by rw [← hL]; exact showC_has c), hcut 60 hL.symm, ← hb, e]
  · have hL : opL c.o = 61 := by rw [e]; rfl
    rw [if_neg (showC_not c (by decide) (by decide) (by decide) (by rw [hL]; decide)), if_pos (by rw [← hL]; exact showC_has c), hcut 61 hL.symm, ← hb, e]
  · have hL : opL c.o = 62 := by rw [e]; rfl
    rw [if_neg (showC_not c (by decide) (by decide) (by decide) (by rw [hL]; decide)), if_neg (showC_not c (by decide) (by decide) (by decide) (by rw [hL]; decide)), if_pos (by rw [← hL]; exact showC_has c), hcut 62 hL.symm, ← hb, e]
theorem parts_of {ws : List (List UInt8)} {l : List Cnd} (h : ws.mapM readC = some l) : ws = l.map showC ∧ ∀ c ∈ l, condB c = true := by
  obtain ⟨hl, hi⟩ := mapM_some h
  constructor
  · apply List.ext_getElem?
    intro i
    rw [List.getElem?_map]
    by_cases hlt : i < ws.length
    · have h1 : ws[i]? = some ws[i] := List.getElem?_eq_getElem hlt
      have h2 : l[i]? = some (l[i]'(by omega)) := List.getElem?_eq_getElem (by omega)
      rw [h1, h2]
      simp only [Option.map_some]
      rw [(show_readC (hi i _ _ h1 h2)).2]
    · rw [List.getElem?_eq_none (by omega), List.getElem?_eq_none (by omega)]; rfl
  · intro c hc
    obtain ⟨i, hlt, rfl⟩ := List.mem_iff_getElem.1 hc
    exact (show_readC (hi i _ _ (List.getElem?_eq_getElem (by omega)) (List.getElem?_eq_getElem hlt))).1
theorem readCs_of {l : List Cnd} (h : ∀ c ∈ l, condB c = true) : (l.map showC).mapM readC = some l ∧ (l.map showC).mapM implC = some l := by
  have h1 := mapM_map readC showC id l (fun c hc => readC_show (h c hc))
  have h2 := mapM_map implC showC id l (fun c hc => implC_show (h c hc))
  exact ⟨by simpa using h1, by simpa using h2⟩
theorem implC_nil : implC [] = none := by decide
theorem showCs_parts {l : List Cnd} {s : List UInt8} (h : showCs l = s) (h0 : s ≠ []) (h45 : s ≠ [45]) : (∀ c ∈ l, condB c = true) ∧ l.length ≤ 3 ∧ l ≠ [] ∧ spl 44 s = l.map showC := by
  unfold showCs at h
  split at h
  · rename_i hr
    split at h
    · exact absurd h.symm h45
    · rename_i hl
      obtain ⟨h1, h2⟩ := rightB_iff.1 hr
      refine ⟨h1, h2, hl, ?_⟩
      rw [← h, spl_cat 44 _ (by simpa using hl) (fun w hw => by obtain ⟨c, _, rfl⟩ := List.mem_map.1 hw; exact showC_no c)]
  · exact absurd h.symm h0
/-- Both read alike, if the words are all words of the text wherever these are three or fewer, and never none. -/
theorem readCs_same (s : List UInt8) (ws : List (List UInt8)) (hw : (spl 44 s).length ≤ 3 → ws = spl 44 s) : implReadCs s ws = specReadCs s := by
  unfold implReadCs specReadCs
  by_cases h45 : s = [45]
  · rw [if_pos h45, if_pos h45]
  rw [if_neg h45, if_neg h45]
  -- what the program finds shown so the model reads
  have hback : ∀ q, ws.mapM implC = some q → showCs q = s → (spl 44 s).mapM readC = some q ∧ q.length ≤ 3 := by
    intro q hq hs
    have h0 : s ≠ [] := by
      intro e
      have e1 : ws = [[]] := by rw [hw (by rw [e]; decide), e]; rfl
      rw [e1] at hq
      have : ([[]] : List (List UInt8)).mapM implC = none := by simp [implC_nil]
      rw [this] at hq; cases hq
    obtain ⟨h1, h2, h3, h4⟩ := showCs_parts hs h0 h45
    rw [h4]
    exact ⟨(readCs_of h1).1, h2⟩
  cases hs : (spl 44 s).mapM readC with
  | none =>
    simp only
    cases hq : ws.mapM implC with
    | none => rfl
    | some q =>
      simp only
      by_cases hsh : showCs q = s
      · have := (hback q hq hsh).1
        rw [hs] at this; cases this
      · rw [if_neg hsh]
  | some l =>
    simp only
    obtain ⟨e1, e2⟩ := parts_of hs
    by_cases h3 : l.length ≤ 3
    · rw [if_pos h3]
      have hws : ws = l.map showC := by rw [hw (by rw [e1]; simpa using h3), e1]
      rw [hws, (readCs_of e2).2]
      simp only
      have hl0 : l ≠ [] := by intro e; subst e; exact spl_ne 44 s (by simpa using e1)
      have hsh : showCs l = s := by
        unfold showCs
        rw [if_pos (rightB_iff.2 ⟨e2, h3⟩), if_neg hl0, ← e1, cat_spl]
      rw [if_pos hsh]
    · rw [if_neg h3]
      cases hq : ws.mapM implC with
      | none => rfl
      | some q =>
        simp only
        by_cases hsh : showCs q = s
        · obtain ⟨h4, h5⟩ := hback q hq hsh
          rw [hs] at h4
          injection h4 with h4
          subst h4
          exact absurd h5 h3
        · rw [if_neg hsh]
/-- What is read of a text is shown so, and what is shown of right conds is read. -/
theorem specReadCs_len (s : List UInt8) : (specReadCs s).1.length ≤ 3 := by
  unfold specReadCs
  split
  · simp
  · split
    · simp
    · split
      · assumption
      · simp
theorem readCs_right {s : List UInt8} {l : List Cnd} (h : specReadCs s = (l, true)) : rightB l = true ∧ showCs l = s := by
  unfold specReadCs at h
  split at h
  · rename_i e
    injection h with h _
    subst h
    exact ⟨rfl, by rw [e]; rfl⟩
  · split at h
    · injection h with _ h; cases h
    · rename_i q hq
      split at h
      · rename_i h3
        injection h with h _
        subst h
        obtain ⟨e1, e2⟩ := parts_of hq
        have hr := rightB_iff.2 ⟨e2, h3⟩
        have hl0 : q ≠ [] := by intro e; subst e; exact spl_ne 44 s (by simpa using e1)
        refine ⟨hr, ?_⟩
        unfold showCs
        rw [if_pos hr, if_neg hl0, ← e1, cat_spl]
      · injection h with _ h; cases h
theorem showC_ne45 (l : List Cnd) (h : l ≠ []) : cat [44] (l.map showC) ≠ [45] ∧ cat [44] (l.map showC) ≠ [] := by
  cases l with
  | nil => exact absurd rfl h
  | cons c r =>
    have hd : ∃ t, cat [44] ((c :: r).map showC) = 36 :: t := by
      cases r with
      | nil => exact ⟨_, rfl⟩
      | cons d q => exact ⟨_, rfl⟩
    obtain ⟨t, ht⟩ := hd
    rw [ht]
    exact ⟨fun e => by injection e with e _; exact absurd e (by decide), by simp⟩
theorem readCs_show {l : List Cnd} (h : rightB l = true) : specReadCs (showCs l) = (l, true) := by
  obtain ⟨h1, h3⟩ := rightB_iff.1 h
  unfold showCs
  rw [if_pos h]
  by_cases hl : l = []
  · rw [if_pos hl, hl]; rfl
  · rw [if_neg hl]
    unfold specReadCs
    rw [if_neg (showC_ne45 l hl).1, spl_cat 44 _ (by simpa using hl) (fun w hw => by obtain ⟨c, _, rfl⟩ := List.mem_map.1 hw; exact showC_no c), (readCs_of h1).1]
    simp only
    rw [if_pos h3]
theorem showCs_empty {l : List Cnd} (h : showCs l = []) : rightB l = false := by
  unfold showCs at h
  split at h
  · split at h
    · cases h
    · rename_i hl; exact absurd h (showC_ne45 l hl).2
  · simpa using ‹¬ rightB l = true›
end Go.Proofs.YtpadhcoboapodaaGreatDoor

/- A region that draws its order, whose operations only read and whose callees only make memory: one walk, in the text's order. No condition; nothing of the program is named. -/
namespace Go.Proofs.YtpadhcoboapodaaGreatDoor
open Go.RowKit

/-- A world that has come of w while nothing that lay has turned. -/
structure BelW (w : World) where
  v : World
  bel : Below w.heap.size w v
instance (w : World) : Inhabited (BelW w) := ⟨⟨w, Below.refl _ _⟩⟩
theorem wp_quiet_bel {P : Program} {id : Nat} {Q : Exit → Act → World → Prop} {a : Act} {w : World} {l : List Oper} (hm : P.follows .mixedOrders = true) (hB : Region.lexB .any l.toArray = true)
    (h : wpQuiet P l.toArray (fun w' => ∃ p : BelW w, w' = p.v) (fun a' => ∀ w', (∃ p : BelW w, w' = p.v) → Q .normal a' w') l a) : (Code.region id l.toArray true).wp P Q a w :=
  wp_region_quiet (C := fun w' => ∃ p : BelW w, w' = p.v) hm hB ⟨⟨w.drewN 1, bel_drewN (Below.refl _ _) 1⟩, rfl⟩ (by simpa using h)
theorem bel_of {P : Program} {f : FuncId} {args : Array Value} {w : World} {p : BelW w} {v : Value} (h : Calls P f args p.v fun e w' => e = .returned v ∧ Below p.v.heap.size p.v w') :
    Calls P f args p.v fun e w'' => e = .returned v ∧ ∃ q : BelW w, w'' = q.v :=
  h.mono fun _ w' ⟨he, hb⟩ => ⟨he, ⟨w', bel_step p.bel hb⟩, rfl⟩
theorem bel_same {P : Program} {f : FuncId} {args : Array Value} {w : World} {p : BelW w} {v : Value} (h : Calls P f args p.v fun e w' => e = .returned v ∧ p.v = w') :
    Calls P f args p.v fun e w'' => e = .returned v ∧ ∃ q : BelW w, w'' = q.v :=
  h.mono fun _ _ ⟨he, hb⟩ => ⟨he, p, hb.symm⟩
theorem cell_bel {w : World} {b o : Nat} {v : Value} (hb : b < w.heap.size) (h : w.cell? ⟨b, o, none⟩ = some v) : ∀ p : BelW w, p.v.cell? ⟨b, o, none⟩ = some v := fun p => (p.bel.cell hb).trans h
end Go.Proofs.YtpadhcoboapodaaGreatDoor
