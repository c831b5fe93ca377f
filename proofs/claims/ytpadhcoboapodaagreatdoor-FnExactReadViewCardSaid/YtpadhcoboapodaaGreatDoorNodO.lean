/- Nodes of the call's own: each with its conds and places in blocks of their own; the laws' copy of nodes is such. Nothing that lay has turned. -/
import Derived.Test.YtpadhcoboapodaaGreatDoorNodC
import Derived.Test.YtpadhcoboapodaaGreatDoorMkT
import Derived.Test.YtpadhcoboapodaaGreatDoorCndM
namespace Go.Proofs.YtpadhcoboapodaaGreatDoor
open Go.RowKit

/-- A node in memory: what it is; its conds' slice and block; its places' slice and block. -/
structure NV where
  d : Nd
  Ac : Option Addr
  cc : Nat
  gc : Nat
  Az : Option Addr
  cz : Nat
  gz : Nat
instance : Inhabited NV := ⟨⟨zeroN, none, 0, 0, none, 0, 0⟩⟩
def nvx (es : List NV) (j : Nat) : NV := es[j]?.getD default
theorem nvx_eq (es : List NV) (j : Nat) (h : j < es.length) : nvx es j = es[j] := by simp [nvx, h]
def nvc (e : NV) (r : Nat) : Value := if r = 0 then .int .i64 e.d.k else if r = 1 then .string e.d.n else if r = 2 then .slice e.Ac e.d.c.length e.cc else if r = 3 then .slice e.Az e.d.z.length e.cz else .int .i64 e.d.p
/-- The nodes es stand at the head of block G. -/
def NAt (w : World) (G : Nat) (es : List NV) : Prop := ∃ cur : Array Value, Blk w G 33 cur ∧ ∀ j, j < es.length → ∀ r, r < 5 → cur[j * 5 + r]? = some (nvc (nvx es j) r)
structure NOwn (w : World) (G : Nat) (es : List NV) : Prop where
  at_ : NAt w G es
  cs : ∀ j, j < es.length → CRow w (nvx es j).Ac (nvx es j).gc (nvx es j).d.c
  zs : ∀ j, j < es.length → Row w 2 (nvx es j).Az (nvx es j).d.z (nvx es j).gz
  ne : ∀ i j, i < es.length → j < es.length → i ≠ j → (0 < (nvx es i).d.c.length → 0 < (nvx es j).d.c.length → (nvx es i).gc ≠ (nvx es j).gc) ∧ (0 < (nvx es i).d.z.length → 0 < (nvx es j).d.z.length → (nvx es i).gz ≠ (nvx es j).gz)
/-- Block x is one of theirs. -/
def theirs (G : Nat) (es : List NV) (x : Nat) : Prop := x = G ∨ ∃ j, j < es.length ∧ ((0 < (nvx es j).d.c.length ∧ x = (nvx es j).gc) ∨ (0 < (nvx es j).d.z.length ∧ x = (nvx es j).gz))
/-- All has stayed but the blocks of which S is true. -/
structure Kept (S : Nat → Prop) (w w' : World) : Prop where
  os : w'.os = w.os
  tape : w'.tape = w.tape
  output : w'.output = w.output
  size : w.heap.size ≤ w'.heap.size
  block : ∀ k, k < w.heap.size → ¬ S k → w'.heap[k]? = w.heap[k]?
theorem Kept.refl (S : Nat → Prop) (w : World) : Kept S w w := ⟨rfl, rfl, rfl, Nat.le_refl _, fun _ _ _ => rfl⟩
theorem Kept.trans {S : Nat → Prop} {a b c : World} (h : Kept S a b) (k : Kept S b c) : Kept S a c :=
  ⟨k.os.trans h.os, k.tape.trans h.tape, k.output.trans h.output, Nat.le_trans h.size k.size, fun i hi hn => (k.block i (Nat.lt_of_lt_of_le hi h.size) hn).trans (h.block i hi hn)⟩
theorem kept_below {S : Nat → Prop} {w w' : World} (h : Below w.heap.size w w') : Kept S w w' := ⟨h.os, h.tape, h.output, h.size, fun k hk _ => h.block k hk⟩
theorem kept_grown {S : Nat → Prop} {w w' : World} {g : Nat} (h : w.grownBy w' (some g)) (hg : S g ∨ w.heap.size ≤ g) : Kept S w w' :=
  ⟨h.os, h.tape, h.output, h.size, fun k hk hn => h.block k hk (fun e => by
    obtain rfl : k = g := Option.some.inj e
    rcases hg with hg | hg
    · exact hn hg
    · omega)⟩
theorem Kept.below {S : Nat → Prop} {w w' : World} {B : Nat} (h : Kept S w w') (hB : B ≤ w.heap.size) (hS : ∀ k, k < B → ¬ S k) : Below B w w' :=
  ⟨h.os, h.tape, h.output, h.size, fun k hk => h.block k (by omega) (hS k hk)⟩
theorem crow_ne {w : World} {A : Option Addr} {g G : Nat} {l : List Cnd} {t : TypeId} {cur : Array Value} (h : CRow w A g l) (hn : 0 < l.length) (hB : Blk w G t cur) (ht : 63 ≠ t) : g ≠ G := fun e => by
  subst e
  obtain ⟨_, cur', hB', _⟩ := h hn
  unfold Blk at hB hB'
  rw [hB] at hB'
  have := Option.some.inj hB'
  injection this with _ h2 _
  exact ht h2.symm
theorem row_ne {w : World} {A : Option Addr} {g G : Nat} {l : List Int} {t : TypeId} {cur : Array Value} (h : Row w 2 A l g) (hn : 0 < l.length) (hB : Blk w G t cur) (ht : 2 ≠ t) : g ≠ G := fun e => by
  subst e
  obtain ⟨_, cur', hB', _⟩ := h hn
  unfold Blk at hB
  rw [hB] at hB'
  have := Option.some.inj hB'
  injection this with _ h2 _
  exact ht h2.symm
theorem crow_row {w : World} {A A' : Option Addr} {g g' : Nat} {l : List Cnd} {z : List Int} (h : CRow w A g l) (hn : 0 < l.length) (h' : Row w 2 A' z g') (hn' : 0 < z.length) : g ≠ g' := fun e => by
  obtain ⟨_, cur, hB, _⟩ := h hn
  exact row_ne h' hn' hB (by decide) e.symm
theorem NAt.on {w w' : World} {G : Nat} {es : List NV} (h : NAt w G es) (hb : Below w.heap.size w w') : NAt w' G es := by
  obtain ⟨cur, hB, hc⟩ := h
  exact ⟨cur, hB.on hb, hc⟩
theorem NOwn.on {w w' : World} {G : Nat} {es : List NV} (h : NOwn w G es) (hb : Below w.heap.size w w') : NOwn w' G es :=
  ⟨h.at_.on hb, fun j hj => (h.cs j hj).on hb, fun j hj => (h.zs j hj).on hb, h.ne⟩
theorem NOwn.nds {w : World} {G : Nat} {es : List NV} {v : List Nd} (h : NOwn w G es) (hv : es.map NV.d = v) : Nds w w.heap.size (some ⟨G, 0, none⟩) v := fun hn => by
  have hl : es.length = v.length := by rw [← hv, List.length_map]
  obtain ⟨cur, hB, hc⟩ := h.at_
  refine ⟨G, 0, rfl, hB.lt, fun j hj => ?_⟩
  have hj' : j < es.length := by omega
  have hx : ndx v j = (nvx es j).d := by rw [ndx_eq v j hj, nvx_eq es j hj']; simp [← hv]
  have hcell : ∀ r, r < 5 → w.cell? ⟨G, j * 5 + r, none⟩ = some (nvc (nvx es j) r) := fun r hr => by rw [hB.cell]; exact hc j hj' r hr
  have c0 := hcell 0 (by omega)
  have c1 := hcell 1 (by omega)
  have c2 := hcell 2 (by omega)
  have c3 := hcell 3 (by omega)
  have c4 := hcell 4 (by omega)
  refine ⟨(nvx es j).Ac, (nvx es j).cc, (nvx es j).Az, (nvx es j).cz, ?_, ?_, ?_, ?_, ?_, ?_, ?_⟩
  · rw [Nat.zero_add, hx]; exact c0
  · rw [Nat.zero_add, hx]; exact c1
  · rw [Nat.zero_add, hx]; exact c2
  · rw [Nat.zero_add, hx]; exact c3
  · rw [Nat.zero_add, hx]; exact c4
  · rw [hx]; exact (h.cs j hj').cnds
  · rw [hx]; exact (h.zs j hj').ints

/-! ### the laws' copy -/
/-- The copies' blocks are of this call, no two of a kind alike. -/
def DPw (w : World) (es : List NE) : Prop := (∀ e ∈ es, w.heap.size ≤ e.gc ∧ w.heap.size ≤ e.gz) ∧ es.Pairwise fun e f => e.gc ≠ f.gc ∧ e.gz ≠ f.gz
theorem DPw.push {w wr : World} {G n : Nat} {es : List NE} {e : NE} (h : DPw w es) (hst : NodSt w G n es wr) (hc : wr.heap.size ≤ e.gc) (hz : wr.heap.size ≤ e.gz) : DPw w (es ++ [e]) := by
  have hs := hst.2.2.size
  refine ⟨fun x hx => ?_, List.pairwise_append.2 ⟨h.2, List.pairwise_singleton _ _, fun a ha b hb => ?_⟩⟩
  · rcases List.mem_append.1 hx with hx | hx
    · exact h.1 x hx
    · obtain rfl : x = e := by simpa using hx
      exact ⟨by omega, by omega⟩
  · obtain rfl : b = e := by simpa using hb
    obtain ⟨h1, h2, _⟩ := hst.2.1 a ha
    have l1 := Blk.lt h1
    have l2 := h2.lt
    exact ⟨by omega, by omega⟩
def toNV (e : NE) : NV := ⟨e.d, some ⟨e.gc, 0, none⟩, e.d.c.length, e.gc, some ⟨e.gz, 0, none⟩, e.d.z.length, e.gz⟩
theorem nown_of {w wr : World} {G : Nat} {es : List NE} (h : NodSt w G es.length es wr) (hp : DPw w es) : NOwn wr G (es.map toNV) := by
  have hx : ∀ j, j < es.length → ∀ (hj : j < es.length), nvx (es.map toNV) j = toNV es[j] := fun j _ hj => by rw [nvx_eq _ j (by simpa using hj)]; simp
  refine ⟨⟨_, h.1, fun j hj r hr => ?_⟩, fun j hj => ?_, fun j hj => ?_, fun i j hi hj hij => ?_⟩
  · rw [List.length_map] at hj
    rw [arr_get _ (by omega), ncell_at hj hr, hx j hj hj]
    rfl
  · rw [List.length_map] at hj
    rw [hx j hj hj]
    exact (h.2.1 es[j] (List.getElem_mem hj)).1.row
  · rw [List.length_map] at hj
    rw [hx j hj hj]
    exact Row.of_blk (h.2.1 es[j] (List.getElem_mem hj)).2.1
  · rw [List.length_map] at hi hj
    rw [hx i hi hi, hx j hj hj]
    have hpw := List.pairwise_iff_getElem.1 hp.2
    rcases Nat.lt_or_ge i j with hlt | hge
    · have := hpw i j hi hj hlt
      exact ⟨fun _ _ => this.1, fun _ _ => this.2⟩
    · have := hpw j i hj hi (by omega)
      exact ⟨fun _ _ e => this.1 e.symm, fun _ _ e => this.2 e.symm⟩
/-- A view that the laws copied, of blocks of its own. -/
def ViewOwn (v : List Nd) (w : World) (e : Ending) (w' : World) : Prop :=
  ∃ G c es, e = .returned (.slice (some ⟨G, 0, none⟩) v.length c) ∧ es.map NV.d = v ∧ NOwn w' G es ∧ (∀ x, theirs G es x → w.heap.size ≤ x ∧ x < w'.heap.size) ∧ Below w.heap.size w w'
theorem viewOwn_of {w wr : World} {G : Nat} {es : List NE} {v : List Nd} (h : NodSt w G es.length es wr) (hp : DPw w es) (hv : es.map NE.d = v) (hG : w.heap.size ≤ G) : ∃ es', es'.map NV.d = v ∧ NOwn wr G es' ∧ ∀ x, theirs G es' x → w.heap.size ≤ x ∧ x < wr.heap.size := by
  refine ⟨es.map toNV, by rw [List.map_map, ← hv]; rfl, nown_of h hp, fun x hx => ?_⟩
  rcases hx with rfl | ⟨j, hj, hx⟩
  · exact ⟨hG, h.1.lt⟩
  · rw [List.length_map] at hj
    have e1 : nvx (es.map toNV) j = toNV es[j] := by rw [nvx_eq _ j (by simpa using hj)]; simp
    rw [e1] at hx
    have hm := List.getElem_mem hj
    obtain ⟨h1, h2, _⟩ := h.2.1 es[j] hm
    have h3 := hp.1 es[j] hm
    rcases hx with ⟨_, rfl⟩ | ⟨_, rfl⟩
    · exact ⟨h3.1, Blk.lt h1⟩
    · exact ⟨h3.2, h2.lt⟩
end Go.Proofs.YtpadhcoboapodaaGreatDoor
