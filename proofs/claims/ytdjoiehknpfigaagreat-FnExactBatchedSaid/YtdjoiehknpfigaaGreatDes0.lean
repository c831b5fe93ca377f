/- Lists of deeds in memory, whatever they are: words and laws; one that came in; the laws' comparison. -/
import Derived.Test.YtdjoiehknpfigaaGreatBas2
import Derived.Test.YtdjoiehknpfigaaGreatDeed3
import Derived.Test.YtdjoiehknpfigaaGreatDeedOpen
import Derived.StillTailTactics
namespace Go.Proofs.YtdjoiehknpfigaaGreat
open Go.ChangeShapes Go.WideShapes Go.ChangeAt Go.RowKit Go.Deep

def zeroL : DL := ⟨0, ⟨#[]⟩, []⟩
instance : Inhabited DL := ⟨zeroL⟩
def dlx (ds : List DL) (j : Nat) : DL := ds[j]?.getD zeroL
theorem dlx_eq (ds : List DL) (j : Nat) (h : j < ds.length) : dlx ds j = ds[j] := by simp [dlx, h]
theorem dlx_mem {ds : List DL} {j : Nat} (h : j < ds.length) : dlx ds j ∈ ds := by rw [dlx_eq ds j h]; exact List.getElem_mem h
def dw (d : DL) : Nat := d.n.size + d.z.length
def dwS (ds : List DL) : Nat := (ds.map dw).sum
theorem dwS_take {ds : List DL} {k : Nat} (h : k < ds.length) : dwS (ds.take (k + 1)) = dwS (ds.take k) + dw (dlx ds k) := by
  unfold dwS
  rw [List.take_succ_eq_append_getElem h, List.map_append, List.sum_append_nat, ← dlx_eq ds k h]; simp
def fitD (m : Nat) (ds : List DL) : Prop := ∀ j, j < ds.length → (dlx ds j).n.size ≤ m ∧ (dlx ds j).z.length ≤ m
theorem fitD_of {m : Nat} {ds : List DL} (h : dwS ds ≤ m) : fitD m ds := fun j hj => by
  have h1 : dw (dlx ds j) ≤ dwS ds := by
    unfold dwS
    exact le_sum (List.mem_map.2 ⟨_, dlx_mem hj, rfl⟩)
  unfold dw at h1
  omega
/-- The slice value '.slice A ds.length c' reads as these deeds. -/
def DLs (w : World) (B : Nat) (A : Option Addr) (ds : List DL) : Prop :=
  0 < ds.length → ∃ b off, A = some ⟨b, off, none⟩ ∧ b < B ∧ ∀ j, j < ds.length → ∃ Ar cr, w.cell? ⟨b, off + j * 3, none⟩ = some (.int .i64 (dlx ds j).k) ∧ w.cell? ⟨b, off + j * 3 + 1, none⟩ = some (.string (dlx ds j).n) ∧ w.cell? ⟨b, off + j * 3 + 2, none⟩ = some (.slice Ar (dlx ds j).z.length cr) ∧ Ints w B Ar (dlx ds j).z
section
variable {w w' : World} {B B' : Nat} {A : Option Addr} {ds : List DL}
theorem DLs.below (h : DLs w B A ds) (hb : Below B w w') : DLs w' B A ds := fun hn => by
  obtain ⟨b, off, e, hlt, hc⟩ := h hn
  refine ⟨b, off, e, hlt, fun j hj => ?_⟩
  obtain ⟨Ar, cr, h1, h2, h3, h4⟩ := hc j hj
  exact ⟨Ar, cr, (hb.cell hlt).trans h1, (hb.cell hlt).trans h2, (hb.cell hlt).trans h3, h4.below hb⟩
theorem DLs.more (h : DLs w B A ds) (hB : B ≤ B') : DLs w B' A ds := fun hn => by
  obtain ⟨b, off, e, hlt, hc⟩ := h hn
  refine ⟨b, off, e, Nat.lt_of_lt_of_le hlt hB, fun j hj => ?_⟩
  obtain ⟨Ar, cr, h1, h2, h3, h4⟩ := hc j hj
  exact ⟨Ar, cr, h1, h2, h3, h4.more hB⟩
theorem DLs.on (h : DLs w w.heap.size A ds) (hb : Below w.heap.size w w') : DLs w' w'.heap.size A ds := (h.below hb).more hb.size
theorem DLs.here (h : DLs w B A ds) {j : Nat} (hj : j < ds.length) : ∃ b off Ar cr, A = some ⟨b, off, none⟩ ∧ b < B ∧ w.cell? ⟨b, off + j * 3, none⟩ = some (.int .i64 (dlx ds j).k) ∧ w.cell? ⟨b, off + j * 3 + 1, none⟩ = some (.string (dlx ds j).n) ∧ w.cell? ⟨b, off + j * 3 + 2, none⟩ = some (.slice Ar (dlx ds j).z.length cr) ∧ Ints w B Ar (dlx ds j).z := by
  obtain ⟨b, off, e, hlt, hc⟩ := h (by omega)
  obtain ⟨Ar, cr, h1, h2, h3, h4⟩ := hc j hj
  exact ⟨b, off, Ar, cr, e, hlt, h1, h2, h3, h4⟩
end
end Go.Proofs.YtdjoiehknpfigaaGreat
