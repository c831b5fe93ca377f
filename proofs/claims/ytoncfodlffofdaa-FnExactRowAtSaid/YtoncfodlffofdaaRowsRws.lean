/- Slices of rows: words. -/
import Derived.Test.YtoncfodlffofdaaBase
namespace Go.Proofs.Ytoncfodlffofdaa
open Go.RowKit

def rr (rows : List (List Int)) (j : Nat) : List Int := rows[j]?.getD []
theorem rr_eq {rows : List (List Int)} {j : Nat} (h : j < rows.length) : rr rows j = rows[j] := by simp [rr, h]
/-- A slice of rows reads as the list: its cells and its rows lie below B. -/
def Rws (w : World) (B : Nat) (A : Option Addr) (rows : List (List Int)) : Prop :=
  0 < rows.length → ∃ b off, A = some ⟨b, off, none⟩ ∧ b < B ∧ ∀ j, j < rows.length → ∃ Ar cap, w.cell? ⟨b, off + j, none⟩ = some (.slice Ar (rr rows j).length cap) ∧ Ints w B Ar (rr rows j) ∧ (rr rows j).length ≤ 1099511627776
def RawRows (w : World) (B : Nat) (A : Option Addr) (rows : List (List Int)) : Prop :=
  0 < rows.length → ∃ b off, A = some ⟨b, off, none⟩ ∧ b < B ∧ ∀ j, j < rows.length → ∃ Ar cap, w.cell? ⟨b, off + j, none⟩ = some (.slice Ar (rr rows j).length cap) ∧ Ints w B Ar (rr rows j) ∧ (rr rows j).length ≤ maxLen
theorem Rws.on {w w' : World} {A : Option Addr} {rows : List (List Int)} (h : Rws w w.heap.size A rows) (hb : Below w.heap.size w w') : Rws w' w'.heap.size A rows := fun hn => by
  obtain ⟨b, off, e, hlt, hc⟩ := h hn
  refine ⟨b, off, e, Nat.lt_of_lt_of_le hlt hb.size, fun j hj => ?_⟩
  obtain ⟨Ar, cap, h1, h2, h3⟩ := hc j hj
  exact ⟨Ar, cap, (hb.cell hlt).trans h1, h2.on hb, h3⟩
theorem RawRows.on {w w' : World} {A : Option Addr} {rows : List (List Int)} (h : RawRows w w.heap.size A rows) (hb : Below w.heap.size w w') : RawRows w' w'.heap.size A rows := fun hn => by
  obtain ⟨b, off, e, hlt, hc⟩ := h hn
  refine ⟨b, off, e, Nat.lt_of_lt_of_le hlt hb.size, fun j hj => ?_⟩
  obtain ⟨Ar, cap, h1, h2, h3⟩ := hc j hj
  exact ⟨Ar, cap, (hb.cell hlt).trans h1, h2.on hb, h3⟩
theorem RawRows.rws {w : World} {B : Nat} {A : Option Addr} {rows : List (List Int)} (h : RawRows w B A rows) (hl : ∀ j, j < rows.length → (rr rows j).length ≤ 1099511627776) : Rws w B A rows := fun hn => by
  obtain ⟨b, off, e, hlt, hc⟩ := h hn
  refine ⟨b, off, e, hlt, fun j hj => ?_⟩
  obtain ⟨Ar, cap, h1, h2, _⟩ := hc j hj
  exact ⟨Ar, cap, h1, h2, hl j hj⟩
end Go.Proofs.Ytoncfodlffofdaa
