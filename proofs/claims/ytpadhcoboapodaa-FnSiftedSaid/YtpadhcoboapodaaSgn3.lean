/- The contract of the program's appendCopies onto an empty slice, whatever lay before it; of the list's 'turned' with turnedRound; of Minus. An own bag that reads as told; nothing that lay has turned. -/
import Derived.Test.YtpadhcoboapodaaSgn0
import Derived.Test.YtpadhcoboapodaaSgn1
import Derived.Test.YtpadhcoboapodaaSum3
namespace Go.Proofs.Ytpadhcoboapodaa
open Go.RowKit

theorem grown_bel {a b d : World} {c B : Nat} (h : a.grownBy b (some c)) (k : Below B b d) (hB : a.heap.size ≤ B) : a.grownBy d (some c) :=
  ⟨k.os.trans h.os, k.tape.trans h.tape, k.output.trans h.output, Nat.le_trans h.size k.size, fun i hi hne => (k.block i (by omega)).trans (h.block i hi hne)⟩
theorem grown_row {a b d : World} {c r : Nat} (h : a.grownBy b (some c)) (k : b.grownBy d (some r)) (hr : r = c ∨ a.heap.size ≤ r) : a.grownBy d (some c) :=
  ⟨k.os.trans h.os, k.tape.trans h.tape, k.output.trans h.output, Nat.le_trans h.size k.size, fun i hi hne => (k.block i (Nat.lt_of_lt_of_le hi h.size) (fun e => by
    have e' : i = r := Option.some.inj e
    rcases hr with hr | hr
    · exact hne (by rw [e', hr])
    · omega)).trans (h.block i hi hne)⟩
theorem cell_keepG {w w' : World} {g0 : Nat} {t : TypeId} (hE : Blk w g0 t #[]) (hg : w.grownBy w' (some g0)) {p : Addr} {u : Value} (h : w.cell? p = some u) : w'.cell? p = some u := by
  have hlt := cell_lt h
  have hs := World.cell?_spot h
  have hne : p.block ≠ g0 := by
    intro e
    obtain ⟨b, off, spot⟩ := p
    simp only at hs e
    subst hs e
    rw [hE.cell off] at h
    simp at h
  rw [World.cell?_of_block (hg.block p.block hlt (fun e => hne (Option.some.inj e)))]
  exact h
theorem Ints.keepG {w w' : World} {A : Option Addr} {zs : List Int} {g0 : Nat} {t : TypeId} (h : Ints w w.heap.size A zs) (hE : Blk w g0 t #[]) (hg : w.grownBy w' (some g0)) : Ints w' w'.heap.size A zs := fun hn => by
  obtain ⟨b, off, e, hb, hc⟩ := h hn
  exact ⟨b, off, e, Nat.lt_of_lt_of_le hb hg.size, fun j hj => cell_keepG hE hg (hc j hj)⟩
theorem Bag.keepG {w w' : World} {A : Option Addr} {bag : List (List Int × Int)} {g0 : Nat} {t : TypeId} (h : Bag w w.heap.size A bag) (hE : Blk w g0 t #[]) (hg : w.grownBy w' (some g0)) : Bag w' w'.heap.size A bag := fun hn => by
  obtain ⟨b, off, e, hb, hc⟩ := h hn
  refine ⟨b, off, e, Nat.lt_of_lt_of_le hb hg.size, fun j hj => ?_⟩
  obtain ⟨Ar, cap, h1, h2, h3, h4⟩ := hc j hj
  exact ⟨Ar, cap, cell_keepG hE hg h1, cell_keepG hE hg h2, h3.keepG hE hg, h4⟩
theorem empty_own {w : World} {g0 : Nat} (hE : Blk w g0 42 #[]) : OBag w g0 (.slice (some ⟨g0, 0, none⟩) 0 0) [] :=
  OBag.nil ⟨rfl, .inr ⟨g0, 0, #[], rfl, Nat.le_refl _, hE, Nat.le_refl _, Nat.zero_le _, rfl, rfl⟩⟩

end Go.Proofs.Ytpadhcoboapodaa
