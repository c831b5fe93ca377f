/- Contracts of the drawing of bags, second part: l2DrawAny, l2DrawIn: a bag, or a row of it, in new memory; the cursor goes on; nothing else that lay has turned. -/
import Derived.Test.YtedbjjhkjkpnkaaDrawBag1
namespace Go.Proofs.Ytedbjjhkjkpnkaa
open Go.RowKit

/-- What the drawing of a bag leaves. -/
def DrawnRB (c most wide : Nat) (w : World) (e : Ending) (w' : World) : Prop :=
  ∃ g cap es, e = .returned (.slice (some ⟨g, 0, none⟩) es.length cap) ∧ RB w' w.heap.size g cap es ∧ es.length ≤ most ∧ (∀ e ∈ es, e.r.length ≤ wide) ∧ Cur w' c ∧ w.grownBy w' (some c)
theorem RB.grownC {w w' : World} {lo g cap c : Nat} {es : List Ent} (h : RB w lo g cap es) (hg : w.grownBy w' (some c)) (hc : Cur w c) : RB w' lo g cap es := by
  obtain ⟨A, cp, zs, i, hh, hB, _⟩ := hc
  have hne : ∀ {v : Value} {n : Nat} {xs : List Value}, w.ownsRow lo 63 2 v n xs → v.ownBlock = none ∨ v.ownBlock ≠ some c := by
    intro v n xs hown
    right
    intro e
    rcases hown.2 with ⟨rfl, _⟩ | ⟨g', cap', cur', rfl, _, hg', _⟩
    · cases e
    · have : g' = c := Option.some.inj e
      subst this
      unfold Blk at hB
      rw [hB] at hg'
      injection hg' with hg'
      injection hg' with _ h2 _
      exact absurd h2 (by decide)
  refine ⟨h.1.kept hg (hne h.1), fun e he => (h.2 e he).kept hg fun hn e1 => ?_⟩
  obtain ⟨_, cur, hc', _⟩ := h.2 e he hn
  injection e1 with e1
  rw [e1] at hc'
  unfold Blk at hB
  rw [hB] at hc'
  injection hc' with hc'
  injection hc' with _ h2 _
  exact absurd h2 (by decide)
theorem one_row (r : List Int) (n : Int) (A : Option Addr) (cp g : Nat) : entCells [(⟨r, n, A, cp, g⟩ : Ent)] = [.slice A r.length cp, .int .i64 n] := rfl
theorem Row.kC {w w' : World} {A : Option Addr} {zs : List Int} {g c : Nat} (h : Row w 2 A zs g) (hg : w.grownBy w' (some c)) (hc : Cur w c) : Row w' 2 A zs g := by
  obtain ⟨_, cp, zs', i, hh, hB, _⟩ := hc
  refine h.kept hg fun hn e1 => ?_
  obtain ⟨_, cur, hc', _⟩ := h hn
  injection e1 with e1
  rw [e1] at hc'
  unfold Blk at hB
  rw [hB] at hc'
  injection hc' with hc'
  injection hc' with _ h2 _
  exact absurd h2 (by decide)

end Go.Proofs.Ytedbjjhkjkpnkaa
