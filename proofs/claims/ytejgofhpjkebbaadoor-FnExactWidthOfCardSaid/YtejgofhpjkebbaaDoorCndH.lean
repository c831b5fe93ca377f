/- What holds for a row: the model's Holds; nothing that lay has turned. -/
import Derived.Test.YtejgofhpjkebbaaDoorCndS
import Derived.Test.YtejgofhpjkebbaaDoorJA
namespace Go.Proofs.YtejgofhpjkebbaaDoor
open Go.RowKit

theorem holdsB_conds {l : List Cnd} {row : List Int} (h : condsB l row.length = false) : holdsB l row = false := by unfold holdsB; rw [h]; rfl
theorem holdsB_row {l : List Cnd} {row : List Int} (h : rowOkB row = false) : holdsB l row = false := by unfold holdsB; rw [h]; simp
theorem holdsB_is {l : List Cnd} {row : List Int} (h : condsB l row.length = true) (h2 : rowOkB row = true) : holdsB l row = l.all (holdC row) := by unfold holdsB; rw [h, h2]; rfl
theorem holdC_is {row : List Int} {c : Cnd} {pn : Nat} (hp : c.p = pn) : holdC row c = opH c.o (ix row pn) (otherC row c) := by unfold holdC; rw [hp]; rfl
theorem other_i {row : List Int} {c : Cnd} (h : c.i = true) : otherC row c = c.t := by unfold otherC; rw [if_pos h]
theorem other_t {row : List Int} {c : Cnd} {tn : Nat} (h : c.i = false) (ht : c.t = tn) : otherC row c = ix row tn := by unfold otherC; rw [if_neg (by rw [h]; simp), ht]; rfl
/-- What the conds say of the cond at place k, for a row that they are right for. -/
theorem cond_at {l : List Cnd} {wd : Int} (h : condsB l wd = true) {k : Nat} (hk : k < l.length) : (0 ≤ (cx l k).p ∧ (cx l k).p < wd) ∧ (1 ≤ (cx l k).o ∧ (cx l k).o ≤ 3) ∧ ((cx l k).i = true ∨ ((cx l k).i = false ∧ 0 ≤ (cx l k).t ∧ (cx l k).t < wd)) := by
  obtain ⟨⟨h1, _⟩, h2⟩ := condsB_iff.1 h
  obtain ⟨hp, ho, ht⟩ := condB_iff.1 (h1 _ (cx_mem hk))
  obtain ⟨f1, f2⟩ := fitC_iff.1 (h2 _ (cx_mem hk))
  refine ⟨⟨hp.1, f1⟩, ho, ?_⟩
  rcases ht with ht | ht
  · exact .inl ht.1
  · right
    refine ⟨ht.1, ht.2.1, ?_⟩
    rcases f2 with f2 | f2
    · rw [ht.1] at f2; cases f2
    · exact f2

end Go.Proofs.YtejgofhpjkebbaaDoor
