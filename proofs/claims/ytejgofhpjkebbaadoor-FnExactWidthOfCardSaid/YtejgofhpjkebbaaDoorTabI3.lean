/- Contracts of the program's RowAt and BagIn: a row, a bag of the call's own; nothing that lay has turned. -/
import Derived.Test.YtejgofhpjkebbaaDoorJC
import Derived.Test.YtejgofhpjkebbaaDoorJD
import Derived.Test.YtejgofhpjkebbaaDoorJE
import Derived.Test.YtejgofhpjkebbaaDoorJB
namespace Go.Proofs.YtejgofhpjkebbaaDoor
open Go.RowKit

theorem tab_sk {s : ByteArray} {wd : Int} {rows : List (List Int)} (h : tabB s wd rows = true) : SK rows := by
  unfold tabB at h
  rw [Bool.and_eq_true] at h
  exact (rowsOk_iff.1 h.2).2.1
theorem there_fnd {s : ByteArray} {wd : Int} {rows : List (List Int)} (h : tabB s wd rows = true) (q : Int) : thereB s wd rows q = fndB rows q := by
  unfold thereB
  rw [h, Bool.true_and, (idx_fnd (tab_sk h) q).1]
theorem at_fnd {s : ByteArray} {wd : Int} {rows : List (List Int)} (h : tabB s wd rows = true) {q : Int} (hf : fndB rows q = true) : atL s wd rows q = rr rows (plcK rows q) ∧ plcK rows q < rows.length := by
  have e := (idx_fnd (tab_sk h) q).2 hf
  have hi : idxK rows q < rows.length := of_decide_eq_true (by rw [(idx_fnd (tab_sk h) q).1]; exact hf)
  unfold atL
  rw [there_fnd h, hf, if_pos rfl, e]
  exact ⟨rfl, by rw [← e]; exact hi⟩
theorem at_none {s : ByteArray} {wd : Int} {rows : List (List Int)} {q : Int} (h : thereB s wd rows q = false) : atL s wd rows q = [] := by
  unfold atL; rw [h]; rfl
/-- The part cut out reads as its list. -/
theorem Rws.cut {w : World} {B : Nat} {A A' : Option Addr} {rows : List (List Int)} {f e : Nat} (h : Rws w B A rows) (hf : f ≤ e) (he : e ≤ rows.length) (hA : ∀ b off, A = some ⟨b, off, none⟩ → f < e → A' = some ⟨b, off + f, none⟩) : Rws w B A' ((rows.take e).drop f) := fun hn => by
  rw [List.length_drop, List.length_take, Nat.min_eq_left he] at hn
  obtain ⟨b, off, hAe, hb, hc⟩ := h (by omega)
  refine ⟨b, off + f, hA b off hAe (by omega), hb, fun j hj => ?_⟩
  rw [List.length_drop, List.length_take, Nat.min_eq_left he] at hj
  have er : rr ((rows.take e).drop f) j = rr rows (f + j) := by
    unfold rr
    rw [List.getElem?_drop, List.getElem?_take, if_pos (by omega)]
  obtain ⟨Ar, cap, h1, h2, h3⟩ := hc (f + j) (by omega)
  rw [er]
  exact ⟨Ar, cap, by rw [Nat.add_assoc]; exact h1, h2, h3⟩
end Go.Proofs.YtejgofhpjkebbaaDoor
