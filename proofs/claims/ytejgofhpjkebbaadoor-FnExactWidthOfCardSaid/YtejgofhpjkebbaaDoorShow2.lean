/- ShowRow, the model's and the program's, both show a row by the bytes 'showL': the text of each right row, the empty text of any other. For slices of at most 2^40 numbers; the program's reads a table of the library's, which lies as its text lays it. -/
import Derived.Test.YtejgofhpjkebbaaDoorText1
import Derived.Test.YtejgofhpjkebbaaDoorJA
import Derived.Lib.ItoaLen
import Derived.Lib.OthersKept
namespace Go.Proofs.YtejgofhpjkebbaaDoor
open Go.RowKit Go.Shelf
attribute [local go_sem] Oper.semAt_some

theorem numbersL_nil : numbersL [] = [] := rfl
theorem numbersL_one (x : Int) : numbersL [x] = Lib.itoa x := by simp [numbersL, numT, catT, cat, bl]
theorem numbersL_snoc (zs : List Int) (x : Int) (h : zs ≠ []) : numbersL (zs ++ [x]) = numbersL zs ++ [32] ++ Lib.itoa x := by
  unfold numbersL catT numT
  rw [List.map_append, List.map_append]
  have := cat_snoc (bl ⟨#[32]⟩) (Lib.itoa x) ((zs.map fun n => (⟨(Lib.itoa n).toArray⟩ : ByteArray)).map bl) (by simpa using h)
  simpa [bl] using this
theorem itoa_pos (x : Int) : 0 < (Lib.itoa x).length := by
  unfold Lib.itoa
  split
  · simp
  · rw [Lib.decDigits_length]; exact Lib.nDigits_pos _
theorem numbersL_len (zs : List Int) (h : zs.all cellB = true) : (numbersL zs).length ≤ 22 * zs.length ∧ (zs ≠ [] → 0 < (numbersL zs).length) := by
  induction hn : zs.length generalizing zs with
  | zero =>
    have : zs = [] := List.length_eq_zero_iff.1 hn
    subst this
    exact ⟨by simp [numbersL_nil], fun h => absurd rfl h⟩
  | succ n ih =>
    have hne : zs ≠ [] := by intro e; subst e; simp at hn
    obtain ⟨ini, x, rfl⟩ : ∃ ini x, zs = ini ++ [x] := ⟨zs.dropLast, zs.getLast hne, (List.dropLast_concat_getLast hne).symm⟩
    rw [List.all_append] at h
    have h1 : ini.all cellB = true ∧ cellB x = true := by simpa using h
    obtain ⟨hx0, hx1⟩ := cell_of_B h1.2
    have hil := Lib.itoa_length_le x (by omega) (by omega)
    have hip := itoa_pos x
    have hini : ini.length = n := by simp at hn; omega
    have := (ih ini h1.1 hini).1
    by_cases h0 : ini = []
    · subst h0
      simp only [List.nil_append, numbersL_one]
      exact ⟨by omega, fun _ => hip⟩
    · rw [numbersL_snoc ini x h0]
      simp only [List.length_append, List.length_cons, List.length_nil]
      exact ⟨by omega, fun _ => by omega⟩

/-- What ShowRow shows. -/
def showL (zs : List Int) : List UInt8 := if rowOkB zs = true then (if zs = [] then [45] else numbersL zs) else []
theorem rowOkB_all {zs : List Int} (h : rowOkB zs = true) : zs.all cellB = true ∧ zs.length ≤ 6 := by
  unfold rowOkB at h
  rw [Bool.and_eq_true] at h
  exact ⟨h.1, of_decide_eq_true h.2⟩

/-- A number that a row may have. -/
abbrev Cell := { x : Int // -1000000000 ≤ x ∧ x ≤ 1000000000 }
def cv (x : Cell) : Int := x.1
theorem cv_in (x : Cell) : -1000000000 ≤ cv x ∧ cv x ≤ 1000000000 := x.2
theorem cells_of {zs : List Int} (h : zs.all cellB = true) : ∃ xs : List Cell, xs.map cv = zs := by
  induction zs with
  | nil => exact ⟨[], rfl⟩
  | cons x zs ih =>
    have h1 : cellB x = true ∧ zs.all cellB = true := by simpa using h
    obtain ⟨xs, rfl⟩ := ih h1.2
    exact ⟨⟨x, cell_of_B h1.1⟩ :: xs, rfl⟩
theorem cells_all (xs : List Cell) : (xs.map cv).all cellB = true := by
  rw [List.all_eq_true]
  intro y hy
  obtain ⟨x, _, rfl⟩ := List.mem_map.1 hy
  have := cv_in x
  simp [cellB, inB]; omega
/-- The text that has been written when the numbers pre have come. -/
def tb (pre : List Cell) : List UInt8 := numbersL (pre.map cv)
theorem tb_len (pre : List Cell) : (tb pre).length ≤ 22 * pre.length ∧ (pre ≠ [] → 0 < (tb pre).length) := by
  have := numbersL_len _ (cells_all pre)
  simpa [tb] using this
theorem tb_one (x : Cell) : tb [x] = Lib.itoa (cv x) := numbersL_one _
theorem tb_first (x : Cell) : tb [x] = tb [] ++ Lib.itoa (cv x) := by rw [tb_one]; simp [tb, numbersL_nil]
theorem tb_snoc (pre : List Cell) (x : Cell) (h : pre ≠ []) : tb (pre ++ [x]) = tb pre ++ [32] ++ Lib.itoa (cv x) := by
  unfold tb
  rw [List.map_append]
  exact numbersL_snoc _ _ (by simp only [ne_eq, List.map_eq_nil_iff]; exact h)
theorem keeps_of_others {e : TypeId} {W W' : World} (h : Lib.OthersKept e none W W') (hs : W.heap.size ≤ W'.heap.size) : KeepsOthers W W' :=
  ⟨hs, fun k o hk ho => h k o hk (by simp) (by rintro c fz rfl; cases ho)⟩

end Go.Proofs.YtejgofhpjkebbaaDoor
