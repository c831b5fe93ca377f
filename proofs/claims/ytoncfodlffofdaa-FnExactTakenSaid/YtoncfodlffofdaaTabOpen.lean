/- A table that came in: its name, its width, its rows. -/
import Derived.Test.YtoncfodlffofdaaRowsRows
import Derived.Lib.SmallJoins
namespace Go.Proofs.Ytoncfodlffofdaa
open Go.ChangeShapes Go.WideShapes Go.ChangeAt Go.RowKit Go.Deep Go.Joins

set_option maxRecDepth 100000 in
theorem tab_of {H : Type} {enc : TypeId × Value → H} {W : World} {base : Nat} {held : Bool} {r : Reach} {b0 : Nat} {v : Value} {d : DataW H} {p : List MemPlace} (hv : Value.okWide Try.prog W r b0 76 v)
    (h : DataW.Trod enc Try.prog W base (fun _ => true) held 76 v d p) : ∃ (s : ByteArray) (wd : Int) (a : Option Addr) (rows : List (List Int)) (cap : Nat), v = .agg #[.string s, .int .i64 wd, .slice a rows.length cap] ∧ RawRows W W.heap.size a rows ∧ rows.length ≤ maxLen ∧ s.size ≤ maxLen := by
  obtain ⟨v0, v1, v2, y0, y1, y2, n, rfl, _, _, h0, h1, h2⟩ := open_agg3 Try.underlying76 (by kernel_rfl) (by kernel_rfl) hv h
  obtain ⟨wd, hv1, _⟩ := DataW.trod_int Try.underlying2 h1
  obtain ⟨s, hv0, _, hs⟩ := DataW.trod_string Try.underlying9 h0
  obtain ⟨a, len, cap, hv2⟩ : ∃ a len cap, v2 = .slice a len cap := by
    rcases open_slice1 Try.underlying42 (by kernel_rfl) h2 with ⟨hcs, _⟩ | ⟨ad, l, c, m, n, V, D, Pl, hcs, _⟩
    · exact ⟨none, 0, 0, by simpa using hcs⟩
    · exact ⟨some ad, l, c, by simpa using hcs⟩
  subst hv2
  obtain ⟨rows, rfl, hR, hm⟩ := rawRows_of h2
  have e0 : v0 = .string s := by simpa using hv0
  have e1 : v1 = .int .i64 wd := by simpa using hv1
  subst e0 e1
  exact ⟨s, wd, a, rows, cap, rfl, hR, hm, hs⟩
end Go.Proofs.Ytoncfodlffofdaa
