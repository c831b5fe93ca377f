/- A deed that came in: its kind, its name, its row. -/
import Derived.Test.YtdjoiehknpfigaaGreatJA
import Derived.Test.YtdjoiehknpfigaaGreatChecked
import Derived.OpenShut
import Derived.ShutString
import Derived.Lib.SmallJoins
namespace Go.Proofs.YtdjoiehknpfigaaGreat
open Go.ChangeShapes Go.WideShapes Go.ChangeAt Go.RowKit Go.Deep Go.Joins

set_option maxRecDepth 100000 in
theorem deed_of {H : Type} {enc : TypeId × Value → H} {W : World} {base : Nat} {held : Bool} {r : Reach} {b0 : Nat} {v : Value} {d : DataW H} {p : List MemPlace} (hv : Value.okWide Tryz.prog W r b0 25 v)
    (h : DataW.Trod enc Tryz.prog W base (fun _ => true) held 25 v d p) : ∃ (k : Int) (s : ByteArray) (a : Option Addr) (cap : Nat) (zs : List Int), v = .agg #[.int .i64 k, .string s, .slice a zs.length cap] ∧ Ints W W.heap.size a zs ∧ zs.length ≤ maxLen ∧ s.size ≤ maxLen := by
  obtain ⟨v0, v1, v2, y0, y1, y2, n, rfl, _, _, h0, h1, h2⟩ := open_agg3 Tryz.underlying25 (by kernel_rfl) (by kernel_rfl) hv h
  obtain ⟨k, hv0, _⟩ := DataW.trod_int Tryz.underlying2 h0
  obtain ⟨s, hv1, _, hs⟩ := DataW.trod_string Tryz.underlying9 h1
  obtain ⟨a, len, cap, hv2⟩ : ∃ a len cap, v2 = .slice a len cap := by
    rcases open_slice1 Tryz.underlying23 (by kernel_rfl) h2 with ⟨hcs, _⟩ | ⟨ad, l, c, m, n, V, D, Pl, hcs, _⟩
    · exact ⟨none, 0, 0, by simpa using hcs⟩
    · exact ⟨some ad, l, c, by simpa using hcs⟩
  subst hv2
  obtain ⟨zs, hz⟩ : ∃ zs, IsRow .i64 W a len cap zs := by
    rcases open_ints Tryz.underlying23 Tryz.underlying2 (by kernel_rfl) h2 with ⟨hcs, _⟩ | ⟨x, l, c, zs, hcs, _, hl, hm, hz, _, hcell, hwz⟩
    · simp at hcs
      obtain ⟨rfl, rfl, rfl⟩ := hcs
      exact ⟨[], .inl ⟨rfl, rfl, rfl, rfl⟩⟩
    · simp at hcs
      obtain ⟨rfl, rfl, rfl⟩ := hcs
      exact ⟨zs, .inr ⟨_, rfl, hl, hm, by simpa using hz, hcell, hwz⟩⟩
  obtain ⟨ys, rfl, hI, hm, _⟩ := isRow_ints hz
  have e0 : v0 = .int .i64 k := by simpa using hv0
  have e1 : v1 = .string s := by simpa using hv1
  subst e0 e1
  exact ⟨k, s, a, cap, ys, rfl, hI, hm, hs⟩
end Go.Proofs.YtdjoiehknpfigaaGreat
