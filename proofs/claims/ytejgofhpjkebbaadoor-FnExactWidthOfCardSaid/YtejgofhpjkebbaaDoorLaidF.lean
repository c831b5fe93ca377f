/- What the rows' condition on the program's own table of the nodes' forms gives the walks. No condition of its own. -/
import Derived.Test.YtejgofhpjkebbaaDoorRows
import Derived.Test.YtejgofhpjkebbaaDoorNod3
import Derived.LaidMore
import Derived.LaidLaws
import Derived.Stop.Joined
import Derived.Stop.LaidErr
import Derived.Lib.LaidTab
import Derived.Lib.SmallJoins
namespace Go.Proofs.YtejgofhpjkebbaaDoor
open Go.RowKit Go.Lib Go.Joins Go.ChangeShapes Go.WideShapes Go.ChangeAt Go.Deep

theorem cells_of_forms {H : Type} {enc : TypeId × Value → H} {P : Program} {w : World} {base : Nat} {sp : Nat → Bool} {held : Bool} {fuel : Nat} {t e : TypeId} {f0 f1 f2 f3 : Field} {n : Nat} {cs : List Value} {ts : List (List UInt8 × Int × Int × Int)} {p : List MemPlace}
    (ht : P.underlying t = some (.array n e)) (he : P.underlying e = some (.struct #[f0, f1, f2, f3])) (hce : P.cellsOf e = 4) (hct : P.cellsOf t = n * 4)
    (o0 : f0.offset = 0) (o1 : f1.offset = 1) (o2 : f2.offset = 2) (o3 : f3.offset = 3) (c0 : P.cellsOf f0.type = 1) (c1 : P.cellsOf f1.type = 1) (c2 : P.cellsOf f2.type = 1) (c3 : P.cellsOf f3.type = 1)
    (u0 : P.underlying f0.type = some .string) (u1 : P.underlying f1.type = some (.int .i64)) (u2 : P.underlying f2.type = some (.int .i64)) (u3 : P.underlying f3.type = some (.int .i64))
    (h : DataW.trod enc P w base sp held fuel t cs = some (.agg (ts.map fun x => .agg [.lit (.string x.1), .lit (.int .i64 x.2.1), .lit (.int .i64 x.2.2.1), .lit (.int .i64 x.2.2.2)]), p)) :
    ∀ i x, ts[i]? = some x → cs[i * 4]? = some (.string ⟨x.1.toArray⟩) ∧ cs[i * 4 + 1]? = some (.int .i64 x.2.1) ∧ cs[i * 4 + 2]? = some (.int .i64 x.2.2.1) ∧ cs[i * 4 + 3]? = some (.int .i64 x.2.2.2) := by
  cases fuel with
  | zero => simp [DataW.trod] at h
  | succ fuel =>
    simp only [DataW.trod, ht, hce, hct] at h
    split at h
    · rename_i hl
      obtain ⟨xs, hm, hx⟩ := Option.map_eq_some_iff.1 h
      have hxs : xs.map (·.1) = ts.map fun x => (DataW.agg [.lit (.string x.1), .lit (.int .i64 x.2.1), .lit (.int .i64 x.2.2.1), .lit (.int .i64 x.2.2.2)] : DataW H) := by
        have := congrArg Prod.fst hx
        simpa using this
      have hxl : xs.length = n := by simpa using mapM_length hm
      have hzl : ts.length = n := by
        have := congrArg List.length hxs
        simp at this
        omega
      intro i x hi
      have hin : i < n := by
        have := (List.getElem?_eq_some_iff.1 hi).1
        omega
      obtain ⟨b, hb, hf⟩ := mapM_at hm i i (by simp [hin])
      have h2 : (xs.map (·.1))[i]? = some b.1 := by simp [hb]
      rw [hxs, List.getElem?_map, hi] at h2
      have h3 := Option.some.inj h2
      obtain ⟨y0, y1, y2, y3, m, rfl, _, g0, g1, g2, g3⟩ := trod_struct4 he hf
      obtain ⟨s, k0, rfl, _⟩ := DataW.trod_string u0 g0
      obtain ⟨a1, k1, rfl, _⟩ := DataW.trod_int u1 g1
      obtain ⟨a2, k2, rfl, _⟩ := DataW.trod_int u2 g2
      obtain ⟨a3, k3, rfl, _⟩ := DataW.trod_int u3 g3
      rw [o0, c0] at k0
      rw [o1, c1] at k1
      rw [o2, c2] at k2
      rw [o3, c3] at k3
      simp only [DataW.agg.injEq, List.cons.injEq, DataW.lit.injEq, Lit.string.injEq, Lit.int.injEq, true_and, and_true] at h3
      obtain ⟨e0, e1, e2, e3⟩ := h3
      have q0 := congrArg (·[0]?) k0
      have q1 := congrArg (·[0]?) k1
      have q2 := congrArg (·[0]?) k2
      have q3 := congrArg (·[0]?) k3
      simp [List.getElem?_drop] at q0 q1 q2 q3
      rw [e0, e1, e2, e3]
      exact ⟨q0, q1, q2, q3⟩
    · cases h
theorem formsAt_of {W : World} {r : List (String × DataW Unit)} (h : laidMet Tryd.prog (("loop.example/g00604/impl.nodeForms", Rows.laid_loop_example_g00604_impl_nodeForms) :: r) W) : FormsAt W := by
  have hg : Tryd.prog.globalNamed "loop.example/g00604/impl.nodeForms" = some 0 := by kernel_rfl
  have hty : (Tryd.prog.globals[0]?).map (·.type) = some 71 := by kernel_rfl
  obtain ⟨ps, ⟨g', t', cs, fuel, p, q, hg', ht', hvar, hd, _, _⟩, _⟩ := h
  obtain rfl := Option.some.inj (hg.symm.trans hg')
  obtain rfl := Option.some.inj (hty.symm.trans ht')
  have hcs := cells_of_forms (ts := (List.range 8).map fun k => (bl (wnx k), ((looksF k : Nat) : Int), ((leastF k : Nat) : Int), ((mostF k : Nat) : Int))) Tryd.underlying71 Tryd.underlying70 (by kernel_rfl) (by kernel_rfl) rfl rfl rfl rfl (by kernel_rfl) (by kernel_rfl) (by kernel_rfl) (by kernel_rfl) (by kernel_rfl) (by kernel_rfl) (by kernel_rfl) (by kernel_rfl) (hd.trans rfl)
  intro k hk
  obtain ⟨h0, h1, h2, h3⟩ := hcs k (bl (wnx k), ((looksF k : Nat) : Int), ((leastF k : Nat) : Int), ((mostF k : Nat) : Int)) (by simp [hk])
  have v0 := World.var?_cell hg hvar (k * 4)
  have v1 := World.var?_cell hg hvar (k * 4 + 1)
  have v2 := World.var?_cell hg hvar (k * 4 + 2)
  have v3 := World.var?_cell hg hvar (k * 4 + 3)
  rw [← Array.getElem?_toList] at v0 v1 v2 v3
  exact ⟨v0.trans h0, v1.trans h1, v2.trans h2, v3.trans h3⟩
end Go.Proofs.YtejgofhpjkebbaaDoor
