/- A slice of conds that came in reads as a list. -/
import Derived.Test.YtejgofhpjkebbaaDoorCnd0
import Derived.Deep.SlicePairs
import Derived.ChangeSlices
import Derived.ProofKit
namespace Go.Proofs.YtejgofhpjkebbaaDoor
open Go.ChangeShapes Go.WideShapes Go.ChangeAt Go.RowKit Go.Deep

theorem addC_plain (b off k : Nat) : Addr.add ⟨b, off, none⟩ k = ⟨b, off + k, none⟩ := by unfold Addr.add; split <;> simp_all
theorem addC_add (a : Addr) (i j : Nat) : (a.add i).add j = a.add (i + j) := by
  unfold Addr.add
  by_cases hi : i = 0
  · by_cases hj : j = 0
    · simp [hi, hj]
    · simp [hi, hj]
  · by_cases hj : j = 0
    · simp [hi, hj]
    · simp [hi, hj]; omega
theorem open_slice4 {H : Type} {enc : TypeId × Value → H} {P : Program} {w : World} {base : Nat} {spare : Nat → Bool} {held : Bool} {t e : TypeId} {f0 f1 f2 f3 : Field} {fuel : Nat} {a : Option Addr} {len cap : Nat} {x : DataW H × List MemPlace} (ht : P.underlying t = some (.slice e)) (he : P.underlying e = some (.struct #[f0, f1, f2, f3]))
    (ce : P.cellsOf e = 4) (o0 : f0.offset = 0) (o1 : f1.offset = 1) (o2 : f2.offset = 2) (o3 : f3.offset = 3) (c0 : P.cellsOf f0.type = 1) (c1 : P.cellsOf f1.type = 1) (c2 : P.cellsOf f2.type = 1) (c3 : P.cellsOf f3.type = 1)
    (h : DataW.trod enc P w base spare held fuel t [.slice a len cap] = some x) :
    (a = none ∧ len = 0) ∨ ∃ ad n, a = some ad ∧ len ≤ maxLen ∧ ∀ i, i < len → ∃ v0 v1 v2 v3 y0 y1 y2 y3, w.cell? (ad.add (i * 4)) = some v0 ∧ w.cell? (ad.add (i * 4 + 1)) = some v1 ∧ w.cell? (ad.add (i * 4 + 2)) = some v2 ∧ w.cell? (ad.add (i * 4 + 3)) = some v3 ∧
      DataW.trod enc P w base spare held n f0.type [v0] = some y0 ∧ DataW.trod enc P w base spare held n f1.type [v1] = some y1 ∧ DataW.trod enc P w base spare held n f2.type [v2] = some y2 ∧ DataW.trod enc P w base spare held n f3.type [v3] = some y3 := by
  rcases open_slice ht h with ⟨hcs, _⟩ | ⟨ad, l, c, m, n, D, Pl, hcs, hb, hl, hm, hmm, rfl, hx⟩
  · simp at hcs
    exact .inl ⟨hcs.1, hcs.2.1⟩
  right
  simp at hcs
  obtain ⟨rfl, rfl, rfl⟩ := hcs
  have hlm : len ≤ m := by rw [hmm]; split <;> omega
  refine ⟨ad, n - 1, rfl, by omega, fun i hi => ?_⟩
  obtain ⟨cs', h1, h2⟩ := hx i (by omega)
  rw [ce] at h1
  obtain ⟨_, hlen, hcell⟩ := World.cells?_some h1
  obtain ⟨xs, k, hk, hxy, _, hxl, hf⟩ := DataW.trod_struct he h2
  have hk' : k = n - 1 := by omega
  subst hk'
  match xs, hxl, cs', hlen with
  | [y0, y1, y2, y3], _, [v0, v1, v2, v3], _ =>
    have g0 := hf 0 f0 rfl
    have g1 := hf 1 f1 rfl
    have g2 := hf 2 f2 rfl
    have g3 := hf 3 f3 rfl
    simp [o0, o1, o2, o3, c0, c1, c2, c3] at g0 g1 g2 g3
    have e0 := hcell 0 (by omega)
    have e1 := hcell 1 (by omega)
    have e2 := hcell 2 (by omega)
    have e3 := hcell 3 (by omega)
    rw [addC_add] at e0 e1 e2 e3
    exact ⟨v0, v1, v2, v3, y0, y1, y2, y3, by simpa using e0, by simpa using e1, by simpa using e2, by simpa using e3, g0, g1, g2, g3⟩
theorem conds_of {H : Type} {enc : TypeId × Value → H} {W : World} {base : Nat} {held : Bool} {fuel : Nat} {a : Option Addr} {len cap : Nat} {x : DataW H × List MemPlace}
    (h : DataW.trod enc Tryd.prog W base (fun _ => true) held fuel 39 [.slice a len cap] = some x) : ∃ l : List Cnd, l.length = len ∧ Cnds W W.heap.size a l ∧ len ≤ maxLen := by
  rcases open_slice4 Tryd.underlying39 Tryd.underlying88 (by kernel_rfl) rfl rfl rfl rfl (by kernel_rfl) (by kernel_rfl) (by kernel_rfl) (by kernel_rfl) h with ⟨rfl, rfl⟩ | ⟨ad, n, rfl, hm, hat⟩
  · exact ⟨[], rfl, fun h => absurd h (by simp), by decide⟩
  · have hkey : ∀ i, i < len → ∃ y : Cnd, W.cell? (ad.add (i * 4)) = some (.int .i64 y.p) ∧ W.cell? (ad.add (i * 4 + 1)) = some (.int .i64 y.o) ∧ W.cell? (ad.add (i * 4 + 2)) = some (.int .i64 y.t) ∧ W.cell? (ad.add (i * 4 + 3)) = some (.bool y.i) := by
      intro i hi
      obtain ⟨v0, v1, v2, v3, y0, y1, y2, y3, k0, k1, k2, k3, t0, t1, t2, t3⟩ := hat i hi
      obtain ⟨p, hv0, _⟩ := DataW.trod_int Tryd.underlying2 t0
      obtain ⟨o, hv1, _⟩ := DataW.trod_int Tryd.underlying2 t1
      obtain ⟨t, hv2, _⟩ := DataW.trod_int Tryd.underlying2 t2
      obtain ⟨b, hv3, _⟩ := DataW.trod_bool Tryd.underlying4 t3
      have e0 : v0 = .int .i64 p := by simpa using hv0
      have e1 : v1 = .int .i64 o := by simpa using hv1
      have e2 : v2 = .int .i64 t := by simpa using hv2
      have e3 : v3 = .bool b := by simpa using hv3
      subst e0 e1 e2 e3
      exact ⟨⟨p, o, t, b⟩, k0, k1, k2, k3⟩
    obtain ⟨f, hf⟩ := choose_lt (α := Cnd) hkey
    have hlen : ((List.range len).map f).length = len := by simp
    have hr : ∀ j, j < len → cx ((List.range len).map f) j = f j := by
      intro j hj
      simp [cx, hj]
    refine ⟨(List.range len).map f, hlen, fun hn => ?_, hm⟩
    have hn' : 0 < len := by rw [hlen] at hn; exact hn
    obtain ⟨b, off, spot⟩ := ad
    obtain ⟨k0, _⟩ := hf 0 hn'
    have hspot : spot = none := by simpa [Addr.add] using World.cell?_spot k0
    subst hspot
    refine ⟨b, off, rfl, by simpa [Addr.add] using cell_lt k0, fun j hj => ?_⟩
    rw [hlen] at hj
    obtain ⟨h0, h1, h2, h3⟩ := hf j hj
    rw [addC_plain] at h0 h1 h2 h3
    rw [hr j hj]
    exact ⟨h0, h1, h2, h3⟩
end Go.Proofs.YtejgofhpjkebbaaDoor
