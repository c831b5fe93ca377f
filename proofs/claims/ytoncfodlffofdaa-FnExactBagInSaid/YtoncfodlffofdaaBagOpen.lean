/- A slice of counts that came in reads as a bag. -/
import Derived.Test.YtoncfodlffofdaaBag4
import Derived.Deep.SlicePairs
import Derived.ChangeSlices
import Derived.ProofKit
namespace Go.Proofs.Ytoncfodlffofdaa
open Go.ChangeShapes Go.WideShapes Go.ChangeAt Go.RowKit Go.Deep

theorem add_plain (b off k : Nat) : Addr.add ⟨b, off, none⟩ k = ⟨b, off + k, none⟩ := by unfold Addr.add; split <;> simp_all
theorem raw_of {H : Type} {enc : TypeId × Value → H} {W : World} {base : Nat} {held : Bool} {fuel : Nat} {a : Option Addr} {len cap : Nat} {x : DataW H × List MemPlace}
    (h : DataW.trod enc Try.prog W base (fun _ => true) held fuel 63 [.slice a len cap] = some x) : ∃ bag : List (List Int × Int), bag.length = len ∧ RawBag W W.heap.size a bag ∧ len ≤ maxLen := by
  rcases open_slice_pairs Try.underlying63 Try.underlying121 (by kernel_rfl) rfl rfl (by kernel_rfl) (by kernel_rfl) h with ⟨hcs, _⟩ | ⟨ad, l, c, m, n, V0, V1, D0, D1, P0, P1, hcs, _, hl, hm, hmm, _, hat⟩
  · simp at hcs
    obtain ⟨rfl, rfl, rfl⟩ := hcs
    exact ⟨[], rfl, fun h => absurd h (by simp), by decide⟩
  · simp at hcs
    obtain ⟨rfl, rfl, rfl⟩ := hcs
    simp at hmm
    subst hmm
    have hkey : ∀ i, i < len → ∃ y : List Int × Int, ∃ Ar cp, W.cell? (ad.add (i * 2)) = some (.slice Ar y.1.length cp) ∧ W.cell? (ad.add (i * 2 + 1)) = some (.int .i64 y.2) ∧ Ints W W.heap.size Ar y.1 ∧ y.1.length ≤ maxLen := by
      intro i hi
      obtain ⟨c0, c1, t0, t1⟩ := hat i (by omega)
      obtain ⟨nv, hv, _⟩ := DataW.trod_int Try.underlying2 t1
      have hv1 : V1 i = .int .i64 nv := by simpa using hv
      obtain ⟨Ar, l, cp, zs, hV, hR⟩ : ∃ Ar l cp zs, V0 i = .slice Ar l cp ∧ IsRow .i64 W Ar l cp zs := by
        rcases open_ints Try.underlying25 Try.underlying2 (by kernel_rfl) t0 with ⟨hcs, _⟩ | ⟨x, l, c, zs, hcs, _, hl, hm, hz, _, hcell, hwz⟩
        · exact ⟨none, 0, 0, [], by simpa using hcs, .inl ⟨rfl, rfl, rfl, rfl⟩⟩
        · exact ⟨some x, l, c, zs, by simpa using hcs, .inr ⟨_, rfl, hl, hm, by simpa using hz, hcell, hwz⟩⟩
      obtain ⟨ys, rfl, hI, hlm, _⟩ := isRow_ints hR
      exact ⟨(ys, nv), Ar, cp, by rw [c0, hV], by rw [c1, hv1], hI, hlm⟩
    obtain ⟨f, hf⟩ := choose_lt (α := List Int × Int) hkey
    have hlen : ((List.range len).map f).length = len := by simp
    have hr : ∀ j, j < len → rx ((List.range len).map f) j = (f j).1 ∧ nx ((List.range len).map f) j = (f j).2 := by
      intro j hj
      simp [rx, nx, hj]
    refine ⟨(List.range len).map f, hlen, fun hn => ?_, by omega⟩
    have hn' : 0 < len := by rw [hlen] at hn; exact hn
    obtain ⟨b, off, spot⟩ := ad
    obtain ⟨Ar, cp, k0, _⟩ := hf 0 hn'
    have hspot : spot = none := by simpa [Addr.add] using World.cell?_spot k0
    subst hspot
    refine ⟨b, off, rfl, by simpa [Addr.add] using cell_lt k0, fun j hj => ?_⟩
    rw [hlen] at hj
    obtain ⟨Ar, cp, h1, h2, h3, h4⟩ := hf j hj
    rw [add_plain] at h1 h2
    rw [(hr j hj).1, (hr j hj).2]
    exact ⟨Ar, cp, h1, h2, h3, h4⟩
end Go.Proofs.Ytoncfodlffofdaa
