/- The contract of the list's 'merged' with countLess and countsTogether: a bag of shared rows that reads as the two merged; nothing that lay has turned. -/
import Derived.Test.YtpadhcoboapodaaSgn4
namespace Go.Proofs.Ytpadhcoboapodaa
open Go.RowKit

def slen : Value → Nat
  | .slice _ n _ => n
  | _ => 0
theorem Bag.head {w : World} {B : Nat} {A : Option Addr} {r : List Int} {n : Int} {xs : List (List Int × Int)} (h : Bag w B A ((r, n) :: xs)) : ∃ b off Ar cr, A = some ⟨b, off, none⟩ ∧ b < B ∧ w.cell? ⟨b, off, none⟩ = some (.slice Ar r.length cr) ∧ w.cell? ⟨b, off + 1, none⟩ = some (.int .i64 n) ∧ Ints w B Ar r ∧ r.length ≤ 1099511627776 ∧ Bag w B (some ⟨b, off + 2, none⟩) xs := by
  obtain ⟨b, off, rfl, hb, hc⟩ := h (by simp)
  obtain ⟨Ar, cr, h1, h2, h3, h4⟩ := hc 0 (by simp)
  refine ⟨b, off, Ar, cr, rfl, hb, by simpa [rx] using h1, by simpa [nx] using h2, by simpa [rx] using h3, by simpa [rx] using h4, ?_⟩
  have := Bag.drop h 1
  simpa using this
/-- What a cut from place 1 on leads to. -/
theorem Bag.tail1 {w : World} {B b off la c : Nat} {xs : List (List Int × Int)} (h : Bag w B (some ⟨b, off + 2, none⟩) xs) (hl : xs.length = la - 1) (hc : la ≤ c) (h0 : 0 < la) : Bag w B (if c = 1 then some ⟨b, off, none⟩ else some ⟨b, off + 2, none⟩) xs := by
  by_cases h1 : c = 1
  · have : xs = [] := List.length_eq_zero_iff.1 (by omega)
    subst this
    exact Bag.empty _ _ _
  · rw [if_neg h1]; exact h
theorem cons_of_len {xs : List (List Int × Int)} {n : Nat} (h : xs.length = n) (h0 : 0 < n) : ∃ r m xs', xs = (r, m) :: xs' ∧ xs'.length = n - 1 := by
  cases xs with
  | nil => simp at h; omega
  | cons p xs' => exact ⟨p.1, p.2, xs', rfl, by simp at h; omega⟩

theorem ABag.one {w1 w6 : World} {lo N : Nat} {u v6 : Value} {es : List Ent} {r : List Int} {n : Int} {Ar : Option Addr} {cr : Nat} {o : Obj} (hO1 : ABag w1 lo u es) (hlo : lo ≤ w1.heap.size) (h3 : Ints w1 lo Ar r) (h4 : r.length ≤ 1099511627776) (hN : N = es.length + 1)
    (hown6 : w6.ownsRow lo 42 2 v6 N (entCells es ++ [.slice Ar r.length cr, .int .i64 n])) (hg6 : (w1.alloc o).grownBy w6 u.ownBlock) : ABag w6 lo v6 (es ++ [⟨r, n, Ar, cr, 0⟩]) ∧ Below lo w1 w6 := by
  have b8 := (Below.refl w1.heap.size w1).alloc (Nat.le_refl _) o
  refine ⟨(hO1.below b8 hlo).grow (fs := [⟨r, n, Ar, cr, 0⟩]) (by rw [World.size_alloc]; omega) hg6 (by rw [hN]; simp) (by rw [entCells_append]; rfl) hown6 (fun e he => by obtain rfl := List.mem_singleton.1 he; exact ⟨h3.below (b8.mono hlo), h4⟩), ?_⟩
  exact ((Below.refl lo w1).alloc hlo o).grown hg6 (by rw [World.size_alloc]; omega) (fun r e => (hO1.1.lt r e).1)

end Go.Proofs.Ytpadhcoboapodaa
