/- The texts of nodes and views: plain facts. No condition; nothing of the program is named. -/
import Derived.Test.YtcenfabjpgpofaaDoorNod3
import Derived.Test.YtcenfabjpgpofaaDoorCndY
namespace Go.Proofs.YtcenfabjpgpofaaDoor
open Go.RowKit

theorem join_catG (b : List UInt8) (ws : List (List UInt8)) : Lib.join ws b = cat b ws := by
  induction ws with
  | nil => rfl
  | cons w r ih =>
    cases r with
    | nil => simp [Lib.join, cat]
    | cons v q => rw [cat, ← ih]; simp [Lib.join]
theorem cat_leG (b : List UInt8) (n : Nat) : ∀ ws : List (List UInt8), (∀ w ∈ ws, w.length ≤ n) → (cat b ws).length ≤ ws.length * (n + b.length)
  | [], _ => by simp [cat]
  | [w], h => by have := h w (by simp); simp [cat]; omega
  | w :: v :: r, h => by
    have h1 := h w (by simp)
    have h2 := cat_leG b n (v :: r) (fun x hx => h x (by simp [hx]))
    rw [cat]
    simp only [List.length_append, List.length_cons] at h2 ⊢
    rw [Nat.add_mul] at h2 ⊢
    rw [Nat.add_mul]
    omega
theorem cat_app (b : List UInt8) : ∀ (l r : List (List UInt8)), l ≠ [] → r ≠ [] → cat b (l ++ r) = cat b l ++ b ++ cat b r
  | [], _, h, _ => absurd rfl h
  | [t], u :: q, _, _ => rfl
  | [t], [], _, h => absurd rfl h
  | t :: u :: l, r, _, hr => by
    have := cat_app b (u :: l) r (by simp) hr
    rw [List.cons_append, List.cons_append, cat, ← List.cons_append, this, cat]
    simp
def sumL : List UInt8 := [115, 117, 109]
def headL (d : Nd) : List (List UInt8) := if d.k = 1 then [bl d.n] else if d.k = 2 then [showCs d.c] else []
def tailL (d : Nd) : List (List UInt8) := if d.p = -1 then [] else [sumL, Lib.itoa d.p]
def partsL (d : Nd) : List (List UInt8) := bl (wnx d.k.toNat) :: (headL d ++ (d.z.map Lib.itoa ++ tailL d))
/-- What a right node shows as. -/
def nodeL (d : Nd) : List UInt8 := cat [32] (partsL d)
/-- What ShowView shows. -/
def showV (v : List Nd) : List UInt8 := if viewB v = true then cat [59, 32] (v.map nodeL) else []
theorem numbers_cat (zs : List Int) : numbersL zs = cat [32] (zs.map Lib.itoa) := by
  unfold numbersL catT numT
  rw [List.map_map]
  show cat [32] _ = _
  congr 1
theorem ix_place {z : List Int} (h : placesB z 6 = true) : ∀ x ∈ z, 0 ≤ x ∧ x ≤ 5 := fun x hx => by
  have := List.all_eq_true.1 h x hx
  unfold inB at this
  rw [Bool.and_eq_true, decide_eq_true_eq, decide_eq_true_eq] at this
  have e : (((6 : Nat) : Int) - 1) = 5 := rfl
  omega
theorem places_cell {z : List Int} (h : placesB z 6 = true) : z.all cellB = true := List.all_eq_true.2 fun x hx => by
  have := ix_place h x hx
  unfold cellB inB
  rw [Bool.and_eq_true, decide_eq_true_eq, decide_eq_true_eq]
  omega
/-- What is known of a right node. -/
structure RightN (d : Nd) (q : Nat) : Prop where
  kq : d.k = (q : Int)
  q1 : 1 ≤ q
  q7 : q ≤ 7
  name : q = 1 → d.n.size ≤ 6
  cond : q = 2 → rightB d.c = true
  bare : q ≤ 2 → d.z = [] ∧ d.p = -1
  len : d.z.length ≤ 6
  pl : placesB d.z 6 = true
  p0 : -1 ≤ d.p
  p5 : d.p ≤ 5
theorem right_of {d : Nd} (h : nodeB d = true) : ∃ q, RightN d q := by
  obtain ⟨hk, hn, hc, hp, hs⟩ := nodeB_all h
  obtain ⟨q, kq, q1, q7⟩ := kind_nat hk
  rw [placesD_eq kq q1 q7, Bool.and_eq_true, Bool.and_eq_true, decide_eq_true_eq, decide_eq_true_eq] at hp
  have hm : mostF q ≤ 6 := by unfold mostF; split; omega; split; omega; split <;> omega
  have hps : -1 ≤ d.p ∧ d.p ≤ 5 ∧ (q ≤ 2 → d.p = -1) := by
    unfold placeD at hs
    split at hs
    · unfold inB at hs
      rw [Bool.and_eq_true, decide_eq_true_eq, decide_eq_true_eq] at hs
      exact ⟨hs.1, hs.2, fun h => by omega⟩
    · have := of_decide_eq_true hs
      exact ⟨by omega, by omega, fun _ => this⟩
  refine ⟨q, kq, q1, q7, fun h1 => ?_, fun h2 => ?_, fun h2 => ⟨?_, hps.2.2 h2⟩, by omega, hp.2.2, hps.1, hps.2.1⟩
  · unfold nameD at hn
    rw [if_pos (by omega)] at hn
    unfold nameB inB at hn
    rw [Bool.and_eq_true, Bool.and_eq_true] at hn
    have := of_decide_eq_true hn.2.2
    omega
  · unfold condsD at hc
    rw [if_pos (by omega)] at hc
    exact hc
  · have : mostF q = 0 := by unfold mostF; rw [if_neg (by omega), if_neg (by omega), if_neg (by omega)]
    exact List.length_eq_zero_iff.1 (by omega)
theorem wnx_size {q : Nat} (h : q ≤ 7) : (wnx q).size ≤ 5 := by
  have : q = 0 ∨ q = 1 ∨ q = 2 ∨ q = 3 ∨ q = 4 ∨ q = 5 ∨ q = 6 ∨ q = 7 := by omega
  rcases this with rfl | rfl | rfl | rfl | rfl | rfl | rfl | rfl <;> decide
theorem itoa_short {x : Int} (h0 : -1 ≤ x) (h5 : x ≤ 5) : (Lib.itoa x).length ≤ 22 := by
  have := Lib.itoa_length_le x (by omega) (by omega)
  omega
theorem showCs_le {l : List Cnd} (h : rightB l = true) : (showCs l).length ≤ 141 := by
  have := showCs_len h
  unfold showCs
  rw [if_pos h]
  split
  · simp
  · exact this
theorem parts_le {d : Nd} {q : Nat} (h : RightN d q) : ∀ w ∈ partsL d, w.length ≤ 141 := fun w hw => by
  unfold partsL at hw
  rcases List.mem_cons.1 hw with rfl | hw
  · rw [h.kq, Int.toNat_natCast, bl_length]
    have := wnx_size h.q7
    omega
  rcases List.mem_append.1 hw with hw | hw
  · unfold headL at hw
    split at hw
    · rename_i h1
      obtain rfl : w = bl d.n := by simpa using hw
      rw [bl_length]
      have := h.name (by have := h.kq; omega)
      omega
    · split at hw
      · rename_i h2
        obtain rfl : w = showCs d.c := by simpa using hw
        exact showCs_le (h.cond (by have := h.kq; omega))
      · cases hw
  rcases List.mem_append.1 hw with hw | hw
  · obtain ⟨x, hx, rfl⟩ := List.mem_map.1 hw
    have := ix_place h.pl x hx
    have := itoa_short (x := x) (by omega) (by omega)
    omega
  · unfold tailL at hw
    split at hw
    · cases hw
    · have := itoa_short h.p0 h.p5
      have hw2 : w = sumL ∨ w = Lib.itoa d.p := by simpa using hw
      rcases hw2 with rfl | rfl
      · simp [sumL]
      · omega
theorem parts_len {d : Nd} {q : Nat} (h : RightN d q) : (partsL d).length ≤ 10 := by
  have h1 : (headL d).length ≤ 1 := by unfold headL; split; simp; split <;> simp
  have h2 : (tailL d).length ≤ 2 := by unfold tailL; split <;> simp
  have := h.len
  unfold partsL
  simp
  omega
theorem nodeL_len {d : Nd} {q : Nat} (h : RightN d q) : (nodeL d).length ≤ 1420 := by
  have h1 := cat_leG [32] 141 (partsL d) (parts_le h)
  have h2 := parts_len h
  have : (partsL d).length * (141 + [32].length) ≤ 10 * 142 := Nat.mul_le_mul h2 (Nat.le_refl _)
  unfold nodeL
  omega
theorem view_right {v : List Nd} (h : viewB v = true) {j : Nat} (hj : j < v.length) : nodeB (ndx v j) = true := by
  have := (viewB_all h).1 j hj
  unfold okNd at this
  rw [Bool.and_eq_true] at this
  exact this.1
theorem showV_len {v : List Nd} (h : viewB v = true) : (cat [59, 32] (v.map nodeL)).length ≤ 12798 := by
  have h9 := (viewB_all h).2.2
  have h1 := cat_leG [59, 32] 1420 (v.map nodeL) (fun w hw => by
    obtain ⟨d, hd, rfl⟩ := List.mem_map.1 hw
    obtain ⟨j, hj, rfl⟩ := List.mem_iff_getElem.1 hd
    rw [← ndx_eq v j hj]
    obtain ⟨q, hq⟩ := right_of (view_right h hj)
    exact nodeL_len hq)
  rw [List.length_map] at h1
  have : v.length * (1420 + [59, 32].length) ≤ 9 * 1422 := Nat.mul_le_mul h9 (Nat.le_refl _)
  omega
/-- The model's way of putting a node's text together. -/
theorem nodeL_name {d : Nd} {q : Nat} (h : RightN d q) (h1 : q = 1) : nodeL d = bl (wnx 1) ++ [32] ++ bl d.n := by
  subst h1
  obtain ⟨hz, hp⟩ := h.bare (by omega)
  have hk := h.kq
  unfold nodeL partsL headL tailL
  rw [hk, hz, hp, if_pos rfl, if_pos (show ((1 : Nat) : Int) = 1 from rfl)]; rfl
theorem nodeL_cond {d : Nd} {q : Nat} (h : RightN d q) (h2 : q = 2) : nodeL d = bl (wnx 2) ++ [32] ++ showCs d.c := by
  subst h2
  obtain ⟨hz, hp⟩ := h.bare (by omega)
  have hk := h.kq
  unfold nodeL partsL headL tailL
  rw [hk, hz, hp, if_pos rfl, if_neg (by decide), if_pos (show ((2 : Nat) : Int) = 2 from rfl)]; rfl
theorem nodeL_more {d : Nd} {q : Nat} (h : RightN d q) (h3 : 3 ≤ q) : nodeL d = (bl (wnx q) ++ (if d.z = [] then [] else [32] ++ numbersL d.z)) ++ (if d.p = -1 then [] else [32, 115, 117, 109, 32] ++ Lib.itoa d.p) := by
  have hk := h.kq
  unfold nodeL partsL headL tailL
  rw [if_neg (show ¬ d.k = 1 by omega), if_neg (show ¬ d.k = 2 by omega), hk, Int.toNat_natCast, List.nil_append]
  by_cases hz : d.z = []
  · rw [if_pos hz, hz]
    by_cases hp : d.p = -1
    · rw [if_pos hp, if_pos hp]; simp [cat]
    · rw [if_neg hp, if_neg hp]; simp [cat, sumL]
  · rw [if_neg hz, numbers_cat]
    have hm : d.z.map Lib.itoa ≠ [] := by simpa using hz
    by_cases hp : d.p = -1
    · rw [if_pos hp, if_pos hp, List.append_nil, List.append_nil]
      have := cat_app [32] [bl (wnx q)] (d.z.map Lib.itoa) (by simp) hm
      simpa [cat] using this
    · rw [if_neg hp, if_neg hp]
      have h1 := cat_app [32] [bl (wnx q)] (d.z.map Lib.itoa ++ [sumL, Lib.itoa d.p]) (by simp) (by simp)
      have h2 := cat_app [32] (d.z.map Lib.itoa) [sumL, Lib.itoa d.p] hm (by simp)
      rw [h2] at h1
      simpa [cat, sumL] using h1
end Go.Proofs.YtcenfabjpgpofaaDoor
