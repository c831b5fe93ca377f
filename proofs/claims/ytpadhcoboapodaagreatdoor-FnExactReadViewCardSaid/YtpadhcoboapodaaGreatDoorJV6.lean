/- Texts joined: NodT, NodR, NodU, NodG: contracts and plain facts; each says its own below. -/
import Derived.Test.YtpadhcoboapodaaGreatDoorJV5
import Derived.Test.YtpadhcoboapodaaGreatDoorJV3
import Derived.ScopeJumps
import Derived.WalkMore
/- The texts of nodes and views: plain facts. No condition; nothing of the program is named. -/
namespace Go.Proofs.YtpadhcoboapodaaGreatDoor
open Go.RowKit

theorem join_catG (b : List UInt8) (ws : List (List UInt8)) : Lib.join ws b = cat b ws := by
  induction ws with
  | nil => rfl
  | cons w r ih =>
    cases r with
    | nil => simp [Lib.join, cat]
    | cons v q => rw [cat, ← ih]; simp [Lib.join]
theorem cat_leG (b : List UInt8) (n : Nat) : ∀ ws : List (List UInt8), (∀ w ∈ ws, w.length ≤ n) → (cat b ws).length ≤ ws.length * (n + b.length)
  | [], _ => by simp [cat]
  | [w], h => by have := h w (by simp); simp [cat]; omega
  | w :: v :: r, h => by
    have h1 := h w (by simp)
    have h2 := cat_leG b n (v :: r) (fun x hx => h x (by simp [hx]))
    rw [cat]
    simp only [List.length_append, List.length_cons] at h2 ⊢
    rw [Nat.add_mul] at h2 ⊢
    rw [Nat.add_mul]
    omega
theorem cat_app (b : List UInt8) : ∀ (l r : List (List UInt8)), l ≠ [] → r ≠ [] → cat b (l ++ r) = cat b l ++ b ++ cat b r
  | [], _, h, _ => absurd rfl h
  | [t], u :: q, _, _ => rfl
  | [t], [], _, h => absurd rfl h
  | t :: u :: l, r, _, hr => by
    have := cat_app b (u :: l) r (by simp) hr
    rw [List.cons_append, List.cons_append, cat, ← List.cons_append, this, cat]
    simp
def sumL : List UInt8 := [115, 117, 109]
def headL (d : Nd) : List (List UInt8) := if d.k = 1 then [bl d.n] else if d.k = 2 then [showCs d.c] else []
def tailL (d : Nd) : List (List UInt8) := if d.p = -1 then [] else [sumL, Lib.itoa d.p]
def partsL (d : Nd) : List (List UInt8) := bl (wnx d.k.toNat) :: (headL d ++ (d.z.map Lib.itoa ++ tailL d))
/-- What a right node shows as. -/
def nodeL (d : Nd) : List UInt8 := cat [32] (partsL d)
/-- What ShowView shows. -/
def showV (v : List Nd) : List UInt8 := if viewB v = true then cat [59, 32] (v.map nodeL) else []
theorem numbers_cat (zs : List Int) : numbersL zs = cat [32] (zs.map Lib.itoa) := by
  unfold numbersL catT numT
  rw [List.map_map]
  show cat [32] _ = _
  congr 1
theorem ix_place {z : List Int} (h : placesB z 6 = true) : ∀ x ∈ z, 0 ≤ x ∧ x ≤ 5 := fun x hx => by
  have := List.all_eq_true.1 h x hx
  unfold inB at this
  rw [Bool.and_eq_true, decide_eq_true_eq, decide_eq_true_eq] at this
  have e : (((6 : Nat) : Int) - 1) = 5 := rfl
  omega
theorem places_cell {z : List Int} (h : placesB z 6 = true) : z.all cellB = true := List.all_eq_true.2 fun x hx => by
  have := ix_place h x hx
  unfold cellB inB
  rw [Bool.and_eq_true, decide_eq_true_eq, decide_eq_true_eq]
  omega
/-- What is known of a right node. -/
structure RightN (d : Nd) (q : Nat) : Prop where
  kq : d.k = (q : Int)
  q1 : 1 ≤ q
  q7 : q ≤ 7
  name : q = 1 → d.n.size ≤ 6
  cond : q = 2 → rightB d.c = true
  bare : q ≤ 2 → d.z = [] ∧ d.p = -1
  len : d.z.length ≤ 6
  pl : placesB d.z 6 = true
  p0 : -1 ≤ d.p
  p5 : d.p ≤ 5
theorem right_of {d : Nd} (h : nodeB d = true) : ∃ q, RightN d q := by
  obtain ⟨hk, hn, hc, hp, hs⟩ := nodeB_all h
  obtain ⟨q, kq, q1, q7⟩ := kind_nat hk
  rw [placesD_eq kq q1 q7, Bool.and_eq_true, Bool.and_eq_true, decide_eq_true_eq, decide_eq_true_eq] at hp
  have hm : mostF q ≤ 6 := by unfold mostF; split; omega; split; omega; split <;> omega
  have hps : -1 ≤ d.p ∧ d.p ≤ 5 ∧ (q ≤ 2 → d.p = -1) := by
    unfold placeD at hs
    split at hs
    · unfold inB at hs
      rw [Bool.and_eq_true, decide_eq_true_eq, decide_eq_true_eq] at hs
      exact ⟨hs.1, hs.2, fun h => by omega⟩
    · have := of_decide_eq_true hs
      exact ⟨by omega, by omega, fun _ => this⟩
  refine ⟨q, kq, q1, q7, fun h1 => ?_, fun h2 => ?_, fun h2 => ⟨?_, hps.2.2 h2⟩, by omega, hp.2.2, hps.1, hps.2.1⟩
  · unfold nameD at hn
    rw [if_pos (by omega)] at hn
    unfold nameB inB at hn
    rw [Bool.and_eq_true, Bool.and_eq_true] at hn
    have := of_decide_eq_true hn.2.2
    omega
  · unfold condsD at hc
    rw [if_pos (by omega)] at hc
    exact hc
  · have : mostF q = 0 := by unfold mostF; rw [if_neg (by omega), if_neg (by omega), if_neg (by omega)]
    exact List.length_eq_zero_iff.1 (by omega)
theorem wnx_size {q : Nat} (h : q ≤ 7) : (wnx q).size ≤ 5 := by
  have : q = 0 ∨ q = 1 ∨ q = 2 ∨ q = 3 ∨ q = 4 ∨ q = 5 ∨ q = 6 ∨ q = 7 := by omega
  rcases this with rfl | rfl | rfl | rfl | rfl | rfl | rfl | rfl <;> decide
theorem itoa_short {x : Int} (h0 : -1 ≤ x) (h5 : x ≤ 5) : (Lib.itoa x).length ≤ 22 := by
  have := Lib.itoa_length_le x (by omega) (by omega)
  omega
theorem showCs_le {l : List Cnd} (h : rightB l = true) : (showCs l).length ≤ 141 := by
  have := showCs_len h
  unfold showCs
  rw [if_pos h]
  split
  · simp
  · exact this
theorem parts_le {d : Nd} {q : Nat} (h : RightN d q) : ∀ w ∈ partsL d, w.length ≤ 141 := fun w hw => by
  unfold partsL at hw
  rcases List.mem_cons.1 hw with rfl | hw
  · rw [h.kq, Int.toNat_natCast, bl_length]
    have := wnx_size h.q7
    omega
  rcases List.mem_append.1 hw with hw | hw
  · unfold headL at hw
    split at hw
    · rename_i h1
      obtain rfl : w = bl d.n := by simpa using hw
      rw [bl_length]
      have := h.name (by have := h.kq; omega)
      omega
    · split at hw
      · rename_i h2
        obtain rfl : w = showCs d.c := by simpa using hw
        exact showCs_le (h.cond (by have := h.kq; omega))
      · cases hw
  rcases List.mem_append.1 hw with hw | hw
  · obtain ⟨x, hx, rfl⟩ := List.mem_map.1 hw
    have := ix_place h.pl x hx
    have := itoa_short (x := x) (by omega) (by omega)
    omega
  · unfold tailL at hw
    split at hw
    · cases hw
    · have := itoa_short h.p0 h.p5
      have hw2 : w = sumL ∨ w = Lib.itoa d.p := by simpa using hw
      rcases hw2 with rfl | rfl
      · simp [sumL]
      · omega
theorem parts_len {d : Nd} {q : Nat} (h : RightN d q) : (partsL d).length ≤ 10 := by
  have h1 : (headL d).length ≤ 1 := by unfold headL; split; simp; split <;> simp
  have h2 : (tailL d).length ≤ 2 := by unfold tailL; split <;> simp
  have := h.len
  unfold partsL
  simp
  omega
theorem nodeL_len {d : Nd} {q : Nat} (h : RightN d q) : (nodeL d).length ≤ 1420 := by
  have h1 := cat_leG [32] 141 (partsL d) (parts_le h)
  have h2 := parts_len h
  have : (partsL d).length * (141 + [32].length) ≤ 10 * 142 := Nat.mul_le_mul h2 (Nat.le_refl _)
  unfold nodeL
  omega
theorem view_right {v : List Nd} (h : viewB v = true) {j : Nat} (hj : j < v.length) : nodeB (ndx v j) = true := by
  have := (viewB_all h).1 j hj
  unfold okNd at this
  rw [Bool.and_eq_true] at this
  exact this.1
theorem showV_len {v : List Nd} (h : viewB v = true) : (cat [59, 32] (v.map nodeL)).length ≤ 12798 := by
  have h9 := (viewB_all h).2.2
  have h1 := cat_leG [59, 32] 1420 (v.map nodeL) (fun w hw => by
    obtain ⟨d, hd, rfl⟩ := List.mem_map.1 hw
    obtain ⟨j, hj, rfl⟩ := List.mem_iff_getElem.1 hd
    rw [← ndx_eq v j hj]
    obtain ⟨q, hq⟩ := right_of (view_right h hj)
    exact nodeL_len hq)
  rw [List.length_map] at h1
  have : v.length * (1420 + [59, 32].length) ≤ 9 * 1422 := Nat.mul_le_mul h9 (Nat.le_refl _)
  omega
/-- The model's way of putting a node's text together. -/
theorem nodeL_name {d : Nd} {q : Nat} (h : RightN d q) (h1 : q = 1) : nodeL d = bl (wnx 1) ++ [32] ++ bl d.n := by
  subst h1
  obtain ⟨hz, hp⟩ := h.bare (by omega)
  have hk := h.kq
  unfold nodeL partsL headL tailL
  rw [hk, hz, hp, if_pos rfl, if_pos (show ((1 : Nat) : Int) = 1 from rfl)]; rfl
theorem nodeL_cond {d : Nd} {q : Nat} (h : RightN d q) (h2 : q = 2) : nodeL d = bl (wnx 2) ++ [32] ++ showCs d.c := by
  subst h2
  obtain ⟨hz, hp⟩ := h.bare (by omega)
  have hk := h.kq
  unfold nodeL partsL headL tailL
  rw [hk, hz, hp, if_pos rfl, if_neg (by decide), if_pos (show ((2 : Nat) : Int) = 2 from rfl)]; rfl
theorem nodeL_more {d : Nd} {q : Nat} (h : RightN d q) (h3 : 3 ≤ q) : nodeL d = (bl (wnx q) ++ (if d.z = [] then [] else [32] ++ numbersL d.z)) ++ (if d.p = -1 then [] else [32, 115, 117, 109, 32] ++ Lib.itoa d.p) := by
  have hk := h.kq
  unfold nodeL partsL headL tailL
  rw [if_neg (show ¬ d.k = 1 by omega), if_neg (show ¬ d.k = 2 by omega), hk, Int.toNat_natCast, List.nil_append]
  by_cases hz : d.z = []
  · rw [if_pos hz, hz]
    by_cases hp : d.p = -1
    · rw [if_pos hp, if_pos hp]; simp [cat]
    · rw [if_neg hp, if_neg hp]; simp [cat, sumL]
  · rw [if_neg hz, numbers_cat]
    have hm : d.z.map Lib.itoa ≠ [] := by simpa using hz
    by_cases hp : d.p = -1
    · rw [if_pos hp, if_pos hp, List.append_nil, List.append_nil]
      have := cat_app [32] [bl (wnx q)] (d.z.map Lib.itoa) (by simp) hm
      simpa [cat] using this
    · rw [if_neg hp, if_neg hp]
      have h1 := cat_app [32] [bl (wnx q)] (d.z.map Lib.itoa ++ [sumL, Lib.itoa d.p]) (by simp) (by simp)
      have h2 := cat_app [32] (d.z.map Lib.itoa) [sumL, Lib.itoa d.p] hm (by simp)
      rw [h2] at h1
      simpa [cat, sumL] using h1
end Go.Proofs.YtpadhcoboapodaaGreatDoor

/- Nodes and views read from texts: what the model reads, what the program reads, that they are one: plain facts. No condition; nothing of the program is named. -/
namespace Go.Proofs.YtpadhcoboapodaaGreatDoor
open Go.RowKit

/-- The kind that a word names; 0: none. -/
def kindW (w : List UInt8) : Nat := if w = bl (wnx 1) then 1 else if w = bl (wnx 2) then 2 else if w = bl (wnx 3) then 3 else if w = bl (wnx 4) then 4 else if w = bl (wnx 5) then 5 else if w = bl (wnx 6) then 6 else if w = bl (wnx 7) then 7 else 0
theorem kindW_wnx {q : Nat} (h1 : 1 ≤ q) (h7 : q ≤ 7) : kindW (bl (wnx q)) = q := by
  have : q = 1 ∨ q = 2 ∨ q = 3 ∨ q = 4 ∨ q = 5 ∨ q = 6 ∨ q = 7 := by omega
  rcases this with rfl | rfl | rfl | rfl | rfl | rfl | rfl <;> decide
theorem wnx_kindW {w : List UInt8} (h : 1 ≤ kindW w) : bl (wnx (kindW w)) = w := by
  unfold kindW at h ⊢
  split; · rename_i e; exact e.symm
  rename_i h1; rw [if_neg h1] at h
  split; · rename_i e; exact e.symm
  rename_i h2; rw [if_neg h2] at h
  split; · rename_i e; exact e.symm
  rename_i h3; rw [if_neg h3] at h
  split; · rename_i e; exact e.symm
  rename_i h4; rw [if_neg h4] at h
  split; · rename_i e; exact e.symm
  rename_i h5; rw [if_neg h5] at h
  split; · rename_i e; exact e.symm
  rename_i h6; rw [if_neg h6] at h
  split; · rename_i e; exact e.symm
  rename_i h7; rw [if_neg h7] at h
  exact absurd h (by decide)
theorem wnx_bytes {q : Nat} (h7 : q ≤ 7) (h1 : 1 ≤ q) : (32 : UInt8) ∉ bl (wnx q) ∧ (59 : UInt8) ∉ bl (wnx q) ∧ bl (wnx q) ≠ [] := by
  have : q = 1 ∨ q = 2 ∨ q = 3 ∨ q = 4 ∨ q = 5 ∨ q = 6 ∨ q = 7 := by omega
  rcases this with rfl | rfl | rfl | rfl | rfl | rfl | rfl <;> decide
def finN (d : Nd) : Option Nd := if nodeB d = true then some d else none
theorem finN_is {d e : Nd} (h : finN d = some e) : d = e ∧ nodeB e = true := by
  unfold finN at h
  split at h
  · injection h with h; subst h; exact ⟨rfl, by assumption⟩
  · cases h
/-- Where the words end in sum and one word more: what stands ahead, and that word. -/
def sumCut (ws : List (List UInt8)) : List (List UInt8) × Option (List UInt8) :=
  if 2 ≤ ws.length ∧ ws[ws.length - 2]? = some sumL then (ws.take (ws.length - 2), ws[ws.length - 1]?) else (ws, none)
theorem sumCut_none {ws a : List (List UInt8)} (h : sumCut ws = (a, none)) : a = ws := by
  unfold sumCut at h
  split at h
  · rename_i h2
    injection h with _ h
    rw [List.getElem?_eq_getElem (by omega)] at h
    cases h
  · injection h with h; exact h.symm
theorem sumCut_some {ws a : List (List UInt8)} {t : List UInt8} (h : sumCut ws = (a, some t)) : ws = a ++ [sumL, t] := by
  unfold sumCut at h
  split at h
  · rename_i h2
    injection h with h1 h3
    obtain ⟨n, hn⟩ : ∃ n, ws.length = n + 2 := ⟨ws.length - 2, by omega⟩
    rw [show ws.length - 2 = n by omega] at h1 h2
    rw [show ws.length - 1 = n + 1 by omega] at h3
    subst h1
    apply List.ext_getElem?
    intro i
    by_cases hi : i < n
    · rw [List.getElem?_append_left (by simp; omega), List.getElem?_take, if_pos hi]
    · rw [List.getElem?_append_right (by simp; omega)]
      have hl : (ws.take n).length = n := by simp; omega
      rw [hl]
      by_cases e0 : i = n
      · subst e0; rw [h2.2]; simp
      · by_cases e1 : i = n + 1
        · subst e1; rw [h3]; simp
        · rw [List.getElem?_eq_none (by omega), List.getElem?_eq_none (by simp; omega)]
  · injection h with _ h; cases h
theorem sumCut_two (a : List (List UInt8)) (t : List UInt8) : sumCut (a ++ [sumL, t]) = (a, some t) := by
  unfold sumCut
  have hl : (a ++ [sumL, t]).length = a.length + 2 := by simp
  rw [hl, show a.length + 2 - 2 = a.length by omega, show a.length + 2 - 1 = a.length + 1 by omega, if_pos ⟨by omega, by simp⟩]
  simp
theorem sumCut_no {ws : List (List UInt8)} (h : sumL ∉ ws) : sumCut ws = (ws, none) := by
  unfold sumCut
  rw [if_neg]
  rintro ⟨_, h2⟩
  exact h (List.mem_of_getElem? h2)
/-- A node of places, read by the model. -/
def readT (k : Nat) (ws : List (List UInt8)) : Option Nd :=
  match sumCut ws with
  | (a, none) => match a.mapM (readNum 9) with | some zs => finN ⟨k, ⟨#[]⟩, [], zs, -1⟩ | none => none
  | (a, some t) => match readNum 9 t, a.mapM (readNum 9) with | some p, some zs => if 0 ≤ p then finN ⟨k, ⟨#[]⟩, [], zs, p⟩ else none | _, _ => none
/-- What the model reads of a node's text. -/
def specReadN (s : List UInt8) : Option Nd :=
  match spl 32 s with
  | [] => none
  | w :: ws =>
    if kindW w = 1 then (match ws with | [n] => finN ⟨1, mkB n, [], [], -1⟩ | _ => none)
    else if kindW w = 2 then (match ws with | [t] => (if (specReadCs t).2 = true then finN ⟨2, ⟨#[]⟩, (specReadCs t).1, [], -1⟩ else none) | _ => none)
    else readT (kindW w) ws
theorem words_of9 {ws : List (List UInt8)} {r : List Int} (h : ws.mapM (readNum 9) = some r) : ws = r.map Lib.itoa := by
  obtain ⟨hl, hi⟩ := mapM_some h
  apply List.ext_getElem?
  intro i
  rw [List.getElem?_map]
  by_cases hlt : i < ws.length
  · have h1 : ws[i]? = some ws[i] := List.getElem?_eq_getElem hlt
    have h2 : r[i]? = some (r[i]'(by omega)) := List.getElem?_eq_getElem (by omega)
    rw [h1, h2]
    simp only [Option.map_some]
    rw [← readNum_itoa (hi i _ _ h1 h2)]
  · rw [List.getElem?_eq_none (by omega), List.getElem?_eq_none (by omega)]; rfl
theorem nodeB_kind {d : Nd} (h : nodeB d = true) : 1 ≤ d.k ∧ d.k ≤ 7 := by
  obtain ⟨q, hq⟩ := right_of h
  have := hq.kq
  have := hq.q1
  have := hq.q7
  omega
theorem readT_show {k : Nat} {ws : List (List UInt8)} {d : Nd} (h : readT k ws = some d) (h3 : k ≠ 1 ∧ k ≠ 2) : nodeB d = true ∧ d.k = (k : Int) ∧ headL d = [] ∧ d.z.map Lib.itoa ++ tailL d = ws := by
  unfold readT at h
  have hh : ∀ (zs : List Int) (p : Int), headL ⟨k, ⟨#[]⟩, [], zs, p⟩ = [] := fun zs p => by
    unfold headL
    rw [if_neg (show ¬ ((k : Int) = 1) by omega), if_neg (show ¬ ((k : Int) = 2) by omega)]
  split at h
  · rename_i a ha
    split at h
    · rename_i zs hz
      obtain ⟨rfl, hb⟩ := finN_is h
      refine ⟨hb, rfl, hh _ _, ?_⟩
      rw [← sumCut_none ha, words_of9 hz]
      simp [tailL]
    · cases h
  · rename_i a t ha
    split at h
    · rename_i p zs hp hz
      split at h
      · rename_i h0
        obtain ⟨rfl, hb⟩ := finN_is h
        refine ⟨hb, rfl, hh _ _, ?_⟩
        rw [sumCut_some ha, words_of9 hz, readNum_itoa hp]
        unfold tailL
        rw [if_neg (show ¬ (p = -1) by omega)]
      · cases h
    · cases h
/-- What is read as a node shows so. -/
theorem show_readN {s : List UInt8} {d : Nd} (h : specReadN s = some d) : nodeB d = true ∧ nodeL d = s := by
  unfold specReadN at h
  split at h
  · cases h
  · rename_i w ws hw
    have hs : s = cat [32] (w :: ws) := by rw [← hw, cat_spl]
    suffices hp : nodeB d = true ∧ partsL d = w :: ws by
      refine ⟨hp.1, ?_⟩
      unfold nodeL
      rw [hp.2, hs]
    by_cases h1 : kindW w = 1
    · rw [if_pos h1] at h
      split at h
      · rename_i n
        obtain ⟨rfl, hb⟩ := finN_is h
        refine ⟨hb, ?_⟩
        have hk := wnx_kindW (w := w) (by omega)
        rw [h1] at hk
        unfold partsL headL tailL
        rw [if_pos rfl, if_pos rfl, bl_mkB]
        show bl (wnx 1) :: _ = _
        rw [hk]; rfl
      · cases h
    · rw [if_neg h1] at h
      by_cases h2 : kindW w = 2
      · rw [if_pos h2] at h
        split at h
        · rename_i t
          split at h
          · rename_i hok
            obtain ⟨rfl, hb⟩ := finN_is h
            obtain ⟨hr, hsh⟩ := readCs_right (s := t) (l := (specReadCs t).1) (by rw [← hok])
            refine ⟨hb, ?_⟩
            have hk := wnx_kindW (w := w) (by omega)
            rw [h2] at hk
            unfold partsL headL tailL
            rw [if_neg (show ¬ ((2 : Int) = 1) by decide), if_pos rfl, if_pos rfl]
            show bl (wnx 2) :: _ = _
            rw [hk, hsh]; rfl
          · cases h
        · cases h
      · rw [if_neg h2] at h
        obtain ⟨hb, hk, hh, hz⟩ := readT_show h ⟨h1, h2⟩
        refine ⟨hb, ?_⟩
        have h1k := (nodeB_kind hb).1
        have hk2 := wnx_kindW (w := w) (by omega)
        unfold partsL
        rw [hh, List.nil_append, hz, hk, Int.toNat_natCast, hk2]
/-! ### what is shown is read -/
theorem showCs_bytes {l : List Cnd} : (32 : UInt8) ∉ showCs l ∧ (59 : UInt8) ∉ showCs l := by
  have key : ∀ x : UInt8, x ∈ showCs l → x = 45 ∨ x = 44 ∨ x = 36 ∨ (x = 60 ∨ x = 61 ∨ x = 62) ∨ isDig x = true := by
    intro x hx
    unfold showCs at hx
    split at hx
    · split at hx
      · exact .inl (by simpa using hx)
      · have hc : ∀ ws : List (List UInt8), (∀ w ∈ ws, ∀ y ∈ w, y = 45 ∨ y = 44 ∨ y = 36 ∨ (y = 60 ∨ y = 61 ∨ y = 62) ∨ isDig y = true) → ∀ y ∈ cat [44] ws, y = 45 ∨ y = 44 ∨ y = 36 ∨ (y = 60 ∨ y = 61 ∨ y = 62) ∨ isDig y = true := by
          intro ws
          induction ws with
          | nil => intro _ y hy; simp [cat] at hy
          | cons a r ih =>
            intro h y hy
            cases r with
            | nil => exact h a (by simp) y (by simpa [cat] using hy)
            | cons b q =>
              rw [cat] at hy
              rcases List.mem_append.1 hy with hy | hy
              · rcases List.mem_append.1 hy with hy | hy
                · exact h a (by simp) y hy
                · exact .inr (.inl (by simpa using hy))
              · exact ih (fun w hw => h w (List.mem_cons_of_mem _ hw)) y hy
        refine hc _ (fun w hw y hy => ?_) x hx
        obtain ⟨c, _, rfl⟩ := List.mem_map.1 hw
        rcases showC_in c y hy with e | e | e | e
        · exact .inr (.inr (.inl e))
        · rcases opL_is c.o with e2 | e2 | e2
          · exact .inr (.inr (.inr (.inl (.inl (e.trans e2)))))
          · exact .inr (.inr (.inr (.inl (.inr (.inl (e.trans e2))))))
          · exact .inr (.inr (.inr (.inl (.inr (.inr (e.trans e2))))))
        · exact .inl e
        · exact .inr (.inr (.inr (.inr e)))
    · cases hx
  constructor
  · intro h; have := key 32 h; revert this; decide
  · intro h; have := key 59 h; revert this; decide
theorem name_bytes {s : ByteArray} (h : nameB s = true) : (32 : UInt8) ∉ bl s ∧ (59 : UInt8) ∉ bl s ∧ bl s ≠ [] := by
  obtain ⟨h1, h2⟩ := name_no32 h
  refine ⟨h1, fun hx => ?_, h2⟩
  unfold nameB at h
  rw [Bool.and_eq_true] at h
  have := List.all_eq_true.1 h.1 59 hx
  revert this; decide
theorem itoa_bytes (n : Int) : (32 : UInt8) ∉ Lib.itoa n ∧ (59 : UInt8) ∉ Lib.itoa n ∧ Lib.itoa n ≠ [] := by
  refine ⟨itoa_not n (by decide) (by decide), itoa_not n (by decide) (by decide), ?_⟩
  obtain ⟨d, r, h, _⟩ := itoa_cons n
  rw [h]; simp
theorem itoa_ne_sum (n : Int) : Lib.itoa n ≠ sumL := fun e => by
  have : (115 : UInt8) ∈ Lib.itoa n := by rw [e]; simp [sumL]
  exact itoa_not n (c := 115) (by decide) (by decide) this
theorem showCs_ne {l : List Cnd} (h : rightB l = true) : showCs l ≠ [] := fun e => by
  rw [showCs_empty e] at h; cases h
/-- The words of a right node. -/
theorem parts_bytes {d : Nd} (h : nodeB d = true) : ∀ w ∈ partsL d, (32 : UInt8) ∉ w ∧ (59 : UInt8) ∉ w ∧ w ≠ [] := by
  obtain ⟨q, hq⟩ := right_of h
  obtain ⟨_, hn, _⟩ := nodeB_all h
  intro w hw
  unfold partsL at hw
  rcases List.mem_cons.1 hw with rfl | hw
  · rw [hq.kq, Int.toNat_natCast]; exact wnx_bytes hq.q7 hq.q1
  rcases List.mem_append.1 hw with hw | hw
  · unfold headL at hw
    split at hw
    · rename_i h1
      obtain rfl : w = bl d.n := by simpa using hw
      unfold nameD at hn
      rw [if_pos h1] at hn
      exact name_bytes hn
    · split at hw
      · rename_i h2
        obtain rfl : w = showCs d.c := by simpa using hw
        exact ⟨showCs_bytes.1, showCs_bytes.2, showCs_ne (hq.cond (by have := hq.kq; omega))⟩
      · cases hw
  rcases List.mem_append.1 hw with hw | hw
  · obtain ⟨x, _, rfl⟩ := List.mem_map.1 hw
    exact itoa_bytes x
  · unfold tailL at hw
    split at hw
    · cases hw
    · have hw2 : w = sumL ∨ w = Lib.itoa d.p := by simpa using hw
      rcases hw2 with rfl | rfl
      · decide
      · exact itoa_bytes _
theorem node_words {d : Nd} (h : nodeB d = true) : spl 32 (nodeL d) = partsL d :=
  spl_cat 32 _ (by unfold partsL; simp) fun w hw => (parts_bytes h w hw).1
theorem nums9 {z : List Int} (h : ∀ x ∈ z, 0 ≤ x ∧ x ≤ 5) : (z.map Lib.itoa).mapM (readNum 9) = some z := by
  have := mapM_map (readNum 9) Lib.itoa (fun x : Int => x) z (fun a ha => readNum_small (by have := h a ha; omega) (by have := h a ha; omega))
  simpa using this
/-- A right node without name and conds, told by kind, places and sum. -/
theorem node_eta {d : Nd} {q : Nat} (hq : RightN d q) (h : nodeB d = true) (h1 : q ≠ 1) (h2 : q ≠ 2) : (⟨(q : Int), ⟨#[]⟩, [], d.z, d.p⟩ : Nd) = d := by
  obtain ⟨_, hn, hc, _⟩ := nodeB_all h
  have hk := hq.kq
  unfold nameD at hn
  rw [if_neg (by omega)] at hn
  unfold condsD at hc
  rw [if_neg (by omega)] at hc
  have e1 : d.n = ⟨#[]⟩ := ByteArray.ext (Array.eq_empty_of_size_eq_zero (of_decide_eq_true hn))
  have e2 : d.c = [] := List.length_eq_zero_iff.1 (of_decide_eq_true hc)
  cases d
  simp_all
theorem name_eta {d : Nd} (hq : RightN d 1) (h : nodeB d = true) : (⟨1, d.n, [], [], -1⟩ : Nd) = d := by
  obtain ⟨_, _, hc, _⟩ := nodeB_all h
  have hk := hq.kq
  obtain ⟨hz, hp⟩ := hq.bare (by omega)
  unfold condsD at hc
  rw [if_neg (by omega)] at hc
  have e2 : d.c = [] := List.length_eq_zero_iff.1 (of_decide_eq_true hc)
  cases d
  simp_all
theorem cond_eta {d : Nd} (hq : RightN d 2) (h : nodeB d = true) : (⟨2, ⟨#[]⟩, d.c, [], -1⟩ : Nd) = d := by
  obtain ⟨_, hn, _⟩ := nodeB_all h
  have hk := hq.kq
  obtain ⟨hz, hp⟩ := hq.bare (by omega)
  unfold nameD at hn
  rw [if_neg (by omega)] at hn
  have e1 : d.n = ⟨#[]⟩ := ByteArray.ext (Array.eq_empty_of_size_eq_zero (of_decide_eq_true hn))
  cases d
  simp_all
theorem finN_of {d : Nd} (h : nodeB d = true) : finN d = some d := by unfold finN; rw [if_pos h]
theorem readN_show {d : Nd} (h : nodeB d = true) : specReadN (nodeL d) = some d := by
  obtain ⟨q, hq⟩ := right_of h
  have hk := hq.kq
  have hpl := ix_place hq.pl
  unfold specReadN
  rw [node_words h]
  unfold partsL
  rw [hk, Int.toNat_natCast]
  simp only
  rw [kindW_wnx hq.q1 hq.q7]
  by_cases h1 : q = 1
  · subst h1
    obtain ⟨hz, hp⟩ := hq.bare (by omega)
    rw [if_pos rfl, hz]
    unfold headL tailL
    rw [if_pos (by rw [hk]; rfl), hp, if_pos rfl]
    show finN ⟨1, mkB (bl d.n), [], [], -1⟩ = some d
    rw [mkB_bl, name_eta hq h, finN_of h]
  · rw [if_neg h1]
    by_cases h2 : q = 2
    · subst h2
      obtain ⟨hz, hp⟩ := hq.bare (by omega)
      rw [if_pos rfl, hz]
      unfold headL tailL
      rw [if_neg (by rw [hk]; decide), if_pos (by rw [hk]; rfl), hp, if_pos rfl]
      show (if (specReadCs (showCs d.c)).2 = true then finN ⟨2, ⟨#[]⟩, (specReadCs (showCs d.c)).1, [], -1⟩ else none) = some d
      rw [readCs_show (hq.cond rfl), if_pos rfl, cond_eta hq h, finN_of h]
    · rw [if_neg h2]
      unfold headL
      rw [if_neg (by omega), if_neg (by omega), List.nil_append]
      have hm : sumL ∉ d.z.map Lib.itoa := fun hx => by
        obtain ⟨x, _, e⟩ := List.mem_map.1 hx
        exact itoa_ne_sum x e
      unfold readT tailL
      by_cases hp : d.p = -1
      · rw [if_pos hp, List.append_nil, sumCut_no hm]
        simp only
        rw [nums9 hpl]
        simp only
        have := node_eta hq h h1 h2
        rw [hp] at this
        rw [this, finN_of h]
      · rw [if_neg hp, sumCut_two]
        have h0 := hq.p0
        have h5 := hq.p5
        simp only
        rw [readNum_small (by omega) (by omega), nums9 hpl]
        simp only
        rw [if_pos (by omega), node_eta hq h h1 h2, finN_of h]
end Go.Proofs.YtpadhcoboapodaaGreatDoor

/- Views read from texts: the model's way and the program's way are one: plain facts. No condition; nothing of the program is named. -/
namespace Go.Proofs.YtpadhcoboapodaaGreatDoor
open Go.RowKit

/-! ### a text parted at semicolon and blank -/
def stripB (t : List UInt8) : Option (List UInt8) := match t with | b :: r => if b = 32 then some r else none | [] => none
theorem stripB_is {t r : List UInt8} (h : stripB t = some r) : t = 32 :: r := by
  cases t with
  | nil => cases h
  | cons b q =>
    unfold stripB at h
    simp only at h
    split at h
    · rename_i e; injection h with h; rw [e, h]
    · cases h
def partsV (s : List UInt8) : Option (List (List UInt8)) := match spl 59 s with | a :: r => (r.mapM stripB).map (a :: ·) | [] => none
theorem cat_two (a : List UInt8) : ∀ r : List (List UInt8), cat [59, 32] (a :: r) = cat [59] (a :: r.map (32 :: ·)) := by
  intro r
  induction r generalizing a with
  | nil => rfl
  | cons b q ih =>
    rw [List.map_cons, cat, cat, ih b]
    cases q with
    | nil => simp [cat]
    | cons c q2 => simp [cat]
theorem strip_all {r ps : List (List UInt8)} (h : r.mapM stripB = some ps) : r = ps.map (32 :: ·) := by
  obtain ⟨hl, hi⟩ := mapM_some h
  apply List.ext_getElem?
  intro i
  rw [List.getElem?_map]
  by_cases hlt : i < r.length
  · have h1 : r[i]? = some r[i] := List.getElem?_eq_getElem hlt
    have h2 : ps[i]? = some (ps[i]'(by omega)) := List.getElem?_eq_getElem (by omega)
    rw [h1, h2]
    simp only [Option.map_some]
    rw [← stripB_is (hi i _ _ h1 h2)]
  · rw [List.getElem?_eq_none (by omega), List.getElem?_eq_none (by omega)]; rfl
theorem partsV_cat {s : List UInt8} {ps : List (List UInt8)} (h : partsV s = some ps) : ps ≠ [] ∧ cat [59, 32] ps = s := by
  unfold partsV at h
  split at h
  · rename_i a r hr
    cases hm : r.mapM stripB with
    | none => rw [hm] at h; cases h
    | some q =>
      rw [hm] at h
      have e : a :: q = ps := by simpa using h
      subst e
      refine ⟨by simp, ?_⟩
      rw [cat_two, ← strip_all hm, ← hr, cat_spl]
  · cases h
theorem partsV_of {ps : List (List UInt8)} (h0 : ps ≠ []) (h : ∀ p ∈ ps, (59 : UInt8) ∉ p) : partsV (cat [59, 32] ps) = some ps := by
  cases ps with
  | nil => exact absurd rfl h0
  | cons a r =>
    unfold partsV
    rw [cat_two, spl_cat 59 _ (by simp) (fun w hw => by
      rcases List.mem_cons.1 hw with rfl | hw
      · exact h w (by simp)
      · obtain ⟨t, ht, rfl⟩ := List.mem_map.1 hw
        have := h t (List.mem_cons_of_mem _ ht)
        intro hx
        rcases List.mem_cons.1 hx with e | e
        · revert e; decide
        · exact this e)]
    simp only
    have hm := mapM_map stripB (fun t : List UInt8 => 32 :: t) (fun t => t) r (fun t _ => by unfold stripB; simp)
    rw [hm]
    simp
/-- What the model reads of a view's text. -/
def specV (s : List UInt8) : Option (List Nd) := match partsV s with | none => none | some ps => match ps.mapM specReadN with | none => none | some v => if viewB v = true then some v else none
theorem cat_bytes (b x : UInt8) (hx : x ≠ b) : ∀ ws : List (List UInt8), (∀ w ∈ ws, x ∉ w) → x ∉ cat [b] ws
  | [], _ => by simp [cat]
  | [w], h => by simpa [cat] using h w (by simp)
  | w :: v :: r, h => by
    have h1 := cat_bytes b x hx (v :: r) (fun y hy => h y (List.mem_cons_of_mem _ hy))
    have h2 := h w (by simp)
    rw [cat]
    intro hm
    rcases List.mem_append.1 hm with hm | hm
    · rcases List.mem_append.1 hm with hm | hm
      · exact h2 hm
      · exact hx (by simpa using hm)
    · exact h1 hm
theorem node_no59 {d : Nd} (h : nodeB d = true) : (59 : UInt8) ∉ nodeL d := cat_bytes 32 59 (by decide) _ fun w hw => (parts_bytes h w hw).2.1
theorem view_nodes {v : List Nd} (h : viewB v = true) : v ≠ [] ∧ ∀ d ∈ v, nodeB d = true := by
  refine ⟨fun e => by subst e; exact absurd h (by decide), fun d hd => ?_⟩
  obtain ⟨j, hj, rfl⟩ := List.mem_iff_getElem.1 hd
  rw [← ndx_eq v j hj]
  exact view_right h hj
theorem specV_is {s : List UInt8} {v : List Nd} (h : specV s = some v) : viewB v = true ∧ showV v = s := by
  unfold specV at h
  split at h
  · cases h
  · rename_i ps hp
    split at h
    · cases h
    · rename_i q hq
      split at h
      · rename_i hv
        injection h with h
        subst h
        refine ⟨hv, ?_⟩
        obtain ⟨_, hc⟩ := partsV_cat hp
        have e : ps = q.map nodeL := by
          obtain ⟨hl, hi⟩ := mapM_some hq
          apply List.ext_getElem?
          intro i
          rw [List.getElem?_map]
          by_cases hlt : i < ps.length
          · have h1 : ps[i]? = some ps[i] := List.getElem?_eq_getElem hlt
            have h2 : q[i]? = some (q[i]'(by omega)) := List.getElem?_eq_getElem (by omega)
            rw [h1, h2]
            simp only [Option.map_some]
            rw [(show_readN (hi i _ _ h1 h2)).2]
          · rw [List.getElem?_eq_none (by omega), List.getElem?_eq_none (by omega)]; rfl
        unfold showV
        rw [if_pos hv, ← e, hc]
      · cases h
theorem specV_of {v : List Nd} (h : viewB v = true) : partsV (showV v) = some (v.map nodeL) ∧ specV (showV v) = some v := by
  obtain ⟨h0, hn⟩ := view_nodes h
  have hp : partsV (showV v) = some (v.map nodeL) := by
    unfold showV
    rw [if_pos h]
    refine partsV_of (by simpa using h0) fun p hp => ?_
    obtain ⟨d, hd, rfl⟩ := List.mem_map.1 hp
    exact node_no59 (hn d hd)
  refine ⟨hp, ?_⟩
  unfold specV
  rw [hp]
  simp only
  have := mapM_map specReadN nodeL (fun d : Nd => d) v (fun d hd => readN_show (hn d hd))
  rw [this]
  simp only [List.map_id']
  rw [if_pos h]
/-! ### the program's way -/
def numsI (ws : List (List UInt8)) : Option (List Int) := ws.mapM parseI
/-- Places and the Place behind sum. -/
def readP (ws : List (List UInt8)) : Option (List Int × Int) :=
  if sumL ∈ ws then (match numsI (ws.take (ws.findIdx (· == sumL))), numsI (ws.drop (ws.findIdx (· == sumL) + 1)) with | some z, some [p] => some (z, p) | _, _ => none)
  else (match numsI ws with | some z => some (z, -1) | none => none)
/-- A node read of its words by the program. -/
def implReadN (ws : List (List UInt8)) : Option Nd :=
  match ws with
  | [] => none
  | w :: r =>
    if kindW w = 1 then some ⟨1, mkB (cat [32] r), [], [], -1⟩
    else if kindW w = 2 then (if (specReadCs (cat [32] r)).2 = true then some ⟨2, ⟨#[]⟩, (specReadCs (cat [32] r)).1, [], -1⟩ else none)
    else match readP r with | some (z, p) => some ⟨kindW w, ⟨#[]⟩, [], z, p⟩ | none => none
theorem numsI_of {z : List Int} (h : ∀ x ∈ z, 0 ≤ x ∧ x ≤ 5) : numsI (z.map Lib.itoa) = some z := by
  have := mapM_map parseI Lib.itoa (fun x : Int => x) z (fun a ha => parseI_small (by have := h a ha; omega) (by have := h a ha; omega))
  simpa [numsI] using this
theorem find_sum {a r : List (List UInt8)} (h : sumL ∉ a) : (a ++ sumL :: r).findIdx (· == sumL) = a.length := by
  induction a with
  | nil => simp [List.findIdx_cons]
  | cons b q ih =>
    have hb : (b == sumL) = false := by
      cases e : (b == sumL) with
      | false => rfl
      | true => exact absurd (by rw [← eq_of_beq e]; simp) h
    rw [List.cons_append, List.findIdx_cons, hb]
    simp only [cond_false]
    rw [ih (fun hx => h (List.mem_cons_of_mem _ hx))]
    simp
theorem implN_show {d : Nd} (h : nodeB d = true) : implReadN (partsL d) = some d := by
  obtain ⟨q, hq⟩ := right_of h
  have hk := hq.kq
  have hpl := ix_place hq.pl
  unfold implReadN partsL
  rw [hk, Int.toNat_natCast]
  simp only
  rw [kindW_wnx hq.q1 hq.q7]
  by_cases h1 : q = 1
  · subst h1
    obtain ⟨hz, hp⟩ := hq.bare (by omega)
    rw [if_pos rfl, hz]
    unfold headL tailL
    rw [if_pos (by rw [hk]; rfl), hp, if_pos rfl]
    show some (⟨1, mkB (bl d.n), [], [], -1⟩ : Nd) = some d
    rw [mkB_bl, name_eta hq h]
  · rw [if_neg h1]
    by_cases h2 : q = 2
    · subst h2
      obtain ⟨hz, hp⟩ := hq.bare (by omega)
      have hh : headL d = [showCs d.c] := by
        unfold headL
        rw [if_neg (by rw [hk]; decide), if_pos (by rw [hk]; rfl)]
      have ht : tailL d = [] := by unfold tailL; rw [if_pos hp]
      rw [if_pos rfl, hz, hh, ht]
      show (if (specReadCs (showCs d.c)).2 = true then some (⟨2, ⟨#[]⟩, (specReadCs (showCs d.c)).1, [], -1⟩ : Nd) else none) = some d
      rw [readCs_show (hq.cond rfl), if_pos rfl, cond_eta hq h]
    · rw [if_neg h2]
      unfold headL
      rw [if_neg (by omega), if_neg (by omega), List.nil_append]
      have hm : sumL ∉ d.z.map Lib.itoa := fun hx => by
        obtain ⟨x, _, e⟩ := List.mem_map.1 hx
        exact itoa_ne_sum x e
      have he := node_eta hq h h1 h2
      unfold readP tailL
      by_cases hp : d.p = -1
      · rw [if_pos hp, List.append_nil, if_neg hm, numsI_of hpl]
        simp only
        rw [← hp, he]
      · rw [if_neg hp, if_pos (by simp), find_sum hm]
        have h0 := hq.p0
        have h5 := hq.p5
        have e1 : ((d.z.map Lib.itoa) ++ [sumL, Lib.itoa d.p]).take (d.z.map Lib.itoa).length = d.z.map Lib.itoa := by simp
        have e2 : ((d.z.map Lib.itoa) ++ [sumL, Lib.itoa d.p]).drop ((d.z.map Lib.itoa).length + 1) = [Lib.itoa d.p] := by
          rw [← List.drop_drop, List.drop_left]; rfl
        have e3 : numsI [Lib.itoa d.p] = some [d.p] := by
          have := numsI_of (z := [d.p]) (fun x hx => by have e : x = d.p := (by simpa using hx); rw [e]; omega)
          simpa using this
        rw [e1, e2, e3, numsI_of hpl]
        simp only
        rw [he]
/-- The words of each node, none of them empty. -/
def splitN (s : List UInt8) : Option (List (List (List UInt8))) := match partsV s with | none => none | some ps => if (ps.all fun p => (spl 32 p).all fun w => decide (w ≠ [])) = true then some (ps.map (spl 32)) else none
/-- What the program reads of a view's text. -/
def implV (s : List UInt8) : Option (List Nd) := match splitN s with | none => none | some q => match q.mapM implReadN with | none => none | some v => if showV v = s then some v else none
theorem splitN_nil : splitN [] = none := by decide
theorem implV_same (s : List UInt8) : implV s = specV s := by
  cases hs : specV s with
  | some v =>
    obtain ⟨hv, hsh⟩ := specV_is hs
    obtain ⟨h0, hn⟩ := view_nodes hv
    have hp := (specV_of hv).1
    rw [hsh] at hp
    have hq : splitN s = some (v.map partsL) := by
      unfold splitN
      rw [hp]
      simp only
      rw [if_pos, List.map_map]
      · congr 1
        apply List.map_congr_left
        intro d hd
        exact node_words (hn d hd)
      · rw [List.all_eq_true]
        intro p hp2
        obtain ⟨d, hd, rfl⟩ := List.mem_map.1 hp2
        rw [node_words (hn d hd), List.all_eq_true]
        intro w hw
        exact decide_eq_true (parts_bytes (hn d hd) w hw).2.2
    unfold implV
    rw [hq]
    simp only
    have := mapM_map implReadN partsL (fun d : Nd => d) v (fun d hd => implN_show (hn d hd))
    rw [this]
    simp only [List.map_id']
    rw [if_pos hsh]
  | none =>
    cases hi : implV s with
    | none => rfl
    | some v =>
      exfalso
      have h0 : s ≠ [] := fun e => by
        subst e
        unfold implV at hi
        rw [splitN_nil] at hi
        cases hi
      have hsh : showV v = s := by
        unfold implV at hi
        split at hi
        · cases hi
        · split at hi
          · cases hi
          · split at hi
            · rename_i e; injection hi with hi; rw [← hi]; exact e
            · cases hi
      cases hv : viewB v with
      | false =>
        unfold showV at hsh
        rw [if_neg (by rw [hv]; simp)] at hsh
        exact h0 hsh.symm
      | true =>
        have := (specV_of hv).2
        rw [hsh, hs] at this
        cases this
end Go.Proofs.YtpadhcoboapodaaGreatDoor

/- A view's text gone through byte by byte: an automaton of words and nodes, and that it answers what splitN does: plain facts. And: a scope with four labels. -/
namespace Go.Proofs.YtpadhcoboapodaaGreatDoor
open Go.RowKit

def aut : Bool → List (List (List UInt8)) → List (List UInt8) → List UInt8 → List UInt8 → Option (List (List (List UInt8)))
  | m, N, _, _, [] => if m = true then some N else none
  | m, N, W, c, b :: r => if m = true then (if b = 32 then aut false N [] [] r else none)
    else if b = 32 then (if c = [] then none else aut false N (W ++ [c]) [] r)
    else if b = 59 then (if c = [] then none else aut true (N ++ [W ++ [c]]) [] [] r)
    else aut false N W (c ++ [b]) r
/-- Nodes N are done, of the next one the words W, of its next word the bytes c; then comes the text. -/
def autoN (N : List (List (List UInt8))) (W : List (List UInt8)) (c t : List UInt8) : Option (List (List (List UInt8))) := aut false N W c t
/-- Behind a node's last word: N are done, the text that is left. -/
def autoE (N : List (List (List UInt8))) (t : List UInt8) : Option (List (List (List UInt8))) := aut true N [] [] t
theorem autoN_cons (N : List (List (List UInt8))) (W : List (List UInt8)) (c : List UInt8) (b : UInt8) (r : List UInt8) : autoN N W c (b :: r) = if b = 32 then (if c = [] then none else autoN N (W ++ [c]) [] r) else if b = 59 then (if c = [] then none else autoE (N ++ [W ++ [c]]) r) else autoN N W (c ++ [b]) r := rfl
theorem autoE_cons (N : List (List (List UInt8))) (b : UInt8) (r : List UInt8) : autoE N (b :: r) = if b = 32 then autoN N [] [] r else none := rfl
theorem autoE_nil (N : List (List (List UInt8))) : autoE N [] = some N := rfl
def okW (ws : List (List UInt8)) : Bool := ws.all fun w => decide (w ≠ [])
/-- The same, said by the parts. -/
def partN (N : List (List (List UInt8))) (W : List (List UInt8)) (c t : List UInt8) : Option (List (List (List UInt8))) :=
  match spl 59 t with
  | [] => none
  | a :: r => match r.mapM stripB with
    | none => none
    | some ps => match spl 32 a with
      | [] => none
      | h :: q => if (okW ((c ++ h) :: q) && ps.all fun p => okW (spl 32 p)) = true then some (N ++ (W ++ (c ++ h) :: q) :: ps.map (spl 32)) else none
theorem spl_yes (c : UInt8) (r : List UInt8) : spl c (c :: r) = [] :: spl c r := by simp [spl]
theorem spl_no {c b : UInt8} (h : b ≠ c) (r : List UInt8) : ∃ w ws, spl c r = w :: ws ∧ spl c (b :: r) = (b :: w) :: ws := by
  cases hs : spl c r with
  | nil => exact absurd hs (spl_ne c r)
  | cons w ws => exact ⟨w, ws, rfl, by rw [spl, if_neg h, hs]⟩
theorem okW_cons (w : List UInt8) (ws : List (List UInt8)) : okW (w :: ws) = (decide (w ≠ []) && okW ws) := rfl
theorem spl_head (c : UInt8) (r : List UInt8) : ∃ w ws, spl c r = w :: ws := by
  cases hs : spl c r with
  | nil => exact absurd hs (spl_ne c r)
  | cons w ws => exact ⟨w, ws, rfl⟩
theorem auto_part (n : Nat) : ∀ (t : List UInt8) (N : List (List (List UInt8))) (W : List (List UInt8)) (c : List UInt8), t.length ≤ n → autoN N W c (t ++ [59]) = partN N W c t := by
  induction n with
  | zero =>
    intro t N W c h
    obtain rfl : t = [] := List.eq_nil_of_length_eq_zero (by omega)
    unfold partN
    rw [List.nil_append, autoN_cons, if_neg (by decide), if_pos rfl, autoE_nil]
    simp only [spl, List.mapM_nil, List.append_nil]
    by_cases hc : c = []
    · subst hc
      simp [okW]
    · simp [okW, hc]
  | succ n ih =>
    intro t N W c h
    cases t with
    | nil => exact ih [] N W c (by simp)
    | cons b r =>
      have hr : r.length ≤ n := by simp at h; omega
      obtain ⟨a, rs, ha⟩ := spl_head 59 r
      obtain ⟨hd, q, hq⟩ := spl_head 32 a
      rw [List.cons_append, autoN_cons]
      by_cases h32 : b = 32
      · subst h32
        rw [if_pos rfl]
        obtain ⟨a', rs', e1, e2⟩ := spl_no (c := 59) (b := 32) (by decide) r
        rw [ha] at e1
        injection e1 with e3 e4
        subst e3 e4
        unfold partN
        rw [e2]
        simp only
        rw [spl_yes, hq]
        by_cases hc : c = []
        · subst hc
          rw [if_pos rfl]
          cases rs.mapM stripB with
          | none => rfl
          | some ps => simp [okW]
        · rw [if_neg hc, ih r N (W ++ [c]) [] hr]
          unfold partN
          rw [ha]
          simp only
          rw [hq]
          cases rs.mapM stripB with
          | none => rfl
          | some ps =>
            simp only [List.append_nil, List.nil_append, okW_cons, List.append_assoc, List.singleton_append]
            rw [decide_eq_true (p := c ≠ []) hc, Bool.true_and]
      · rw [if_neg h32]
        by_cases h59 : b = 59
        · subst h59
          rw [if_pos rfl]
          unfold partN
          rw [spl_yes, ha]
          simp only [spl, List.append_nil, okW_cons]
          by_cases hc : c = []
          · subst hc
            rw [if_pos rfl]
            cases (a :: rs).mapM stripB with
            | none => rfl
            | some ps => simp
          · rw [if_neg hc]
            cases r with
            | nil =>
              have e : a = [] ∧ rs = [] := by
                simp only [spl] at ha
                injection ha with e1 e2
                exact ⟨e1.symm, e2.symm⟩
              obtain ⟨rfl, rfl⟩ := e
              rw [List.nil_append, autoE_cons, if_neg (by decide)]
              simp [stripB]
            | cons b2 r2 =>
              rw [List.cons_append, autoE_cons]
              by_cases hb2 : b2 = 32
              · subst hb2
                rw [if_pos rfl]
                obtain ⟨a2, rs2, e1, e2⟩ := spl_no (c := 59) (b := 32) (by decide) r2
                rw [e2] at ha
                injection ha with e3 e4
                subst e3 e4
                rw [ih r2 (N ++ [W ++ [c]]) [] [] (by simp at hr; omega)]
                unfold partN
                rw [e1]
                simp only
                obtain ⟨h2, q2, hq2⟩ := spl_head 32 a2
                rw [hq2]
                rw [List.mapM_cons]
                show _ = (match (stripB (32 :: a2)).bind fun x => (rs2.mapM stripB).bind fun xs => some (x :: xs) with | none => none | some ps => _)
                rw [show stripB (32 :: a2) = some a2 by simp [stripB]]
                cases rs2.mapM stripB with
                | none => rfl
                | some ps =>
                  simp only [Option.bind_some, List.nil_append, List.all_cons, List.map_cons]
                  rw [hq2, decide_eq_true (p := c ≠ []) hc]
                  simp only [okW, List.all_nil, Bool.and_true, Bool.true_and, List.append_assoc, List.singleton_append]
              · rw [if_neg hb2]
                have hst : stripB a = none := by
                  by_cases h9 : b2 = 59
                  · subst h9
                    rw [spl_yes] at ha
                    injection ha with e1 _
                    rw [← e1]; rfl
                  · obtain ⟨a2, rs2, e1, e2⟩ := spl_no (c := 59) h9 r2
                    rw [e2] at ha
                    injection ha with e3 _
                    rw [← e3]
                    simp [stripB, hb2]
                rw [List.mapM_cons, hst]
                rfl
        · rw [if_neg h59]
          obtain ⟨a', rs', e1, e2⟩ := spl_no (c := 59) h59 r
          rw [ha] at e1
          injection e1 with e3 e4
          subst e3 e4
          rw [ih r N W (c ++ [b]) hr]
          unfold partN
          rw [e2, ha]
          simp only
          obtain ⟨h', q', f1, f2⟩ := spl_no (c := 32) h32 a
          rw [hq] at f1
          injection f1 with f3 f4
          subst f3 f4
          rw [hq, f2]
          cases rs.mapM stripB with
          | none => rfl
          | some ps => simp only [List.append_assoc, List.singleton_append]
theorem auto_split (s : List UInt8) : autoN [] [] [] (s ++ [59]) = splitN s := by
  rw [auto_part s.length s [] [] [] (Nat.le_refl _)]
  unfold partN splitN partsV
  obtain ⟨a, rs, ha⟩ := spl_head 59 s
  rw [ha]
  simp only
  cases rs.mapM stripB with
  | none => rfl
  | some ps =>
    obtain ⟨h, q, hq⟩ := spl_head 32 a
    rw [hq]
    simp only [Option.map_some, List.nil_append, List.all_cons, List.map_cons]
    rw [hq]
    rfl
theorem auto_begin_no {N : List (List (List UInt8))} {W : List (List UInt8)} {b : UInt8} {r : List UInt8} (h : b = 32 ∨ b = 59) : autoN N W [] (b :: r) = none := by
  rw [autoN_cons]
  rcases h with rfl | rfl
  · rw [if_pos rfl, if_pos rfl]
  · rw [if_neg (by decide), if_pos rfl, if_pos rfl]
theorem auto_go {N : List (List (List UInt8))} {W : List (List UInt8)} {c : List UInt8} {b : UInt8} {r : List UInt8} (h : b ≠ 32) (h' : b ≠ 59) : autoN N W c (b :: r) = autoN N W (c ++ [b]) r := by rw [autoN_cons, if_neg h, if_neg h']
theorem auto_word {N : List (List (List UInt8))} {W : List (List UInt8)} {c r : List UInt8} (hc : c ≠ []) : autoN N W c (32 :: r) = autoN N (W ++ [c]) [] r := by rw [autoN_cons, if_pos rfl, if_neg hc]
theorem auto_node {N : List (List (List UInt8))} {W : List (List UInt8)} {c r : List UInt8} (hc : c ≠ []) : autoN N W c (59 :: r) = autoE (N ++ [W ++ [c]]) r := by rw [autoN_cons, if_neg (by decide), if_pos rfl, if_neg hc]

/-! ### a scope with four labels -/
/-- By a goto to one of the first four labels: what J says of that label; else as Q. -/
def jumps4 (J : Nat → Act → World → Prop) (Q : Exit → Act → World → Prop) : Exit → Act → World → Prop
  | .goto l, a, w => l < 4 ∧ J l a w
  | e, a, w => Q e a w
theorem scope4 {P : Program} {a : Act} {w : World} {Q : Exit → Act → World → Prop} {c r0 r1 r2 r3 : Code} (J : Nat → Act → World → Prop) (μ : Act → World → Nat)
    (h0 : findLabel c 0 = some (Code.seq .skip r0)) (h1 : findLabel c 1 = some (Code.seq .skip r1)) (h2 : findLabel c 2 = some r2) (h3 : findLabel c 3 = some r3)
    (p1 : ∀ a w, J 1 a w → r1.wp P (jumps4 (fun l a' w' => J l a' w' ∧ μ a' w' < μ a w) Q) a w)
    (p0' : (∀ a w, J 1 a w → r1.wp P (jumps4 (fun l a' w' => J l a' w' ∧ μ a' w' < μ a w) Q) a w) → ∀ a w, J 0 a w → r0.wp P (jumps4 (fun l a' w' => J l a' w' ∧ μ a' w' < μ a w) Q) a w)
    (first : (∀ a w, J 0 a w → r0.wp P (jumps4 J Q) a w) → c.wp P (jumps4 J Q) a w)
    (p2 : ∀ a w, J 2 a w → r2.wp P (jumps4 (fun l a' w' => J l a' w' ∧ μ a' w' < μ a w) Q) a w)
    (p3 : ∀ a w, J 3 a w → r3.wp P (jumps4 (fun l a' w' => J l a' w' ∧ μ a' w' < μ a w) Q) a w) : (Code.scope c).wp P Q a w := by
  have p0 := p0' p1
  have p0s : ∀ a w, J 0 a w → (Code.seq .skip r0).wp P (jumps4 (fun l a' w' => J l a' w' ∧ μ a' w' < μ a w) Q) a w := fun a w h => wp_seq (wp_skip (p0 a w h))
  have p1s : ∀ a w, J 1 a w → (Code.seq .skip r1).wp P (jumps4 (fun l a' w' => J l a' w' ∧ μ a' w' < μ a w) Q) a w := fun a w h => wp_seq (wp_skip (p1 a w h))
  have weak : ∀ a w, J 0 a w → r0.wp P (jumps4 J Q) a w := fun a w h => wp_mono (p0 a w h) fun e a' w' hq => by
    cases e with
    | goto l => exact ⟨hq.1, hq.2.1⟩
    | normal => exact hq
    | exit id => exact hq
    | ret => exact hq
    | panic ch => exact hq
    | outgrown => exact hq
  have one : ∀ l, l < 4 → ∃ r, findLabel c l = some r ∧ ∀ a w, J l a w → r.wp P (jumps4 (fun l a' w' => J l a' w' ∧ μ a' w' < μ a w) Q) a w := fun l hl => by
    obtain rfl | rfl | rfl | rfl : l = 0 ∨ l = 1 ∨ l = 2 ∨ l = 3 := by omega
    · exact ⟨_, h0, p0s⟩
    · exact ⟨_, h1, p1s⟩
    · exact ⟨r2, h2, p2⟩
    · exact ⟨r3, h3, p3⟩
  intro b k cs
  have there : ∀ n l a w, l < 4 → μ a w = n → J l a w → ∀ r, findLabel c l = some r → ∃ e a' w', Q e a' w' ∧ Arrives P (lone (b.at a (.code r :: .inScope c :: k)) cs w) b k cs e a' w' := by
    intro n
    induction n using Nat.strongRecOn with
    | _ n ih =>
      intro l a w hl hn hJ r hr
      obtain ⟨r', hr', hp⟩ := one l hl
      obtain rfl : r' = r := Option.some.inj (hr'.symm.trans hr)
      obtain ⟨e, a₁, w₁, hq, harr⟩ := hp a w hJ b (.inScope c :: k) cs
      cases e with
      | normal => exact ⟨.normal, a₁, w₁, hq, Steps.trans harr (.one step_inScope)⟩
      | exit id => exact ⟨.exit id, a₁, w₁, hq, fun k' hk => harr k' (by simp [exitTo, hk])⟩
      | goto l' =>
        obtain ⟨hl', hJ', hlt⟩ := hq
        obtain ⟨r'', hr'', _⟩ := one l' hl'
        obtain ⟨e₂, a₂, w₂, hq₂, harr₂⟩ := ih _ (by omega) l' a₁ w₁ hl' rfl hJ' r'' hr''
        exact ⟨e₂, a₂, w₂, hq₂, .of_steps (harr _ (by simp [gotoIn, hr''])) harr₂⟩
      | ret => exact ⟨_, a₁, w₁, hq, harr⟩
      | panic ch => exact ⟨_, a₁, w₁, hq, harr⟩
      | outgrown => exact ⟨_, a₁, w₁, hq, harr⟩
  obtain ⟨e, a₁, w₁, hq, harr⟩ := first weak b (.inScope c :: k) cs
  cases e with
  | normal => exact ⟨.normal, a₁, w₁, hq, .head step_scope (Steps.trans harr (.one step_inScope))⟩
  | exit id => exact ⟨.exit id, a₁, w₁, hq, fun k' hk => .head step_scope (harr k' (by simp [exitTo, hk]))⟩
  | goto l' =>
    obtain ⟨hl', hJ'⟩ := hq
    obtain ⟨r'', hr'', _⟩ := one l' hl'
    obtain ⟨e₂, a₂, w₂, hq₂, harr₂⟩ := there _ l' a₁ w₁ hl' rfl hJ' r'' hr''
    exact ⟨e₂, a₂, w₂, hq₂, .of_steps (.head step_scope (harr _ (by simp [gotoIn, hr'']))) harr₂⟩
  | ret => exact ⟨_, a₁, w₁, hq, .of_steps (.one step_scope) harr⟩
  | panic ch => exact ⟨_, a₁, w₁, hq, .of_steps (.one step_scope) harr⟩
  | outgrown => exact ⟨_, a₁, w₁, hq, .of_steps (.one step_scope) harr⟩
end Go.Proofs.YtpadhcoboapodaaGreatDoor
