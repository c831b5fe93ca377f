/- The laws' marks on nodes of the call's own, and whether they stand; nothing that lay has turned but the nodes' own blocks. -/
import Derived.Test.YtpadhcoboapodaaGreatDoorNodO
namespace Go.Proofs.YtpadhcoboapodaaGreatDoor
open Go.RowKit

/-- How many marks a node takes. -/
def wN (e : NV) : Nat := 3 + 4 * e.d.c.length + e.d.z.length
def kNd (m : Nat) (es : List NV) (j : Nat) : Nat := m + ((es.take j).map wN).sum
theorem kNd_zero (m : Nat) (es : List NV) : kNd m es 0 = m := by simp [kNd]
theorem kNd_succ {m : Nat} {es : List NV} {j : Nat} (h : j < es.length) : kNd m es (j + 1) = kNd m es j + wN (nvx es j) := by
  unfold kNd
  rw [List.take_succ_eq_append_getElem h, List.map_append, List.sum_append_nat, ← nvx_eq es j h]; simp; omega
theorem kNd_mono {m : Nat} {es : List NV} : ∀ d j, j + d ≤ es.length → kNd m es j ≤ kNd m es (j + d)
  | 0, _, _ => Nat.le_refl _
  | d + 1, j, h => Nat.le_trans (kNd_mono d j (by omega)) (by rw [show j + (d + 1) = (j + d) + 1 by omega, kNd_succ (by omega)]; omega)
theorem kNd_le {m : Nat} {es : List NV} {j : Nat} (h : j ≤ es.length) : kNd m es j ≤ kNd m es es.length := by
  have := kNd_mono (m := m) (es := es) (es.length - j) j (by omega)
  rwa [show j + (es.length - j) = es.length by omega] at this
def mkD (K : Nat) (d : Nd) : Nd := ⟨K, mt (K + 1), mks (K + 2) d.c.length, marks ((K + 2 + 4 * d.c.length : Nat) : Int) d.z.length, ((K + 2 + 4 * d.c.length + d.z.length : Nat) : Int)⟩
def mkV (K : Nat) (e : NV) : NV := ⟨mkD K e.d, e.Ac, e.cc, e.gc, e.Az, e.cz, e.gz⟩
/-- The first j are marked. -/
def mkVs (m : Nat) (es : List NV) (j : Nat) : List NV := (List.range es.length).map fun i => if i < j then mkV (kNd m es i) (nvx es i) else nvx es i
theorem mkVs_length (m : Nat) (es : List NV) (j : Nat) : (mkVs m es j).length = es.length := by simp [mkVs]
theorem mkVs_at {m : Nat} {es : List NV} {j i : Nat} (h : i < es.length) : nvx (mkVs m es j) i = if i < j then mkV (kNd m es i) (nvx es i) else nvx es i := by
  rw [nvx_eq _ i (by rw [mkVs_length]; exact h)]
  simp [mkVs]
theorem mkVs_zero (m : Nat) (es : List NV) : mkVs m es 0 = es := by
  apply List.ext_getElem (mkVs_length m es 0)
  intro i h1 h2
  have := mkVs_at (m := m) (j := 0) h2
  rw [nvx_eq _ i h1, if_neg (by omega), nvx_eq es i h2] at this
  exact this
theorem mkV_c (K : Nat) (e : NV) : (mkV K e).d.c.length = e.d.c.length ∧ (mkV K e).d.z.length = e.d.z.length := ⟨mks_length _ _, marks_length _ _⟩
theorem mkVs_same {m : Nat} {es : List NV} {j i : Nat} (h : i < es.length) : (nvx (mkVs m es j) i).d.c.length = (nvx es i).d.c.length ∧ (nvx (mkVs m es j) i).d.z.length = (nvx es i).d.z.length ∧ (nvx (mkVs m es j) i).gc = (nvx es i).gc ∧ (nvx (mkVs m es j) i).gz = (nvx es i).gz ∧ (nvx (mkVs m es j) i).Ac = (nvx es i).Ac ∧ (nvx (mkVs m es j) i).Az = (nvx es i).Az ∧ (nvx (mkVs m es j) i).cc = (nvx es i).cc ∧ (nvx (mkVs m es j) i).cz = (nvx es i).cz := by
  rw [mkVs_at h]
  split
  · exact ⟨(mkV_c _ _).1, (mkV_c _ _).2, rfl, rfl, rfl, rfl, rfl, rfl⟩
  · exact ⟨rfl, rfl, rfl, rfl, rfl, rfl, rfl, rfl⟩
theorem wN_same {m : Nat} {es : List NV} {j i : Nat} (h : i < es.length) : wN (nvx (mkVs m es j) i) = wN (nvx es i) := by
  obtain ⟨h1, h2, _⟩ := mkVs_same (m := m) (j := j) h
  unfold wN
  rw [h1, h2]
theorem theirs_same {m G : Nat} {es : List NV} {j x : Nat} (h : theirs G (mkVs m es j) x) : theirs G es x := by
  rcases h with rfl | ⟨i, hi, h⟩
  · exact .inl rfl
  · rw [mkVs_length] at hi
    obtain ⟨h1, h2, h3, h4, _⟩ := mkVs_same (m := m) (j := j) hi
    rw [h1, h2, h3, h4] at h
    exact .inr ⟨i, hi, h⟩
/-- One node is marked: what the steps left. -/
theorem mark_node {wr w2 w4 w5 : World} {G m j : Nat} {es : List NV} {cur : Array Value} {g4 g5 : Nat} (hj : j < es.length) (hO : NOwn wr G (mkVs m es j)) (hB : Blk wr G 33 cur)
    (hc : ∀ i, i < es.length → ∀ r, r < 5 → cur[i * 5 + r]? = some (nvc (nvx (mkVs m es j) i) r))
    (hb2 : Below (wr.setCell ⟨G, j * 5, none⟩ (.int .i64 (kNd m es j : Nat))).heap.size (wr.setCell ⟨G, j * 5, none⟩ (.int .i64 (kNd m es j : Nat))) w2)
    (h4 : CRow w4 (nvx es j).Ac g4 (mks (kNd m es j + 2) (nvx es j).d.c.length)) (k4 : (w2.setCell ⟨G, j * 5 + 1, none⟩ (.string (mt (kNd m es j + 1)))).grownBy w4 (some g4)) (e4 : (0 < (nvx es j).d.c.length → g4 = (nvx es j).gc) ∧ ((nvx es j).d.c.length = 0 → (w2.setCell ⟨G, j * 5 + 1, none⟩ (.string (mt (kNd m es j + 1)))).heap.size ≤ g4))
    (h5 : Row w5 2 (nvx es j).Az (marks ((kNd m es j + 2 + 4 * (nvx es j).d.c.length : Nat) : Int) (nvx es j).d.z.length) g5) (k5 : w4.grownBy w5 (some g5)) (e5 : (0 < (nvx es j).d.z.length → g5 = (nvx es j).gz) ∧ ((nvx es j).d.z.length = 0 → w4.heap.size ≤ g5)) :
    NOwn (w5.setCell ⟨G, j * 5 + 4, none⟩ (.int .i64 ((kNd m es j + 2 + 4 * (nvx es j).d.c.length + (nvx es j).d.z.length : Nat) : Int))) G (mkVs m es (j + 1)) ∧ Kept (theirs G es) wr (w5.setCell ⟨G, j * 5 + 4, none⟩ (.int .i64 ((kNd m es j + 2 + 4 * (nvx es j).d.c.length + (nvx es j).d.z.length : Nat) : Int))) := by
  have hme : nvx (mkVs m es j) j = nvx es j := by rw [mkVs_at hj, if_neg (by omega)]
  have hoth : ∀ i, i < es.length → i ≠ j → nvx (mkVs m es (j + 1)) i = nvx (mkVs m es j) i := fun i hi hij => by
    rw [mkVs_at hi, mkVs_at hi]
    by_cases h : i < j
    · rw [if_pos h, if_pos (by omega)]
    · rw [if_neg h, if_neg (by omega)]
  have hnew : nvx (mkVs m es (j + 1)) j = mkV (kNd m es j) (nvx es j) := by rw [mkVs_at hj, if_pos (by omega)]
  have hml := mkVs_length m es j
  have hgl := hB.lt
  -- the block of the nodes
  have B1 := hB.set_ (j * 5) (.int .i64 (kNd m es j : Nat))
  have hs1 : (wr.setCell ⟨G, j * 5, none⟩ (.int .i64 (kNd m es j : Nat))).heap.size = wr.heap.size := by simp [World.setCell]
  have B2 := (B1.on hb2).set_ (j * 5 + 1) (.string (mt (kNd m es j + 1)))
  have n4 : g4 ≠ G := by
    by_cases h : 0 < (nvx es j).d.c.length
    · rw [e4.1 h]
      have := hO.cs j (by omega)
      rw [hme] at this
      exact crow_ne this h hB (by decide)
    · have := e4.2 (by omega)
      have := B2.lt
      omega
  have B4 := B2.grown k4 (fun e => n4 (Option.some.inj e).symm)
  have n5 : g5 ≠ G := by
    by_cases h : 0 < (nvx es j).d.z.length
    · rw [e5.1 h]
      have := hO.zs j (by omega)
      rw [hme] at this
      exact row_ne this h hB (by decide)
    · have := e5.2 (by omega)
      have := B4.lt
      omega
  have B5 := (B4.grown k5 (fun e => n5 (Option.some.inj e).symm)).set_ (j * 5 + 4) (.int .i64 ((kNd m es j + 2 + 4 * (nvx es j).d.c.length + (nvx es j).d.z.length : Nat) : Int))
  -- rows of any of them that is not node j's
  have hkeepC : ∀ (A : Option Addr) (g : Nat) (l : List Cnd), CRow wr A g l → (0 < l.length → 0 < (nvx es j).d.c.length → g ≠ (nvx es j).gc) → CRow (w5.setCell ⟨G, j * 5 + 4, none⟩ (.int .i64 ((kNd m es j + 2 + 4 * (nvx es j).d.c.length + (nvx es j).d.z.length : Nat) : Int))) A g l := fun A g l h hne hn => by
    have hG : g ≠ G := crow_ne h hn hB (by decide)
    obtain ⟨hA, cur', hB', hc'⟩ := h hn
    refine ⟨hA, cur', ?_, hc'⟩
    have b1 := Blk.far hB' (p := ⟨G, j * 5, none⟩) hG (.int .i64 (kNd m es j : Nat))
    have b2 := Blk.far (b1.on hb2) (p := ⟨G, j * 5 + 1, none⟩) hG (.string (mt (kNd m es j + 1)))
    have b4 := b2.grown k4 (fun e => by
      have e := Option.some.inj e
      by_cases h0 : 0 < (nvx es j).d.c.length
      · exact hne hn h0 (by rw [e]; exact e4.1 h0)
      · have := e4.2 (by omega)
        have := b2.lt
        omega)
    have b5 := b4.grown k5 (fun e => by
      have e := Option.some.inj e
      by_cases h0 : 0 < (nvx es j).d.z.length
      · have hz := hO.zs j (by omega)
        rw [hme] at hz
        exact row_ne hz h0 hB' (by decide) (by rw [e, e5.1 h0])
      · have := e5.2 (by omega)
        have := b4.lt
        omega)
    exact Blk.far b5 (p := ⟨G, j * 5 + 4, none⟩) hG _
  have hkeepZ : ∀ (A : Option Addr) (g : Nat) (l : List Int), Row wr 2 A l g → (0 < l.length → 0 < (nvx es j).d.z.length → g ≠ (nvx es j).gz) → Row (w5.setCell ⟨G, j * 5 + 4, none⟩ (.int .i64 ((kNd m es j + 2 + 4 * (nvx es j).d.c.length + (nvx es j).d.z.length : Nat) : Int))) 2 A l g := fun A g l h hne hn => by
    have hG : g ≠ G := row_ne h hn hB (by decide)
    obtain ⟨hA, cur', hB', hc'⟩ := h hn
    refine ⟨hA, cur', ?_, hc'⟩
    have b1 := Blk.far (t := 2) hB' (p := ⟨G, j * 5, none⟩) hG (.int .i64 (kNd m es j : Nat))
    have b2 := Blk.far (b1.on hb2) (p := ⟨G, j * 5 + 1, none⟩) hG (.string (mt (kNd m es j + 1)))
    have b4 := b2.grown k4 (fun e => by
      have e := Option.some.inj e
      by_cases h0 : 0 < (nvx es j).d.c.length
      · have hz := hO.cs j (by omega)
        rw [hme] at hz
        exact crow_ne hz h0 (t := 2) hB' (by decide) (by rw [e, e4.1 h0])
      · have := e4.2 (by omega)
        have := b2.lt
        omega)
    have b5 := b4.grown k5 (fun e => by
      have e := Option.some.inj e
      by_cases h0 : 0 < (nvx es j).d.z.length
      · exact hne hn h0 (by rw [e]; exact e5.1 h0)
      · have := e5.2 (by omega)
        have := b4.lt
        omega)
    exact Blk.far b5 (p := ⟨G, j * 5 + 4, none⟩) hG _
  -- node j's own rows
  have hCj : CRow (w5.setCell ⟨G, j * 5 + 4, none⟩ (.int .i64 ((kNd m es j + 2 + 4 * (nvx es j).d.c.length + (nvx es j).d.z.length : Nat) : Int))) (nvx es j).Ac (nvx es j).gc (mks (kNd m es j + 2) (nvx es j).d.c.length) := fun hn => by
    have h0 : 0 < (nvx es j).d.c.length := by rwa [mks_length] at hn
    have eg := e4.1 h0
    obtain ⟨hA, cur', hB', hc'⟩ := h4 hn
    rw [eg] at hA hB'
    refine ⟨hA, cur', ?_, hc'⟩
    have b5 := hB'.grown k5 (fun e => by
      have e := Option.some.inj e
      by_cases h1 : 0 < (nvx es j).d.z.length
      · have hz := hO.zs j (by omega)
        have hcc := hO.cs j (by omega)
        rw [hme] at hz hcc
        exact crow_row hcc h0 hz h1 (by rw [e, e5.1 h1])
      · have := e5.2 (by omega)
        have := hB'.lt
        omega)
    exact Blk.far b5 (p := ⟨G, j * 5 + 4, none⟩) (by show (nvx es j).gc ≠ G; rw [← eg]; exact n4) _
  have hZj : Row (w5.setCell ⟨G, j * 5 + 4, none⟩ (.int .i64 ((kNd m es j + 2 + 4 * (nvx es j).d.c.length + (nvx es j).d.z.length : Nat) : Int))) 2 (nvx es j).Az (marks ((kNd m es j + 2 + 4 * (nvx es j).d.c.length : Nat) : Int) (nvx es j).d.z.length) (nvx es j).gz := fun hn => by
    have h0 : 0 < (nvx es j).d.z.length := by rwa [marks_length] at hn
    have eg := e5.1 h0
    obtain ⟨hA, cur', hB', hc'⟩ := h5 hn
    rw [eg] at hA hB'
    exact ⟨hA, cur', Blk.far (t := 2) hB' (p := ⟨G, j * 5 + 4, none⟩) (by show (nvx es j).gz ≠ G; rw [← eg]; exact n5) _, hc'⟩
  refine ⟨⟨⟨_, B5, fun i hi r hr => ?_⟩, fun i hi => ?_, fun i hi => ?_, fun a b ha hb hab => ?_⟩, ?_⟩
  · rw [mkVs_length] at hi
    have hsz : ∀ i, i < es.length → ∀ r, r < 5 → i * 5 + r < cur.size := fun i hi r hr => (Array.getElem?_eq_some_iff.1 (hc i hi r hr)).1
    have hsj := hsz i hi r hr
    rw [Array.getElem?_setIfInBounds, Array.getElem?_setIfInBounds, Array.getElem?_setIfInBounds]
    by_cases hij : i = j
    · subst hij
      rw [hnew]
      have h5r : r = 0 ∨ r = 1 ∨ r = 2 ∨ r = 3 ∨ r = 4 := by omega
      rcases h5r with rfl | rfl | rfl | rfl | rfl
      · rw [if_neg (by omega), if_neg (by omega), if_pos (by omega), if_pos (by omega)]; rfl
      · rw [if_neg (by omega), if_pos (by omega), if_pos (by rw [Array.size_setIfInBounds]; omega)]; rfl
      · rw [if_neg (by omega), if_neg (by omega), if_neg (by omega), hc i hi 2 (by omega), hme]
        show some (Value.slice _ _ _) = some (Value.slice _ _ _)
        rw [show (mkV (kNd m es i) (nvx es i)).d.c.length = (nvx es i).d.c.length from (mkV_c _ _).1]; rfl
      · rw [if_neg (by omega), if_neg (by omega), if_neg (by omega), hc i hi 3 (by omega), hme]
        show some (Value.slice _ _ _) = some (Value.slice _ _ _)
        rw [show (mkV (kNd m es i) (nvx es i)).d.z.length = (nvx es i).d.z.length from (mkV_c _ _).2]; rfl
      · rw [if_pos (by omega), if_pos (by rw [Array.size_setIfInBounds, Array.size_setIfInBounds]; omega)]; rfl
    · rw [if_neg (by omega), if_neg (by omega), if_neg (by omega), hoth i hi hij]
      exact hc i hi r hr
  · rw [mkVs_length] at hi
    by_cases hij : i = j
    · subst hij
      rw [hnew]
      exact hCj
    · rw [hoth i hi hij]
      refine hkeepC _ _ _ (hO.cs i (by omega)) fun h1 h2 => ?_
      have := (hO.ne i j (by omega) (by omega) hij).1 h1 (by rw [hme]; exact h2)
      rwa [hme] at this
  · rw [mkVs_length] at hi
    by_cases hij : i = j
    · subst hij
      rw [hnew]
      exact hZj
    · rw [hoth i hi hij]
      refine hkeepZ _ _ _ (hO.zs i (by omega)) fun h1 h2 => ?_
      have := (hO.ne i j (by omega) (by omega) hij).2 h1 (by rw [hme]; exact h2)
      rwa [hme] at this
  · rw [mkVs_length] at ha hb
    have h1 := hO.ne a b (by omega) (by omega) hab
    obtain ⟨a1, a2, a3, a4, _⟩ := mkVs_same (m := m) (j := j) ha
    obtain ⟨b1, b2, b3, b4, _⟩ := mkVs_same (m := m) (j := j) hb
    obtain ⟨c1, c2, c3, c4, _⟩ := mkVs_same (m := m) (j := j + 1) ha
    obtain ⟨d1, d2, d3, d4, _⟩ := mkVs_same (m := m) (j := j + 1) hb
    rw [a1, a2, a3, a4, b1, b2, b3, b4] at h1
    rw [c1, c2, c3, c4, d1, d2, d3, d4]
    exact h1
  · have t0 : theirs G es G := .inl rfl
    have q1 : Kept (theirs G es) wr (wr.setCell ⟨G, j * 5, none⟩ (.int .i64 (kNd m es j : Nat))) := kept_grown (grown_setCell _ _ _ _) (.inl t0)
    have q2 : Kept (theirs G es) _ (w2.setCell ⟨G, j * 5 + 1, none⟩ (.string (mt (kNd m es j + 1)))) := kept_grown (grown_setCell _ _ _ _) (.inl t0)
    have q4 : Kept (theirs G es) _ w4 := kept_grown k4 (by
      by_cases h0 : 0 < (nvx es j).d.c.length
      · exact .inl (.inr ⟨j, hj, .inl ⟨h0, e4.1 h0⟩⟩)
      · exact .inr (e4.2 (by omega)))
    have q5 : Kept (theirs G es) _ w5 := kept_grown k5 (by
      by_cases h0 : 0 < (nvx es j).d.z.length
      · exact .inl (.inr ⟨j, hj, .inr ⟨h0, e5.1 h0⟩⟩)
      · exact .inr (e5.2 (by omega)))
    exact ((((q1.trans (kept_below hb2)).trans q2).trans q4).trans q5).trans (kept_grown (grown_setCell _ _ _ _) (.inl t0))
end Go.Proofs.YtpadhcoboapodaaGreatDoor
