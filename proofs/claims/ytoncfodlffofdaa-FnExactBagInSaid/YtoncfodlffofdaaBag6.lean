/- One more of a row in a bag: the plain words (placeL, withL), and laws on own bags: a number set, counts left out, a cut of the counts. No condition; nothing of the program is named but its types. -/
import Derived.Test.YtoncfodlffofdaaCopyRow0
namespace Go.Proofs.Ytoncfodlffofdaa
open Go.RowKit

def addW (a b : Int) : Int := IntKind.i64.wrap (a + b)
theorem addW_comm (a b : Int) : addW a b = addW b a := by unfold addW; rw [Int.add_comm]
/-- How many at the front are less than the row. -/
def placeL : List (List Int × Int) → List Int → Nat
  | [], _ => 0
  | (r, _) :: bs, row => if lessB r row = true then placeL bs row + 1 else 0
theorem place_le (bag : List (List Int × Int)) (row : List Int) : placeL bag row ≤ bag.length := by
  induction bag with
  | nil => exact Nat.le_refl _
  | cons p bs ih => simp only [placeL, List.length_cons]; split <;> omega
theorem place_yes {bag : List (List Int × Int)} {row : List Int} {k : Nat} (h : k < bag.length) (e : lessB (rx bag k) row = true) : placeL (bag.drop k) row = placeL (bag.drop (k + 1)) row + 1 := by
  rw [bag_drop bag k h, placeL, if_pos e]
theorem place_no {bag : List (List Int × Int)} {row : List Int} {k : Nat} (h : k < bag.length) (e : lessB (rx bag k) row = false) : placeL (bag.drop k) row = 0 := by
  rw [bag_drop bag k h, placeL, if_neg (by simp [e])]
theorem place_end {bag : List (List Int × Int)} {row : List Int} {k : Nat} (h : ¬ k < bag.length) : placeL (bag.drop k) row = 0 := by
  rw [List.drop_of_length_le (by omega)]; rfl

/-- n more of the row. -/
def withL (bag : List (List Int × Int)) (row : List Int) (n : Int) : List (List Int × Int) :=
  if placeL bag row < bag.length ∧ rx bag (placeL bag row) = row then
    (if addW (nx bag (placeL bag row)) n = 0 then bag.take (placeL bag row) ++ bag.drop (placeL bag row + 1)
     else bag.take (placeL bag row) ++ (row, addW (nx bag (placeL bag row)) n) :: bag.drop (placeL bag row + 1))
  else if n = 0 then bag else bag.take (placeL bag row) ++ (row, n) :: bag.drop (placeL bag row)
section
variable {bag : List (List Int × Int)} {row : List Int} {n : Int} {k : Nat}
theorem withL_gone (hk : placeL bag row = k) (h : k < bag.length) (e : rx bag k = row) (h0 : addW (nx bag k) n = 0) : withL bag row n = bag.take k ++ bag.drop (k + 1) := by
  subst hk; unfold withL; rw [if_pos ⟨h, e⟩, if_pos h0]
theorem withL_same (hk : placeL bag row = k) (h : k < bag.length) (e : rx bag k = row) (h0 : ¬ addW (nx bag k) n = 0) : withL bag row n = bag.take k ++ (row, addW (nx bag k) n) :: bag.drop (k + 1) := by
  subst hk; unfold withL; rw [if_pos ⟨h, e⟩, if_neg h0]
theorem withL_none (hk : placeL bag row = k) (h : ¬ (k < bag.length ∧ rx bag k = row)) (h0 : n = 0) : withL bag row n = bag := by
  subst hk; unfold withL; rw [if_neg h, if_pos h0]
theorem withL_new (hk : placeL bag row = k) (h : ¬ (k < bag.length ∧ rx bag k = row)) (h0 : ¬ n = 0) : withL bag row n = bag.take k ++ (row, n) :: bag.drop k := by
  subst hk; unfold withL; rw [if_neg h, if_neg h0]
theorem withL_length : (withL bag row n).length ≤ bag.length + 1 := by
  have hp := place_le bag row
  unfold withL
  split
  · split <;> simp <;> omega
  · split <;> simp <;> omega
end

/-- The same, not nil: the counts begin block g. -/
def OB (w : World) (lo g cap : Nat) (es : List Ent) : Prop := OBag w lo (.slice (some ⟨g, 0, none⟩) es.length cap) es
theorem OBag.ob {w : World} {lo g : Nat} {v : Value} {es : List Ent} (h : OBag w lo v es) (hv : v.ownBlock = some g) : ∃ cap, v = .slice (some ⟨g, 0, none⟩) es.length cap ∧ OB w lo g cap es := by
  rcases h.1.2 with ⟨rfl, _⟩ | ⟨g', cap, cur, rfl, _⟩
  · cases hv
  · have e : g' = g := Option.some.inj hv
    subst e
    exact ⟨cap, rfl, h⟩
theorem OB.parts {w : World} {lo g cap : Nat} {es : List Ent} (h : OB w lo g cap es) : ∃ cur : Array Value, lo ≤ g ∧ w.heap[g]? = some (.cells cur 34 (0, 0)) ∧ es.length ≤ cap ∧ cap ≤ maxLen ∧ cur.size = cap * 2 ∧ cur.toList.take (es.length * 2) = entCells es := by
  rcases h.1.2 with ⟨hv, _⟩ | ⟨g', cap', cur, hv, h2, h3, h4, h5, h6, h7⟩
  · cases hv
  · injection hv with h8 _ h10
    injection h8 with h8
    injection h8 with h8 _ _
    subst h8 h10
    exact ⟨cur, h2, h3, h4, h5, h6, h7⟩
/-- The first k of the counts, in place. -/
theorem OB.take {w : World} {lo g cap : Nat} {es : List Ent} (h : OB w lo g cap es) {k : Nat} (hk : k ≤ es.length) : w.ownsRow lo 34 2 (.slice (some ⟨g, 0, none⟩) k cap) k (entCells (es.take k)) := by
  obtain ⟨cur, h2, h3, h4, h5, h6, h7⟩ := h.parts
  refine ⟨by rw [entCells_length]; simp; omega, .inr ⟨g, cap, cur, rfl, h2, h3, by omega, h5, h6, ?_⟩⟩
  rw [← entCells_take es k hk, ← h7, List.take_take, Nat.min_eq_left (by omega)]
theorem OB.reads {w : World} {lo g cap : Nat} {es : List Ent} (h : OB w lo g cap es) : Reads w (g + 1) 2 (some ⟨g, 0, none⟩) es.length (entCells es) := by
  have := Reads.of_own h.1
  refine ⟨this.1, fun hn => ?_⟩
  obtain ⟨ad, e, _, hc⟩ := this.2 hn
  injection e with e
  subst e
  exact ⟨_, rfl, Nat.lt_succ_self _, hc⟩
/-- The counts from place k on. -/
theorem OB.readsFrom {w : World} {lo g cap : Nat} {es : List Ent} (h : OB w lo g cap es) {k : Nat} (hk : k ≤ es.length) : Reads w (g + 1) 2 (if cap = k then some ⟨g, 0, none⟩ else some ⟨g, k * 2, none⟩) (es.length - k) (entCells (es.drop k)) := by
  obtain ⟨_, _, _, h4, _⟩ := h.parts
  have := h.reads.cut hk h4
  have e : Addr.add ⟨g, 0, none⟩ (k * 2) = ⟨g, k * 2, none⟩ := by unfold Addr.add; split <;> simp_all
  rw [entCells_drop es k hk, Option.map_some, e] at this
  exact this
theorem OB.blk {w : World} {lo g cap : Nat} {es : List Ent} (h : OB w lo g cap es) : ∃ cur : Array Value, Blk w g 34 cur ∧ ∀ i, i < es.length * 2 → cur[i]? = (entCells es)[i]? := by
  obtain ⟨cur, h2, h3, h4, h5, h6, h7⟩ := h.parts
  refine ⟨cur, h3, fun i hi => ?_⟩
  rw [← h7, List.getElem?_take, if_pos hi, Array.getElem?_toList]
theorem OB.lt {w : World} {lo g cap : Nat} {es : List Ent} (h : OB w lo g cap es) : lo ≤ g ∧ g < w.heap.size := h.1.lt g rfl

theorem entCells_setN : ∀ (es : List Ent) (k : Nat) (h : k < es.length) (m : Int), entCells (es.set k { es[k] with n := m }) = (entCells es).set (k * 2 + 1) (.int .i64 m)
  | e :: es, 0, _, _ => by simp [entCells, Ent.cells]
  | e :: es, k + 1, h, m => by
    have := entCells_setN es k (by simpa using h) m
    rw [show (k + 1) * 2 + 1 = k * 2 + 1 + 2 by omega]
    simpa [entCells, Ent.cells] using this
theorem mem_setN {es : List Ent} {k : Nat} {h : k < es.length} {m : Int} {e : Ent} (he : e ∈ es.set k { es[k] with n := m }) : ∃ f ∈ es, f.r = e.r ∧ f.A = e.A ∧ f.g = e.g := by
  rcases List.mem_or_eq_of_mem_set he with h1 | h1
  · exact ⟨e, h1, rfl, rfl, rfl⟩
  · subst h1; exact ⟨es[k], List.getElem_mem h, rfl, rfl, rfl⟩
/-- The number of the count at place k set anew. -/
theorem OB.setN {w : World} {lo g cap : Nat} {es : List Ent} (h : OB w lo g cap es) {k : Nat} (hk : k < es.length) (m : Int) : OB (w.setCell ⟨g, k * 2 + 1, none⟩ (.int .i64 m)) lo g cap (es.set k { es[k] with n := m }) := by
  obtain ⟨cur, h2, h3, h4, h5, h6, h7⟩ := h.parts
  refine ⟨⟨by rw [entCells_length], .inr ⟨g, cap, cur.setIfInBounds (k * 2 + 1) (.int .i64 m), by rw [List.length_set], h2, Blk.set_ (t := 34) h3 _ _, by rw [List.length_set]; exact h4, h5, by simpa using h6, ?_⟩⟩, fun e he => ?_, ?_⟩
  · rw [entCells_setN es k hk, ← h7, List.length_set, Array.toList_setIfInBounds, List.take_set]
  · obtain ⟨f, hf, e1, e2, e3⟩ := mem_setN he
    obtain ⟨h8, h9⟩ := h.2.1 f hf
    rw [e1, e2, e3] at h8
    rw [e1, e3] at h9
    refine ⟨h8.keepB fun hn => ?_, h9⟩
    exact Below.heap_setCell w ⟨g, k * 2 + 1, none⟩ _ _ (fun e => (h9 hn).2 (by rw [e]; rfl))
  · have hp := h.2.2
    rw [List.pairwise_iff_getElem] at hp ⊢
    intro i j hi hj hij
    rw [List.length_set] at hi hj
    have key : ∀ i (hi : i < es.length) (hi' : i < (es.set k { es[k] with n := m }).length), (es.set k { es[k] with n := m })[i].r = es[i].r ∧ (es.set k { es[k] with n := m })[i].g = es[i].g := by
      intro i hi hi'
      rw [List.getElem_set]
      split
      · rename_i h; subst h; exact ⟨rfl, rfl⟩
      · exact ⟨rfl, rfl⟩
    rw [(key i hi _).1, (key i hi _).2, (key j hj _).1, (key j hj _).2]
    exact hp i j hi hj hij
theorem pair_setN {es : List Ent} {k : Nat} (hk : k < es.length) (m : Int) : (es.set k { es[k] with n := m }).map Ent.pair = (es.map Ent.pair).take k ++ (rx (es.map Ent.pair) k, m) :: (es.map Ent.pair).drop (k + 1) := by
  rw [rx_map hk, List.set_eq_take_append_cons_drop, if_pos hk]
  simp [Ent.pair]

/-- Counts left out, the rest where they stand or moved: behind an append to the block itself. -/
theorem OBag.regrow {w w' : World} {lo : Nat} {v v' : Value} {es es' : List Ent} (h : OBag w lo v es) (hsub : es'.Sublist es) (hg : w.grownBy w' v.ownBlock) (hown : w'.ownsRow lo 34 2 v' es'.length (entCells es')) (hat : v'.ownBlock = v.ownBlock ∨ v'.ownBlock = some w.heap.size) : OBag w' lo v' es' := by
  refine ⟨hown, fun e he => ?_, h.2.2.sublist hsub⟩
  obtain ⟨h1, h2⟩ := h.2.1 e (hsub.subset he)
  refine ⟨h1.kept hg fun hn => (h2 hn).2, fun hn => ⟨(h2 hn).1, fun e1 => ?_⟩⟩
  rcases hat with ha | ha
  · exact (h2 hn).2 (by rw [e1, ha])
  · rw [ha] at e1; injection e1 with e1; have := h1.lt hn; omega
/-- A count put between, behind two appends: to the cut block, and of what stood from there on. -/
theorem OB.insert {w9 wa w6 : World} {lo g cap k n9 : Nat} {es : List Ent} {row : List Int} {n : Int} {A9 : Option Addr} {cap9 g9 : Nat} {o : Obj} {va v6 : Value} (hO9 : OB w9 lo g cap es) (hk : k ≤ es.length) (hR9 : Row w9 2 A9 row g9) (h9 : n9 ≤ g9) (hg9 : g < n9) (hes : ∀ e ∈ es, 0 < e.r.length → e.g < n9)
    (hgA : (w9.alloc o).grownBy wa (some g)) (hatA : va.ownBlock = some g ∨ va.ownBlock = some (w9.alloc o).heap.size) (hg6 : wa.grownBy w6 va.ownBlock) (hat6 : v6.ownBlock = va.ownBlock ∨ v6.ownBlock = some wa.heap.size)
    (hown6 : w6.ownsRow lo 34 2 v6 (k + 1 + (es.length - k)) (entCells (es.take k) ++ [.slice A9 row.length cap9, .int .i64 n] ++ entCells (es.drop k))) :
    ∃ g6 cap6, v6 = .slice (some ⟨g6, 0, none⟩) (es.take k ++ (⟨row, n, A9, cap9, g9⟩ : Ent) :: es.drop k).length cap6 ∧ OB w6 lo g6 cap6 (es.take k ++ (⟨row, n, A9, cap9, g9⟩ : Ent) :: es.drop k) := by
  have hlo := hO9.lt
  have hsz : (w9.alloc o).heap.size = w9.heap.size + 1 := World.size_alloc _ _
  have hsA := hgA.size
  have hown : ∀ b, b < w9.heap.size → b ≠ g → some b ≠ va.ownBlock ∧ some b ≠ v6.ownBlock := by
    intro b hb hne
    have h1 : some b ≠ va.ownBlock := by
      intro e
      rcases hatA with h | h <;> rw [h] at e <;> injection e with e <;> omega
    refine ⟨h1, fun e => ?_⟩
    rcases hat6 with h | h
    · exact h1 (e.trans h)
    · rw [h] at e; injection e with e; omega
  have keep : ∀ (A : Option Addr) (r : List Int) (b : Nat), Row w9 2 A r b → (0 < r.length → b ≠ g) → Row w6 2 A r b := by
    intro A r b hR hne
    have h1 : Row (w9.alloc o) 2 A r b := hR.on ((Below.refl w9.heap.size w9).alloc (Nat.le_refl _) o)
    have h2 := h1.kept hgA fun hn e => hne hn (Option.some.inj e)
    exact h2.kept hg6 fun hn => (hown b (hR.lt hn) (hne hn)).1
  have hlen : (es.take k ++ (⟨row, n, A9, cap9, g9⟩ : Ent) :: es.drop k).length = k + 1 + (es.length - k) := by simp; omega
  have hcells : entCells (es.take k ++ (⟨row, n, A9, cap9, g9⟩ : Ent) :: es.drop k) = entCells (es.take k) ++ [.slice A9 row.length cap9, .int .i64 n] ++ entCells (es.drop k) := by
    rw [entCells_append, entCells]; simp [Ent.cells]
  have hO6 : OBag w6 lo v6 (es.take k ++ (⟨row, n, A9, cap9, g9⟩ : Ent) :: es.drop k) := by
    refine ⟨by rw [hlen, hcells]; exact hown6, fun e he => ?_, ?_⟩
    · have hmem : e ∈ es ∨ e = ⟨row, n, A9, cap9, g9⟩ := by
        rcases List.mem_append.1 he with h | h
        · exact .inl (List.mem_of_mem_take h)
        · rcases List.mem_cons.1 h with h | h
          · exact .inr h
          · exact .inl (List.mem_of_mem_drop h)
      rcases hmem with h | h
      · obtain ⟨h1, h2⟩ := hO9.2.1 e h
        have hne : 0 < e.r.length → e.g ≠ g := fun hn e1 => (h2 hn).2 (by rw [e1]; rfl)
        exact ⟨keep _ _ _ h1 hne, fun hn => ⟨(h2 hn).1, (hown _ (h1.lt hn) (hne hn)).2⟩⟩
      · subst h
        have hne : 0 < row.length → g9 ≠ g := fun _ => by omega
        exact ⟨keep _ _ _ hR9 hne, fun hn => ⟨by have := hlo.1; show lo ≤ g9; omega, (hown _ (hR9.lt hn) (hne hn)).2⟩⟩
    · have hperm : (es.take k ++ (⟨row, n, A9, cap9, g9⟩ : Ent) :: es.drop k).Perm ((⟨row, n, A9, cap9, g9⟩ : Ent) :: es) := by
        have := List.perm_middle (a := (⟨row, n, A9, cap9, g9⟩ : Ent)) (l₁ := es.take k) (l₂ := es.drop k)
        rwa [List.take_append_drop] at this
      refine (hperm.pairwise_iff (fun hab hn hn' e => hab hn' hn e.symm)).2 (List.pairwise_cons.2 ⟨fun b hb _ hn' => ?_, hO9.2.2⟩)
      have := hes b hb hn'
      show g9 ≠ b.g
      omega
  have hv : ∃ g6, v6.ownBlock = some g6 := by
    rcases hat6 with h | h
    · rcases hatA with h' | h'
      · exact ⟨_, h.trans h'⟩
      · exact ⟨_, h.trans h'⟩
    · exact ⟨_, h⟩
  obtain ⟨g6, hg6'⟩ := hv
  obtain ⟨cap6, hv6, hOB⟩ := hO6.ob hg6'
  exact ⟨g6, cap6, hv6, hOB⟩
end Go.Proofs.Ytoncfodlffofdaa
