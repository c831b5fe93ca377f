/- Rows of the call's own that begin a block: cut, left out, put between. No condition; of the program only the types of rows and numbers are named. -/
import Derived.Test.YtoncfodlffofdaaTab0
import Derived.Test.YtoncfodlffofdaaApp
namespace Go.Proofs.Ytoncfodlffofdaa
open Go.RowKit

/-- The same, not nil: the counts begin block g. -/
def OR (w : World) (lo g cap : Nat) (es : List Ent) : Prop := ORows w lo (.slice (some ⟨g, 0, none⟩) es.length cap) es
theorem OR.lt {w : World} {lo g cap : Nat} {es : List Ent} (h : OR w lo g cap es) : lo ≤ g ∧ g < w.heap.size := h.1.lt g rfl
theorem ORows.orr {w : World} {lo g : Nat} {v : Value} {es : List Ent} (h : ORows w lo v es) (hv : v.ownBlock = some g) : ∃ cap, v = .slice (some ⟨g, 0, none⟩) es.length cap ∧ OR w lo g cap es := by
  rcases h.1.2 with ⟨rfl, _⟩ | ⟨g', cap, cur, rfl, _⟩
  · cases hv
  · have e : g' = g := Option.some.inj hv
    subst e
    exact ⟨cap, rfl, h⟩
theorem OR.parts {w : World} {lo g cap : Nat} {es : List Ent} (h : OR w lo g cap es) : ∃ cur : Array Value, lo ≤ g ∧ w.heap[g]? = some (.cells cur 25 (0, 0)) ∧ es.length ≤ cap ∧ cap ≤ maxLen ∧ cur.size = cap * 1 ∧ cur.toList.take (es.length * 1) = rowCs es := by
  rcases h.1.2 with ⟨hv, _⟩ | ⟨g', cap', cur, hv, h2, h3, h4, h5, h6, h7⟩
  · cases hv
  · injection hv with h8 _ h10
    injection h8 with h8
    injection h8 with h8 _ _
    subst h8 h10
    exact ⟨cur, h2, h3, h4, h5, h6, h7⟩
/-- The first k of the counts, in place. -/
theorem OR.take {w : World} {lo g cap : Nat} {es : List Ent} (h : OR w lo g cap es) {k : Nat} (hk : k ≤ es.length) : w.ownsRow lo 25 1 (.slice (some ⟨g, 0, none⟩) k cap) k (rowCs (es.take k)) := by
  obtain ⟨cur, h2, h3, h4, h5, h6, h7⟩ := h.parts
  refine ⟨by rw [rowCs_length]; simp; omega, .inr ⟨g, cap, cur, rfl, h2, h3, by omega, h5, h6, ?_⟩⟩
  rw [← rowCs_take es k, ← h7, List.take_take, Nat.min_eq_left (by omega), Nat.mul_one]
theorem OR.reads {w : World} {lo g cap : Nat} {es : List Ent} (h : OR w lo g cap es) : Reads w (g + 1) 1 (some ⟨g, 0, none⟩) es.length (rowCs es) := by
  have := Reads.of_own h.1
  refine ⟨this.1, fun hn => ?_⟩
  obtain ⟨ad, e, _, hc⟩ := this.2 hn
  injection e with e
  subst e
  exact ⟨_, rfl, Nat.lt_succ_self _, hc⟩
/-- The counts from place k on. -/
theorem OR.readsFrom {w : World} {lo g cap : Nat} {es : List Ent} (h : OR w lo g cap es) {k : Nat} (hk : k ≤ es.length) : Reads w (g + 1) 1 (if cap = k then some ⟨g, 0, none⟩ else some ⟨g, k, none⟩) (es.length - k) (rowCs (es.drop k)) := by
  obtain ⟨_, _, _, h4, _⟩ := h.parts
  have := h.reads.cut hk h4
  have e : Addr.add ⟨g, 0, none⟩ k = ⟨g, k, none⟩ := by unfold Addr.add; split <;> simp_all
  rw [Nat.mul_one, rowCs_drop es k, Option.map_some, e] at this
  exact this
/-- Counts left out, the rest where they stand or moved: behind an append to the block itself. -/
theorem ORows.regrow {w w' : World} {lo : Nat} {v v' : Value} {es es' : List Ent} (h : ORows w lo v es) (hsub : es'.Sublist es) (hg : w.grownBy w' v.ownBlock) (hown : w'.ownsRow lo 25 1 v' es'.length (rowCs es')) (hat : v'.ownBlock = v.ownBlock ∨ v'.ownBlock = some w.heap.size) : ORows w' lo v' es' := by
  refine ⟨hown, fun e he => ?_, h.2.2.sublist hsub⟩
  obtain ⟨h1, h2⟩ := h.2.1 e (hsub.subset he)
  refine ⟨h1.kept hg fun hn => (h2 hn).2, fun hn => ⟨(h2 hn).1, fun e1 => ?_⟩⟩
  rcases hat with ha | ha
  · exact (h2 hn).2 (by rw [e1, ha])
  · rw [ha] at e1; injection e1 with e1; have := h1.lt hn; omega
/-- A count put between, behind two appends: to the cut block, and of what stood from there on. -/
theorem OR.insert {w9 wa w6 : World} {lo g cap k n9 : Nat} {es : List Ent} {row : List Int} {A9 : Option Addr} {cap9 g9 : Nat} {o : Obj} {va v6 : Value} (hO9 : OR w9 lo g cap es) (hk : k ≤ es.length) (hR9 : Row w9 2 A9 row g9) (h9 : n9 ≤ g9) (hg9 : g < n9) (hes : ∀ e ∈ es, 0 < e.r.length → e.g < n9)
    (hgA : (w9.alloc o).grownBy wa (some g)) (hatA : va.ownBlock = some g ∨ va.ownBlock = some (w9.alloc o).heap.size) (hg6 : wa.grownBy w6 va.ownBlock) (hat6 : v6.ownBlock = va.ownBlock ∨ v6.ownBlock = some wa.heap.size)
    (hown6 : w6.ownsRow lo 25 1 v6 (k + 1 + (es.length - k)) (rowCs (es.take k) ++ [.slice A9 row.length cap9] ++ rowCs (es.drop k))) :
    ∃ g6 cap6, v6 = .slice (some ⟨g6, 0, none⟩) (es.take k ++ (⟨row, 0, A9, cap9, g9⟩ : Ent) :: es.drop k).length cap6 ∧ OR w6 lo g6 cap6 (es.take k ++ (⟨row, 0, A9, cap9, g9⟩ : Ent) :: es.drop k) := by
  have hlo := hO9.lt
  have hsz : (w9.alloc o).heap.size = w9.heap.size + 1 := World.size_alloc _ _
  have hsA := hgA.size
  have hown : ∀ b, b < w9.heap.size → b ≠ g → some b ≠ va.ownBlock ∧ some b ≠ v6.ownBlock := by
    intro b hb hne
    have h1 : some b ≠ va.ownBlock := by
      intro e
      rcases hatA with h | h <;> rw [h] at e <;> injection e with e <;> omega
    refine ⟨h1, fun e => ?_⟩
    rcases hat6 with h | h
    · exact h1 (e.trans h)
    · rw [h] at e; injection e with e; omega
  have keep : ∀ (A : Option Addr) (r : List Int) (b : Nat), Row w9 2 A r b → (0 < r.length → b ≠ g) → Row w6 2 A r b := by
    intro A r b hR hne
    have h1 : Row (w9.alloc o) 2 A r b := hR.on ((Below.refl w9.heap.size w9).alloc (Nat.le_refl _) o)
    have h2 := h1.kept hgA fun hn e => hne hn (Option.some.inj e)
    exact h2.kept hg6 fun hn => (hown b (hR.lt hn) (hne hn)).1
  have hlen : (es.take k ++ (⟨row, 0, A9, cap9, g9⟩ : Ent) :: es.drop k).length = k + 1 + (es.length - k) := by simp; omega
  have hcells : rowCs (es.take k ++ (⟨row, 0, A9, cap9, g9⟩ : Ent) :: es.drop k) = rowCs (es.take k) ++ [.slice A9 row.length cap9] ++ rowCs (es.drop k) := by
    rw [rowCs_append]; simp [rowCs]
  have hO6 : ORows w6 lo v6 (es.take k ++ (⟨row, 0, A9, cap9, g9⟩ : Ent) :: es.drop k) := by
    refine ⟨by rw [hlen, hcells]; exact hown6, fun e he => ?_, ?_⟩
    · have hmem : e ∈ es ∨ e = ⟨row, 0, A9, cap9, g9⟩ := by
        rcases List.mem_append.1 he with h | h
        · exact .inl (List.mem_of_mem_take h)
        · rcases List.mem_cons.1 h with h | h
          · exact .inr h
          · exact .inl (List.mem_of_mem_drop h)
      rcases hmem with h | h
      · obtain ⟨h1, h2⟩ := hO9.2.1 e h
        have hne : 0 < e.r.length → e.g ≠ g := fun hn e1 => (h2 hn).2 (by rw [e1]; rfl)
        exact ⟨keep _ _ _ h1 hne, fun hn => ⟨(h2 hn).1, (hown _ (h1.lt hn) (hne hn)).2⟩⟩
      · subst h
        have hne : 0 < row.length → g9 ≠ g := fun _ => by omega
        exact ⟨keep _ _ _ hR9 hne, fun hn => ⟨by have := hlo.1; show lo ≤ g9; omega, (hown _ (hR9.lt hn) (hne hn)).2⟩⟩
    · have hperm : (es.take k ++ (⟨row, 0, A9, cap9, g9⟩ : Ent) :: es.drop k).Perm ((⟨row, 0, A9, cap9, g9⟩ : Ent) :: es) := by
        have := List.perm_middle (a := (⟨row, 0, A9, cap9, g9⟩ : Ent)) (l₁ := es.take k) (l₂ := es.drop k)
        rwa [List.take_append_drop] at this
      refine (hperm.pairwise_iff (fun hab hn hn' e => hab hn' hn e.symm)).2 (List.pairwise_cons.2 ⟨fun b hb _ hn' => ?_, hO9.2.2⟩)
      have := hes b hb hn'
      show g9 ≠ b.g
      omega
  have hv : ∃ g6, v6.ownBlock = some g6 := by
    rcases hat6 with h | h
    · rcases hatA with h' | h'
      · exact ⟨_, h.trans h'⟩
      · exact ⟨_, h.trans h'⟩
    · exact ⟨_, h⟩
  obtain ⟨g6, hg6'⟩ := hv
  obtain ⟨cap6, hv6, hOB⟩ := hO6.orr hg6'
  exact ⟨g6, cap6, hv6, hOB⟩
theorem ORows.far {w : World} {lo : Nat} {v : Value} {es : List Ent} (h : ORows w lo v es) (p : Addr) (u : Value) (hv : v.ownBlock ≠ some p.block) (hr : ∀ e ∈ es, 0 < e.r.length → e.g ≠ p.block) : ORows (w.setCell p u) lo v es := by
  refine ⟨own_keepB h.1 fun g hg => Below.heap_setCell w p u g (fun e => hv (by rw [hg, e])), fun e he => ?_, h.2.2⟩
  obtain ⟨h1, h2⟩ := h.2.1 e he
  exact ⟨h1.keepB fun hn => Below.heap_setCell w p u e.g (hr e he hn), h2⟩
theorem ORows.cases {w : World} {lo n c : Nat} {A : Option Addr} {es : List Ent} (h : ORows w lo (.slice A n c) es) : (A = none ∧ c = 0 ∧ es = []) ∨ ∃ g, A = some ⟨g, 0, none⟩ ∧ OR w lo g c es := by
  rcases h.1.2 with ⟨hv, h0⟩ | ⟨g, cap, cur, hv, _⟩
  · injection hv with h1 h2 h3
    exact .inl ⟨h1, h3, List.length_eq_zero_iff.1 (by omega)⟩
  · injection hv with h1 h2 h3
    subst h1 h2 h3
    exact .inr ⟨g, rfl, h⟩
theorem ORows.at0 {w : World} {lo : Nat} {v : Value} {es : List Ent} (h : ORows w lo v es) (hn : 0 < es.length) : ∃ g cap, v = .slice (some ⟨g, 0, none⟩) es.length cap ∧ OR w lo g cap es := by
  rcases h.1.2 with ⟨rfl, h0⟩ | ⟨g, cap, cur, rfl, _⟩
  · omega
  · exact ⟨g, cap, rfl, h⟩
end Go.Proofs.Ytoncfodlffofdaa
