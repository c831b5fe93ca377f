/- The marks by which a law tells whose memory a bag is: contracts of markCountS and heldCountS over own bags; what the marking leaves alone. For bags and rows of at most 2^21. -/
import Derived.Test.YtoncfodlffofdaaBag6
namespace Go.Proofs.Ytoncfodlffofdaa
open Go.RowKit

/-- Only blocks from lo to hi have turned. -/
structure Within (lo hi : Nat) (w w' : World) : Prop where
  os : w'.os = w.os
  tape : w'.tape = w.tape
  output : w'.output = w.output
  size : w.heap.size ≤ w'.heap.size
  block : ∀ b, b < w.heap.size → ¬ (lo ≤ b ∧ b < hi) → w'.heap[b]? = w.heap[b]?
theorem Within.refl (lo hi : Nat) (w : World) : Within lo hi w w := ⟨rfl, rfl, rfl, Nat.le_refl _, fun _ _ _ => rfl⟩
theorem Within.trans {lo hi : Nat} {a b c : World} (h : Within lo hi a b) (k : Within lo hi b c) : Within lo hi a c :=
  ⟨k.os.trans h.os, k.tape.trans h.tape, k.output.trans h.output, Nat.le_trans h.size k.size, fun i hi hn => (k.block i (Nat.lt_of_lt_of_le hi h.size) hn).trans (h.block i hi hn)⟩
theorem Within.of_grown {lo hi g : Nat} {w w' : World} (h : w.grownBy w' (some g)) (hg : (lo ≤ g ∧ g < hi) ∨ w.heap.size ≤ g) : Within lo hi w w' :=
  ⟨h.os, h.tape, h.output, h.size, fun b hb hn => h.block b hb (fun e => by injection e with e; subst e; rcases hg with hg | hg; exact hn hg; omega)⟩
theorem Within.setCell {lo hi : Nat} {w w' : World} (h : Within lo hi w w') {p : Addr} (hp : lo ≤ p.block ∧ p.block < hi) (v : Value) : Within lo hi w (w'.setCell p v) :=
  ⟨h.os, h.tape, h.output, by simpa [World.setCell] using h.size, fun b hb hn => (Below.heap_setCell w' p v b (fun e => hn (by rw [e]; exact hp))).trans (h.block b hb hn)⟩
theorem Within.bel {lo hi : Nat} {w w' : World} (h : Within lo hi w w') (hlo : lo ≤ w.heap.size) : Below lo w w' := ⟨h.os, h.tape, h.output, h.size, fun b hb => h.block b (by omega) (by omega)⟩
theorem Within.wide {lo hi lo' hi' : Nat} {w w' : World} (h : Within lo hi w w') (h1 : lo' ≤ lo) (h2 : hi ≤ hi') : Within lo' hi' w w' := ⟨h.os, h.tape, h.output, h.size, fun b hb hn => h.block b hb (by omega)⟩

/-- An own bag that lies between lo and hi. -/
def OIn (w : World) (lo hi : Nat) (v : Value) (es : List Ent) : Prop := OBag w lo v es ∧ Inside hi v es ∧ hi ≤ w.heap.size
theorem OBag.oin {w : World} {lo : Nat} {v : Value} {es : List Ent} (h : OBag w lo v es) : OIn w lo w.heap.size v es := ⟨h, h.inside, Nat.le_refl _⟩
theorem OIn.on {w w' : World} {lo hi : Nat} {v : Value} {es : List Ent} (h : OIn w lo hi v es) (hb : Below w.heap.size w w') : OIn w' lo hi v es := ⟨h.1.on hb, h.2.1, Nat.le_trans h.2.2 hb.size⟩
theorem OIn.within {w w' : World} {lo hi lo' hi' : Nat} {v : Value} {es : List Ent} (h : OIn w lo hi v es) (hw : Within lo' hi' w w') (ha : hi ≤ lo' ∨ hi' ≤ lo) : OIn w' lo hi v es :=
  ⟨h.1.keep h.2.1 fun b h1 h2 => hw.block b (by have := h.2.2; omega) (by omega), h.2.1, Nat.le_trans h.2.2 hw.size⟩
theorem Blk.within {w w' : World} {g lo hi : Nat} {t : TypeId} {cs : Array Value} (h : Blk w g t cs) (hw : Within lo hi w w') (ha : g < lo ∨ hi ≤ g) : Blk w' g t cs := (hw.block g h.lt (by omega)).trans h
theorem OBag.formW {w : World} {lo : Nat} {v : Value} {es : List Ent} {W : List (List Int × Int)} (h : OBag w lo v es) (he : es.map Ent.pair = W) : ∃ A cap, v = .slice A W.length cap := by
  obtain ⟨A, cap, rfl⟩ := h.form
  exact ⟨A, cap, by rw [← he, List.length_map]⟩
theorem OBag.len {w : World} {lo n c : Nat} {A : Option Addr} {es : List Ent} (h : OBag w lo (.slice A n c) es) : n = es.length := by
  obtain ⟨A', cap, e⟩ := h.form
  injection e
theorem OBag.bagW {w : World} {lo n c : Nat} {A : Option Addr} {es : List Ent} {W : List (List Int × Int)} (h : OBag w lo (.slice A n c) es) (he : es.map Ent.pair = W) (hl : ∀ j, j < W.length → (rx W j).length ≤ 1099511627776) : Bag w w.heap.size A W := by
  have hle : ∀ e ∈ es, e.r.length ≤ 1099511627776 := by
    intro e hm
    obtain ⟨j, hj, rfl⟩ := List.getElem_of_mem hm
    have := hl j (by rw [← he]; simpa using hj)
    rwa [← he, rx_map hj] at this
  rw [← he]; exact OBag.bag h hle

/-- The laws' copy of a bag is an own bag. -/
theorem copied_own {w w' : World} {bag : List (List Int × Int)} (h : Copied w w.heap.size bag bag.length w') (hm : bag.length ≤ maxLen) : ∃ es, OBag w' w.heap.size (.slice (some ⟨w.heap.size, 0, none⟩) bag.length bag.length) es ∧ es.map Ent.pair = bag := by
  obtain ⟨cells, gs, hBk, hs, _, hC, hN⟩ := h
  have hlen : ((List.range bag.length).map fun j => (⟨rx bag j, nx bag j, some ⟨gs j, 0, none⟩, (rx bag j).length, gs j⟩ : Ent)).length = bag.length := by simp
  have hget : ∀ j (h : j < ((List.range bag.length).map fun j => (⟨rx bag j, nx bag j, some ⟨gs j, 0, none⟩, (rx bag j).length, gs j⟩ : Ent)).length), ((List.range bag.length).map fun j => (⟨rx bag j, nx bag j, some ⟨gs j, 0, none⟩, (rx bag j).length, gs j⟩ : Ent))[j] = ⟨rx bag j, nx bag j, some ⟨gs j, 0, none⟩, (rx bag j).length, gs j⟩ := by
    intro j h; simp
  generalize hes : ((List.range bag.length).map fun j => (⟨rx bag j, nx bag j, some ⟨gs j, 0, none⟩, (rx bag j).length, gs j⟩ : Ent)) = es at hlen hget
  clear hes
  refine ⟨es, ⟨?_, fun e he => ?_, ?_⟩, ?_⟩
  · refine ⟨entCells_length _, .inr ⟨w.heap.size, bag.length, cells, by rw [hlen], Nat.le_refl _, hBk, by omega, hm, hs, ?_⟩⟩
    rw [hlen, List.take_of_length_le (by simp [hs])]
    apply List.ext_getElem?
    intro i
    by_cases hi : i < bag.length * 2
    · obtain ⟨j, hj | hj⟩ : ∃ j, i = j * 2 ∨ i = j * 2 + 1 := ⟨i / 2, by omega⟩
      · have hjl : j < es.length := by omega
        rw [hj, entCells_get0 es j hjl, hget j hjl, Array.getElem?_toList, (hC j (by omega)).1]
      · have hjl : j < es.length := by omega
        rw [hj, entCells_get1 es j hjl, hget j hjl, Array.getElem?_toList, (hC j (by omega)).2.1]
    · rw [List.getElem?_eq_none (by simp [hs]; omega), List.getElem?_eq_none (by rw [entCells_length, hlen]; omega)]
  · obtain ⟨j, hj, rfl⟩ := List.getElem_of_mem he
    rw [hget j hj]
    obtain ⟨_, _, h3, h4⟩ := hC j (by omega)
    exact ⟨Row.of_blk h3, fun _ => ⟨by show w.heap.size ≤ gs j; omega, fun e => by have : gs j = w.heap.size := Option.some.inj e; omega⟩⟩
  · rw [List.pairwise_iff_getElem]
    intro i j hi hj hij _ _
    rw [hget i hi, hget j hj]
    exact hN i j hij (by omega)
  · apply List.ext_getElem
    · simp [hlen]
    · intro j h1 h2
      rw [List.getElem_map, hget j (by simpa using h1), bag_ix h2]; rfl
theorem toCountS_own (A : Option Addr) (c : Nat) (bag : List (List Int × Int)) (w : World) (hB : Bag w w.heap.size A bag) (hl : bag.length ≤ 1099511627776) :
    Calls Try.prog 75 #[.slice A bag.length c] w fun e w' => ∃ es, e = .returned (.slice (some ⟨w.heap.size, 0, none⟩) bag.length bag.length) ∧ OBag w' w.heap.size (.slice (some ⟨w.heap.size, 0, none⟩) bag.length bag.length) es ∧ es.map Ent.pair = bag ∧ Below w.heap.size w w' :=
  (toCountS_full A c bag w hB hl).mono fun _ _ ⟨he, hC⟩ => by
    obtain ⟨es, h1, h2⟩ := copied_own hC (by simp only [maxLen]; omega)
    obtain ⟨_, _, _, _, hW, _⟩ := hC
    exact ⟨es, he, h1, h2, hW⟩

/-- The mark that the count at place i begins with. -/
def rl (es : List Ent) (i : Nat) : Nat := (es[i]?.map fun e => e.r.length).getD 0
def kAt (k : Int) (es : List Ent) : Nat → Int
  | 0 => k
  | i + 1 => kAt k es i + (rl es i : Int) + 1
theorem rl_eq {es : List Ent} {i : Nat} (h : i < es.length) : rl es i = es[i].r.length := by simp [rl, h]
theorem rl_le {es : List Ent} {m : Nat} (hm : ∀ e ∈ es, e.r.length ≤ m) (i : Nat) : rl es i ≤ m := by
  by_cases h : i < es.length
  · rw [rl_eq h]; exact hm _ (List.getElem_mem h)
  · simp [rl, List.getElem?_eq_none (Nat.le_of_not_lt h)]
theorem kAt_bd {k : Int} {es : List Ent} {m : Nat} (hm : ∀ e ∈ es, e.r.length ≤ m) (i : Nat) : k ≤ kAt k es i ∧ kAt k es i ≤ k + (i : Int) * ((m : Int) + 1) := by
  induction i with
  | zero => simp [kAt]
  | succ i ih =>
    have := rl_le hm i
    simp only [kAt]
    constructor
    · omega
    · have e : ((i + 1 : Nat) : Int) * ((m : Int) + 1) = (i : Int) * ((m : Int) + 1) + ((m : Int) + 1) := by rw [Int.natCast_add, Int.add_mul]; simp
      omega
/-- The first i counts marked. -/
def markTo (k : Int) (es : List Ent) (i : Nat) : List Ent := es.mapIdx fun j e => if j < i then { e with r := marks (kAt k es j) e.r.length, n := kAt k es j + (e.r.length : Int) } else e
theorem markTo_length (k : Int) (es : List Ent) (i : Nat) : (markTo k es i).length = es.length := by simp [markTo]
theorem markTo_get {k : Int} {es : List Ent} {i j : Nat} (h : j < es.length) (h' : j < (markTo k es i).length) : (markTo k es i)[j] = if j < i then { es[j] with r := marks (kAt k es j) es[j].r.length, n := kAt k es j + (es[j].r.length : Int) } else es[j] := by simp [markTo]
theorem markTo_zero (k : Int) (es : List Ent) : markTo k es 0 = es := by
  apply List.ext_getElem
  · simp [markTo]
  · intro j h1 h2
    rw [markTo_get h2]; simp
theorem markTo_step {k : Int} {es : List Ent} {i : Nat} (h : i < es.length) (h' : i < (markTo k es i).length) :
    markTo k es (i + 1) = ((markTo k es i).set i { (markTo k es i)[i] with r := marks (kAt k es i) es[i].r.length }).set i { es[i] with r := marks (kAt k es i) es[i].r.length, n := kAt k es i + (es[i].r.length : Int) } := by
  apply List.ext_getElem
  · simp [markTo]
  · intro j h1 h2
    have hj : j < es.length := by simpa [markTo] using h1
    rw [markTo_get hj, List.getElem_set]
    by_cases e : i = j
    · subst e; simp
    · rw [if_neg e, List.getElem_set, if_neg e, markTo_get hj (by simpa [markTo] using hj)]
      by_cases hlt : j < i
      · rw [if_pos (by omega), if_pos hlt]
      · rw [if_neg (by omega), if_neg hlt]

theorem entCells_setR : ∀ (es : List Ent) (i : Nat) (h : i < es.length) (r : List Int), r.length = es[i].r.length → entCells (es.set i { es[i] with r := r }) = entCells es
  | e :: es, 0, _, r, hr => by
    have hr' : r.length = e.r.length := hr
    simp [entCells, Ent.cells, hr']
  | e :: es, i + 1, h, r, hr => by
    have := entCells_setR es i (by simpa using h) r (by simpa using hr)
    simpa [entCells] using this
/-- A row of it written anew. -/
theorem OBag.setR {w w' : World} {lo : Nat} {v : Value} {es : List Ent} (h : OBag w lo v es) {i : Nat} (hi : i < es.length) (r : List Int) (hr : r.length = es[i].r.length) (hR : Row w' 2 es[i].A r es[i].g) (hg : 0 < es[i].r.length → w.grownBy w' (some es[i].g)) (hg0 : es[i].r.length = 0 → Below w.heap.size w w') : OBag w' lo v (es.set i { es[i] with r := r }) := by
  have hkeep : ∀ b, b < w.heap.size → (0 < es[i].r.length → b ≠ es[i].g) → w'.heap[b]? = w.heap[b]? := by
    intro b hb hne
    rcases Nat.eq_zero_or_pos es[i].r.length with h0 | h0
    · exact (hg0 h0).block b hb
    · exact (hg h0).block b hb (fun e => hne h0 (Option.some.inj e))
  obtain ⟨hRi, hni⟩ := h.2.1 es[i] (List.getElem_mem hi)
  have hpw := List.pairwise_iff_getElem.1 h.2.2
  refine ⟨?_, fun e he => ?_, ?_⟩
  · rw [entCells_setR es i hi r hr, List.length_set]
    refine own_keepB h.1 fun g hgv => hkeep g (h.1.lt g hgv).2 fun h0 e => ?_
    subst e
    exact (hni h0).2 hgv.symm
  · obtain ⟨j, hj, rfl⟩ := List.getElem_of_mem he
    have hj' : j < es.length := by simpa using hj
    rw [List.getElem_set]
    by_cases e : i = j
    · subst e
      rw [if_pos rfl]
      exact ⟨hR, fun hn => hni (by rw [← hr]; exact hn)⟩
    · rw [if_neg e]
      obtain ⟨h1, h2⟩ := h.2.1 es[j] (List.getElem_mem hj')
      refine ⟨h1.keepB fun hn => hkeep _ (h1.lt hn) fun h0 => ?_, h2⟩
      rcases Nat.lt_or_ge i j with hij | hij
      · exact (hpw i j hi hj' hij h0 hn).symm
      · exact hpw j i hj' hi (by omega) hn h0
  · rw [List.pairwise_iff_getElem]
    intro a b ha hb hab
    have key : ∀ j (hj : j < es.length) (hj' : j < (es.set i { es[i] with r := r }).length), (es.set i { es[i] with r := r })[j].r.length = es[j].r.length ∧ (es.set i { es[i] with r := r })[j].g = es[j].g := by
      intro j hj hj'
      rw [List.getElem_set]
      split
      · rename_i e; subst e; exact ⟨hr, rfl⟩
      · exact ⟨rfl, rfl⟩
    have ha' : a < es.length := by simpa using ha
    have hb' : b < es.length := by simpa using hb
    rw [(key a ha' _).1, (key a ha' _).2, (key b hb' _).1, (key b hb' _).2]
    exact hpw a b ha' hb' hab
/-- The cells of a count of it. -/
theorem OBag.cellsAt {w : World} {lo g n c : Nat} {es : List Ent} (h : OBag w lo (.slice (some ⟨g, 0, none⟩) n c) es) {i : Nat} (hi : i < es.length) :
    w.cell? ⟨g, i * 2, none⟩ = some (.slice es[i].A es[i].r.length es[i].c) ∧ w.cell? ⟨g, i * 2 + 1, none⟩ = some (.int .i64 es[i].n) ∧ w.frozen? ⟨g, i * 2 + 1, none⟩ = false := by
  have e := h.len
  subst e
  have hOB : OB w lo g c es := h
  obtain ⟨cur, hB, hc⟩ := hOB.blk
  exact ⟨by rw [hB.cell, hc _ (by omega), entCells_get0 es i hi], by rw [hB.cell, hc _ (by omega), entCells_get1 es i hi], hB.frozen _⟩
end Go.Proofs.Ytoncfodlffofdaa
