/- A bag whose counts lie in memory of the call's own while its rows are still shared: words and laws; how it grows by a count, and by a whole bag; how it reads. No condition; of the program only the types of counts and numbers are named. -/
import Derived.Test.YtedbjjhkjkpnkaaBagI2
namespace Go.Proofs.Ytedbjjhkjkpnkaa
open Go.RowKit

/-- The counts es stand in v, a row of the call's own (blocks from lo on); their rows lie below lo. -/
def ABag (w : World) (lo : Nat) (v : Value) (es : List Ent) : Prop :=
  w.ownsRow lo 63 2 v es.length (entCells es) ∧ ∀ e ∈ es, Ints w lo e.A e.r ∧ e.r.length ≤ 1099511627776
theorem ABag.below {w w' : World} {lo : Nat} {v : Value} {es : List Ent} (h : ABag w lo v es) (hb : Below w.heap.size w w') (hlo : lo ≤ w.heap.size) : ABag w' lo v es :=
  ⟨own_keepB h.1 fun g hg => hb.block g (h.1.lt g hg).2, fun e he => ⟨(h.2 e he).1.below (hb.mono hlo), (h.2 e he).2⟩⟩
theorem ABag.drewN {w : World} {lo : Nat} {v : Value} {es : List Ent} (h : ABag w lo v es) (n : Nat) : ABag (w.drewN n) lo v es := h
theorem ABag.nil {w : World} {lo : Nat} {v : Value} (h : w.ownsRow lo 63 2 v 0 []) : ABag w lo v [] := ⟨h, fun e he => by cases he⟩
theorem ABag.grow {w w' : World} {lo n : Nat} {v v' : Value} {es fs : List Ent} {xs : List Value} (h : ABag w lo v es) (hlo : lo ≤ w.heap.size) (hg : w.grownBy w' v.ownBlock) (hn : n = (es ++ fs).length) (hx : xs = entCells (es ++ fs))
    (hown : w'.ownsRow lo 63 2 v' n xs) (hf : ∀ e ∈ fs, Ints w lo e.A e.r ∧ e.r.length ≤ 1099511627776) : ABag w' lo v' (es ++ fs) := by
  subst hn hx
  have hb : Below lo w w' := (Below.refl lo w).grown hg hlo (fun g e => (h.1.lt g e).1)
  refine ⟨hown, fun e he => ?_⟩
  rcases List.mem_append.1 he with he | he
  · exact ⟨(h.2 e he).1.below hb, (h.2 e he).2⟩
  · exact ⟨(hf e he).1.below hb, (hf e he).2⟩
theorem ABag.form {w : World} {lo : Nat} {v : Value} {es : List Ent} (h : ABag w lo v es) : ∃ A cap, v = .slice A es.length cap := own_form h.1
/-- It reads as its bag. -/
theorem ABag.bag {w : World} {lo : Nat} {A : Option Addr} {cap : Nat} {es : List Ent} {n : Nat} (h : ABag w lo (.slice A n cap) es) (hlo : lo ≤ w.heap.size) : Bag w w.heap.size A (es.map Ent.pair) := fun hn => by
  simp only [List.length_map] at hn
  rcases h.1.2 with ⟨_, h0⟩ | ⟨g, cap', cur, hv, hg, hh, _, _, hs, ht⟩
  · omega
  · injection hv with hv _ _
    subst hv
    have hlt := Blk.lt (t := 63) (cs := cur) hh
    refine ⟨g, 0, rfl, hlt, fun j hj => ?_⟩
    simp only [List.length_map] at hj
    have e0 : ∀ i, i < es.length * 2 → w.cell? ⟨g, 0 + i, none⟩ = (entCells es)[i]? := by
      intro i hi
      rw [Nat.zero_add, Blk.cell (t := 63) (cs := cur) hh i, ← ht, List.getElem?_take, if_pos hi, Array.getElem?_toList]
    obtain ⟨h1, h2⟩ := h.2 es[j] (List.getElem_mem hj)
    rw [rx_map hj, nx_map hj]
    refine ⟨es[j].A, es[j].c, ?_, ?_, h1.more hlo, h2⟩
    · rw [e0 (j * 2) (by omega), entCells_get0 es j hj]
    · rw [show 0 + j * 2 + 1 = 0 + (j * 2 + 1) by omega, e0 (j * 2 + 1) (by omega), entCells_get1 es j hj]
/-- A bag that came in, count by count. -/
theorem add_plain' (b off k : Nat) : Addr.add ⟨b, off, none⟩ k = ⟨b, off + k, none⟩ := by unfold Addr.add; split <;> simp_all
theorem Bag.ents {w : World} {B : Nat} {A : Option Addr} {bag : List (List Int × Int)} (h : Bag w B A bag) : ∃ fs : List Ent, fs.map Ent.pair = bag ∧ Reads w B 2 A bag.length (entCells fs) ∧ ∀ e ∈ fs, Ints w B e.A e.r ∧ e.r.length ≤ 1099511627776 := by
  rcases Nat.eq_zero_or_pos bag.length with h0 | h0
  · have : bag = [] := List.length_eq_zero_iff.1 h0
    subst this
    exact ⟨[], rfl, Reads.none_, fun e he => by cases he⟩
  · obtain ⟨b, off, rfl, hb, hc⟩ := h h0
    have hc' : ∀ j, ∃ q : Option Addr × Nat, j < bag.length → w.cell? ⟨b, off + j * 2, none⟩ = some (.slice q.1 (rx bag j).length q.2) ∧ w.cell? ⟨b, off + j * 2 + 1, none⟩ = some (.int .i64 (nx bag j)) ∧ Ints w B q.1 (rx bag j) ∧ (rx bag j).length ≤ 1099511627776 := fun j => by
      by_cases hj : j < bag.length
      · obtain ⟨Ar, cap, h'⟩ := hc j hj
        exact ⟨(Ar, cap), fun _ => h'⟩
      · exact ⟨(none, 0), fun h => absurd h hj⟩
    let q : Nat → Option Addr × Nat := fun j => Classical.choose (hc' j)
    have hq : ∀ j, j < bag.length → w.cell? ⟨b, off + j * 2, none⟩ = some (.slice (q j).1 (rx bag j).length (q j).2) ∧ w.cell? ⟨b, off + j * 2 + 1, none⟩ = some (.int .i64 (nx bag j)) ∧ Ints w B (q j).1 (rx bag j) ∧ (rx bag j).length ≤ 1099511627776 := fun j => Classical.choose_spec (hc' j)
    clear_value q
    obtain ⟨fs, hfs⟩ : ∃ fs : List Ent, fs = (List.range bag.length).map fun j => ⟨rx bag j, nx bag j, (q j).1, (q j).2, 0⟩ := ⟨_, rfl⟩
    have hl : fs.length = bag.length := by simp [hfs]
    have hg : ∀ j (hj : j < fs.length), fs[j] = ⟨rx bag j, nx bag j, (q j).1, (q j).2, 0⟩ := fun j hj => by simp [hfs]
    refine ⟨fs, ?_, ⟨by rw [entCells_length, hl], fun _ => ⟨_, rfl, hb, fun i u hu => ?_⟩⟩, fun e he => ?_⟩
    · apply List.ext_getElem
      · simp [hl]
      · intro j h1 h2
        rw [List.getElem_map, hg j (by simpa using h1), bag_ix h2]; rfl
    · have hi : i < fs.length * 2 := by rw [← entCells_length]; exact (List.getElem?_eq_some_iff.1 hu).1
      rw [add_plain']
      rcases Nat.mod_two_eq_zero_or_one i with hm | hm
      · obtain ⟨k, rfl⟩ : ∃ k, i = k * 2 := ⟨i / 2, by omega⟩
        rw [entCells_get0 fs k (by omega), hg k (by omega)] at hu
        rw [← hu]
        exact (hq k (by omega)).1
      · obtain ⟨k, rfl⟩ : ∃ k, i = k * 2 + 1 := ⟨i / 2, by omega⟩
        rw [entCells_get1 fs k (by omega), hg k (by omega)] at hu
        rw [← hu, ← Nat.add_assoc]
        exact (hq k (by omega)).2.1
    · obtain ⟨j, hj, rfl⟩ := List.getElem_of_mem he
      rw [hg j hj]
      exact (hq j (by omega)).2.2
theorem OBag.cap {w : World} {lo n c : Nat} {A : Option Addr} {es : List Ent} (h : OBag w lo (.slice A n c) es) : n ≤ c := by
  have hn : n = es.length := by
    rcases h.1.2 with ⟨hv, h0⟩ | ⟨g, cap', cur, hv, _⟩
    · injection hv with _ h1 _; omega
    · injection hv
  rcases h.1.2 with ⟨hv, h0⟩ | ⟨g, cap', cur, hv, _, _, hnc, _⟩
  · injection hv with _ h1 _; omega
  · injection hv with _ _ h3; omega
theorem empty_at (w : World) (lo : Nat) (h : lo ≤ w.heap.size) : OBag (w.alloc (.cells #[] 63)) lo (.slice (some ⟨w.heap.size, 0, none⟩) 0 0) [] :=
  OBag.nil (World.ownsRow_made w #[] 0 h (Nat.zero_le _) rfl)
end Go.Proofs.Ytedbjjhkjkpnkaa
