/- Contracts of With, the model's and the program's: a bag of the call's own that reads as told; nothing that lay has turned. For bags of at most 2^38 and rows of at most 2^40. -/
import Derived.Test.YtcfnbpofbcendabJD
namespace Go.Proofs.Ytcfnbpofbcendab
open Go.RowKit

/-- n more of the row, where n is in range. -/
def withAll (bag : List (List Int × Int)) (row : List Int) (n : Int) : List (List Int × Int) := if inB n (-1000000) 1000000 = true then withL bag row n else bag
theorem withAll_yes {bag : List (List Int × Int)} {row : List Int} {n : Int} (h : inB n (-1000000) 1000000 = true) : withAll bag row n = withL bag row n := if_pos h
theorem withAll_no {bag : List (List Int × Int)} {row : List Int} {n : Int} (h : inB n (-1000000) 1000000 = false) : withAll bag row n = bag := if_neg (by simp [h])
/-- What such a call leaves. -/
def OwnB (bag : List (List Int × Int)) (w : World) (e : Ending) (w' : World) : Prop :=
  ∃ v es, e = .returned v ∧ OBag w' w.heap.size v es ∧ es.map Ent.pair = bag ∧ Below w.heap.size w w'
theorem ents_le {bag : List (List Int × Int)} {es : List Ent} {m : Nat} (he : es.map Ent.pair = bag) (h : ∀ j, j < bag.length → (rx bag j).length ≤ m) : ∀ e ∈ es, e.r.length ≤ m := by
  intro e hm
  obtain ⟨j, hj, rfl⟩ := List.getElem_of_mem hm
  subst he
  have := h j (by simpa using hj)
  rwa [rx_map hj] at this
theorem Bag.le {w : World} {B : Nat} {A : Option Addr} {bag : List (List Int × Int)} (h : Bag w B A bag) : ∀ j, j < bag.length → (rx bag j).length ≤ 1099511627776 := fun j hj => by
  obtain ⟨_, _, _, _, hc⟩ := h (by omega)
  obtain ⟨_, _, _, _, _, h4⟩ := hc j hj
  exact h4

theorem rows_mem {bag : List (List Int × Int)} {m : Nat} : (∀ j, j < bag.length → (rx bag j).length ≤ m) ↔ ∀ p ∈ bag, p.1.length ≤ m := by
  constructor
  · intro h p hp
    obtain ⟨j, hj, rfl⟩ := List.getElem_of_mem hp
    have := h j hj
    rwa [show rx bag j = bag[j].1 by simp [rx, hj]] at this
  · intro h j hj
    rw [show rx bag j = bag[j].1 by simp [rx, hj]]
    exact h _ (List.getElem_mem hj)
theorem withAll_rows {bag : List (List Int × Int)} {row : List Int} {n : Int} {m : Nat} (h : ∀ j, j < bag.length → (rx bag j).length ≤ m) (hr : row.length ≤ m) : ∀ j, j < (withAll bag row n).length → (rx (withAll bag row n) j).length ≤ m := by
  rw [rows_mem] at h ⊢
  have hsub : ∀ p ∈ withAll bag row n, p ∈ bag ∨ p.1 = row := by
    intro p hp
    unfold withAll at hp
    split at hp
    · unfold withL at hp
      split at hp
      · split at hp
        · rcases List.mem_append.1 hp with hp | hp
          · exact .inl (List.mem_of_mem_take hp)
          · exact .inl (List.mem_of_mem_drop hp)
        · rcases List.mem_append.1 hp with hp | hp
          · exact .inl (List.mem_of_mem_take hp)
          · rcases List.mem_cons.1 hp with rfl | hp
            · exact .inr rfl
            · exact .inl (List.mem_of_mem_drop hp)
      · split at hp
        · exact .inl hp
        · rcases List.mem_append.1 hp with hp | hp
          · exact .inl (List.mem_of_mem_take hp)
          · rcases List.mem_cons.1 hp with rfl | hp
            · exact .inr rfl
            · exact .inl (List.mem_of_mem_drop hp)
    · exact .inl hp
  intro p hp
  rcases hsub p hp with h1 | h1
  · exact h p h1
  · rw [h1]; exact hr
theorem withAll_length (bag : List (List Int × Int)) (row : List Int) (n : Int) : (withAll bag row n).length ≤ bag.length + 1 := by
  unfold withAll
  split
  · exact withL_length
  · omega
theorem ents_of {es : List Ent} {W : List (List Int × Int)} {m : Nat} (he : es.map Ent.pair = W) (h : ∀ j, j < W.length → (rx W j).length ≤ m) : ∀ e ∈ es, e.r.length ≤ m := ents_le he h

theorem rx_drop (bag : List (List Int × Int)) (k j : Nat) : rx (bag.drop k) j = rx bag (k + j) := by simp [rx]
theorem nx_drop (bag : List (List Int × Int)) (k j : Nat) : nx (bag.drop k) j = nx bag (k + j) := by simp [nx]
theorem rx_take {bag : List (List Int × Int)} {k j : Nat} (h : j < k) : rx (bag.take k) j = rx bag j := by simp [rx, h]
theorem nx_take {bag : List (List Int × Int)} {k j : Nat} (h : j < k) : nx (bag.take k) j = nx bag j := by simp [nx, h]
theorem Bag.drop {w : World} {B b off : Nat} {bag : List (List Int × Int)} (h : Bag w B (some ⟨b, off, none⟩) bag) (k : Nat) : Bag w B (some ⟨b, off + k * 2, none⟩) (bag.drop k) := fun hn => by
  rw [List.length_drop] at hn
  obtain ⟨b', off', e, hb, hc⟩ := h (by omega)
  obtain ⟨rfl, rfl⟩ : b = b' ∧ off = off' := by simpa using e
  refine ⟨b, _, rfl, hb, fun j hj => ?_⟩
  rw [List.length_drop] at hj
  obtain ⟨Ar, cap, h1, h2, h3, h4⟩ := hc (k + j) (by omega)
  rw [rx_drop, nx_drop]
  exact ⟨Ar, cap, by rw [show off + k * 2 + j * 2 = off + (k + j) * 2 by omega]; exact h1, by rw [show off + k * 2 + j * 2 + 1 = off + (k + j) * 2 + 1 by omega]; exact h2, h3, h4⟩
theorem Bag.take {w : World} {B : Nat} {A : Option Addr} {bag : List (List Int × Int)} (h : Bag w B A bag) (k : Nat) : Bag w B A (bag.take k) := fun hn => by
  rw [List.length_take] at hn
  obtain ⟨b, off, e, hb, hc⟩ := h (by omega)
  refine ⟨b, off, e, hb, fun j hj => ?_⟩
  rw [List.length_take] at hj
  rw [rx_take (by omega), nx_take (by omega)]
  exact hc j (by omega)
theorem Bag.empty (w : World) (B : Nat) (A : Option Addr) : Bag w B A [] := fun h => absurd h (by simp)

theorem make_room (n : Nat) (hn : n ≤ 1099511627776) (w : World) : (Instr.makeSlice 24 (.int .i64 0) (.int .i64 (n : Int))).run Try.prog w = .ok (.slice (some ⟨w.heap.size, 0, none⟩) 0 n) (w.alloc (.cells (madeCells #[.slice none 0 0, .int .i64 0] (n * 2)) 33)) := by
  obtain ⟨i, hi, hz, hs, hby⟩ := info_parts info_count
  have := run_make (P := Try.prog) w 24 33 i (.agg #[.slice none 0 0, .int .i64 0]) Try.underlying24 hi hz .i64 .i64 0 (n : Int) (by omega) (by omega) (by rw [hby]; omega) (by omega)
  rw [hs] at this
  simpa [Value.cells] using this
theorem room_counts (n : Nat) (hn : n ≤ 1099511627776) (w : World) (lo : Nat) (hlo : lo ≤ w.heap.size) : OBag (w.alloc (.cells (madeCells #[.slice none 0 0, .int .i64 0] (n * 2)) 33)) lo (.slice (some ⟨w.heap.size, 0, none⟩) 0 n) [] :=
  OBag.nil (World.ownsRow_made w _ n hlo (by simp only [maxLen]; omega) (size_madeCells _ _))
end Go.Proofs.Ytcfnbpofbcendab
