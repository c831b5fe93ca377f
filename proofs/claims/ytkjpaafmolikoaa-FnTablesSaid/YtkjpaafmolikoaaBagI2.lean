/- Contracts of With, the model's and the program's: a bag of the call's own that reads as told; nothing that lay has turned. For bags of at most 2^38 and rows of at most 2^40. -/
import Derived.Test.YtkjpaafmolikoaaJD
namespace Go.Proofs.Ytkjpaafmolikoaa
open Go.RowKit

/-- n more of the row, where n is in range. -/
def withAll (bag : List (List Int × Int)) (row : List Int) (n : Int) : List (List Int × Int) := if inB n (-1000000) 1000000 = true then withL bag row n else bag
theorem withAll_yes {bag : List (List Int × Int)} {row : List Int} {n : Int} (h : inB n (-1000000) 1000000 = true) : withAll bag row n = withL bag row n := if_pos h
theorem withAll_no {bag : List (List Int × Int)} {row : List Int} {n : Int} (h : inB n (-1000000) 1000000 = false) : withAll bag row n = bag := if_neg (by simp [h])
/-- What such a call leaves. -/
def OwnB (bag : List (List Int × Int)) (w : World) (e : Ending) (w' : World) : Prop :=
  ∃ v es, e = .returned v ∧ OBag w' w.heap.size v es ∧ es.map Ent.pair = bag ∧ Below w.heap.size w w'
theorem ents_le {bag : List (List Int × Int)} {es : List Ent} {m : Nat} (he : es.map Ent.pair = bag) (h : ∀ j, j < bag.length → (rx bag j).length ≤ m) : ∀ e ∈ es, e.r.length ≤ m := by
  intro e hm
  obtain ⟨j, hj, rfl⟩ := List.getElem_of_mem hm
  subst he
  have := h j (by simpa using hj)
  rwa [rx_map hj] at this
theorem Bag.le {w : World} {B : Nat} {A : Option Addr} {bag : List (List Int × Int)} (h : Bag w B A bag) : ∀ j, j < bag.length → (rx bag j).length ≤ 1099511627776 := fun j hj => by
  obtain ⟨_, _, _, _, hc⟩ := h (by omega)
  obtain ⟨_, _, _, _, _, h4⟩ := hc j hj
  exact h4

theorem rows_mem {bag : List (List Int × Int)} {m : Nat} : (∀ j, j < bag.length → (rx bag j).length ≤ m) ↔ ∀ p ∈ bag, p.1.length ≤ m := by
  constructor
  · intro h p hp
    obtain ⟨j, hj, rfl⟩ := List.getElem_of_mem hp
    have := h j hj
    rwa [show rx bag j = bag[j].1 by simp [rx, hj]] at this
  · intro h j hj
    rw [show rx bag j = bag[j].1 by simp [rx, hj]]
    exact h _ (List.getElem_mem hj)
theorem withAll_rows {bag : List (List Int × Int)} {row : List Int} {n : Int} {m : Nat} (h : ∀ j, j < bag.length → (rx bag j).length ≤ m) (hr : row.length ≤ m) : ∀ j, j < (withAll bag row n).length → (rx (withAll bag row n) j).length ≤ m := by
  rw [rows_mem] at h ⊢
  have hsub : ∀ p ∈ withAll bag row n, p ∈ bag ∨ p.1 = row := by
    intro p hp
    unfold withAll at hp
    split at hp
    · unfold withL at hp
      split at hp
      · split at hp
        · rcases List.mem_append.1 hp with hp | hp
          · exact .inl (List.mem_of_mem_take hp)
          · exact .inl (List.mem_of_mem_drop hp)
        · rcases List.mem_append.1 hp with hp | hp
          · exact .inl (List.mem_of_mem_take hp)
          · rcases List.mem_cons.1 hp with rfl | hp
            · exact .inr rfl
            · exact .inl (List.mem_of_mem_drop hp)
      · split at hp
        · exact .inl hp
        · rcases List.mem_append.1 hp with hp | hp
          · exact .inl (List.mem_of_mem_take hp)
          · rcases List.mem_cons.1 hp with rfl | hp
            · exact .inr rfl
            · exact .inl (List.mem_of_mem_drop hp)
    · exact .inl hp
  intro p hp
  rcases hsub p hp with h1 | h1
  · exact h p h1
  · rw [h1]; exact hr
theorem withAll_length (bag : List (List Int × Int)) (row : List Int) (n : Int) : (withAll bag row n).length ≤ bag.length + 1 := by
  unfold withAll
  split
  · exact withL_length
  · omega
theorem ents_of {es : List Ent} {W : List (List Int × Int)} {m : Nat} (he : es.map Ent.pair = W) (h : ∀ j, j < W.length → (rx W j).length ≤ m) : ∀ e ∈ es, e.r.length ≤ m := ents_le he h

set_option maxRecDepth 100000 in
set_option maxHeartbeats 1000000 in
theorem specWith_any (A A' : Option Addr) (c c' : Nat) (bag : List (List Int × Int)) (row : List Int) (n : Int) (w : World) (hB : Bag w w.heap.size A bag) (hI : Ints w w.heap.size A' row) (hl : bag.length ≤ 274877906944) (hr : row.length ≤ 1099511627776) :
    Calls Try.prog 65 #[.slice A bag.length c, .slice A' row.length c', .int .i64 n] w (OwnB (withAll bag row n) w) := by
  have HLe := Lib.hid hB.le
  cases hn : inB n (-1000000) 1000000 with
  | false =>
    have HN := Lib.hid hn
    clear hn
    go_enter Try.func65, Try.ntmps65
    go_wp2_with fail
    refine (l1In_no n (-1000000) 1000000 w HN.out).mono ?_
    rintro e w' ⟨rfl, rfl⟩
    go_wp2_with fail
    refine (l2Copy_any A c bag w hB (by omega)).mono ?_
    rintro e w1 ⟨v, es, rfl, hO, _, he, hb⟩
    have HE := Lib.hid he
    clear he
    go_wp2
    go_ret
    exact ⟨_, es, rfl, hO, by rw [withAll_no HN.out, HE.out], hb⟩
  | true =>
    have HN := Lib.hid hn
    clear hn
    go_enter Try.func65, Try.ntmps65
    go_wp2_with fail
    refine (l1In_yes n (-1000000) 1000000 w HN.out).mono ?_
    rintro e w' ⟨rfl, rfl⟩
    go_wp2_with fail
    refine (l2Copy_any A c bag w hB (by omega)).mono ?_
    rintro e w1 ⟨v, es, rfl, hO, ⟨g, hg⟩, he, hb⟩
    obtain ⟨cap, rfl, hOB⟩ := hO.ob hg
    have hel : es.length = bag.length := by rw [← he, List.length_map]
    have HE := Lib.hid he
    have hle := ents_le HE.out HLe.out
    have HLE := Lib.hid hle
    have hel2 : es.length ≤ 549755813888 := by omega
    clear he hg hO hel hle
    go_wp2_with fail
    refine (l2With_any w.heap.size g cap es A' c' row n w1 hb.size hOB (hI.on hb) hel2 hr HLE.out).mono ?_
    rintro e w2 ⟨g2, cap2, es2, rfl, hO2, he2, hb2⟩
    have HE2 := Lib.hid he2
    clear he2
    go_wp2
    go_ret
    exact ⟨_, es2, rfl, hO2, by rw [withAll_yes HN.out, HE2.out, HE.out], hb.trans hb2⟩

set_option maxRecDepth 100000 in
set_option maxHeartbeats 1000000 in
theorem placeFor_any (A A' : Option Addr) (c c' : Nat) (bag : List (List Int × Int)) (row : List Int) (w : World) (hB : Bag w w.heap.size A bag) (hI : Ints w w.heap.size A' row) (hl : bag.length ≤ 1099511627776) (hr : row.length ≤ 1099511627776) :
    Calls Try.prog 120 #[.slice A bag.length c, .slice A' row.length c'] w fun e w' => e = .returned (.int .i64 (placeL bag row : Nat)) ∧ Below w.heap.size w w' := by
  go_enter Try.func120, Try.ntmps120
  go_wp2
  go_loopw [5] (fun i wr => ∃ k : Nat, k ≤ bag.length ∧ i = .int .i64 k ∧ placeL bag row = k + placeL (bag.drop k) row ∧ Below w.heap.size w wr) (fun i _ => bag.length - (intOf i).toNat)
  case atStart => exact ⟨0, Nat.zero_le _, rfl, by simp, Below.refl _ _⟩
  case round =>
    obtain ⟨k, hk, rfl, hp, hW⟩ := hrel
    have HP := Lib.hid hp
    clear hp
    by_cases hlt : k < bag.length
    · obtain ⟨b, off, rfl, _, hc⟩ := hB.on hW (by omega)
      obtain ⟨Ar, cap, h1, h2, h3, h4⟩ := hc k hlt
      clear hc
      have hIr := hI.on hW
      go_wp2_with fail
      refine (implRowLess_any Ar A' cap c' (rx bag k) row h4 hr wr h3 hIr).mono ?_
      rintro e w1 ⟨rfl, hb1⟩
      have hW1 := bel_step hW hb1
      clear h1 h2 h3 hIr hW hb1
      cases hls : lessB (rx bag k) row with
      | true =>
        have HL := Lib.hid hls
        clear hls
        go_wp2
        go_roundw
        case rel => exact ⟨k + 1, by omega, by go_num, by rw [HP.out, place_yes hlt HL.out]; omega, hW1⟩
        case measure => simp [intOf]; omega
      | false =>
        have HL := Lib.hid hls
        clear hls
        go_wp2
        go_ret
        exact ⟨ret_int (by rw [HP.out, place_no hlt HL.out]; simp), hW1⟩
    · have hd : decide (k < bag.length) = false := by simpa using hlt
      go_wp2
      go_ret
      exact ⟨ret_int (by rw [HP.out, place_end hlt]; simp), hW⟩

theorem rx_drop (bag : List (List Int × Int)) (k j : Nat) : rx (bag.drop k) j = rx bag (k + j) := by simp [rx]
theorem nx_drop (bag : List (List Int × Int)) (k j : Nat) : nx (bag.drop k) j = nx bag (k + j) := by simp [nx]
theorem rx_take {bag : List (List Int × Int)} {k j : Nat} (h : j < k) : rx (bag.take k) j = rx bag j := by simp [rx, h]
theorem nx_take {bag : List (List Int × Int)} {k j : Nat} (h : j < k) : nx (bag.take k) j = nx bag j := by simp [nx, h]
theorem Bag.drop {w : World} {B b off : Nat} {bag : List (List Int × Int)} (h : Bag w B (some ⟨b, off, none⟩) bag) (k : Nat) : Bag w B (some ⟨b, off + k * 2, none⟩) (bag.drop k) := fun hn => by
  rw [List.length_drop] at hn
  obtain ⟨b', off', e, hb, hc⟩ := h (by omega)
  obtain ⟨rfl, rfl⟩ : b = b' ∧ off = off' := by simpa using e
  refine ⟨b, _, rfl, hb, fun j hj => ?_⟩
  rw [List.length_drop] at hj
  obtain ⟨Ar, cap, h1, h2, h3, h4⟩ := hc (k + j) (by omega)
  rw [rx_drop, nx_drop]
  exact ⟨Ar, cap, by rw [show off + k * 2 + j * 2 = off + (k + j) * 2 by omega]; exact h1, by rw [show off + k * 2 + j * 2 + 1 = off + (k + j) * 2 + 1 by omega]; exact h2, h3, h4⟩
theorem Bag.take {w : World} {B : Nat} {A : Option Addr} {bag : List (List Int × Int)} (h : Bag w B A bag) (k : Nat) : Bag w B A (bag.take k) := fun hn => by
  rw [List.length_take] at hn
  obtain ⟨b, off, e, hb, hc⟩ := h (by omega)
  refine ⟨b, off, e, hb, fun j hj => ?_⟩
  rw [List.length_take] at hj
  rw [rx_take (by omega), nx_take (by omega)]
  exact hc j (by omega)
theorem Bag.empty (w : World) (B : Nat) (A : Option Addr) : Bag w B A [] := fun h => absurd h (by simp)

theorem make_room (n : Nat) (hn : n ≤ 1099511627776) (w : World) : (Instr.makeSlice 39 (.int .i64 0) (.int .i64 (n : Int))).run Try.prog w = .ok (.slice (some ⟨w.heap.size, 0, none⟩) 0 n) (w.alloc (.cells (madeCells #[.slice none 0 0, .int .i64 0] (n * 2)) 78)) := by
  obtain ⟨i, hi, hz, hs, hby⟩ := info_parts info_count
  have := run_make (P := Try.prog) w 39 78 i (.agg #[.slice none 0 0, .int .i64 0]) Try.underlying39 hi hz .i64 .i64 0 (n : Int) (by omega) (by omega) (by rw [hby]; omega) (by omega)
  rw [hs] at this
  simpa [Value.cells] using this
theorem room_counts (n : Nat) (hn : n ≤ 1099511627776) (w : World) (lo : Nat) (hlo : lo ≤ w.heap.size) : OBag (w.alloc (.cells (madeCells #[.slice none 0 0, .int .i64 0] (n * 2)) 78)) lo (.slice (some ⟨w.heap.size, 0, none⟩) 0 n) [] :=
  OBag.nil (World.ownsRow_made w _ n hlo (by simp only [maxLen]; omega) (size_madeCells _ _))
end Go.Proofs.Ytkjpaafmolikoaa
