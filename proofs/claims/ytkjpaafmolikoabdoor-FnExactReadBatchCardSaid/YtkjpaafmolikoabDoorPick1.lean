/- Contracts of Picked, the model's and the program's, and of the marks by which a law tells whose memory is whose. For slices of at most 2^30 numbers. -/
import Derived.Test.YtkjpaafmolikoabDoorIter1
import Derived.Test.YtkjpaafmolikoabDoorOwn0
import Derived.Maps.AppendAt
namespace Go.Proofs.YtkjpaafmolikoabDoor
open Go.RowKit

def placesB (ps : List Int) (n : Nat) : Bool := ps.all fun p => inB p 0 ((n : Int) - 1)
def pick (zs ps : List Int) : List Int := ps.map fun p => ix zs p.toNat
def pickedL (zs ps : List Int) : List Int := if placesB ps zs.length = true then pick zs ps else []

theorem pickedL_length (zs ps : List Int) : (pickedL zs ps).length ≤ ps.length := by
  unfold pickedL; split
  · simp [pick]
  · simp

set_option maxHeartbeats 400000 in
theorem l1Places_any (A : Option Addr) (c n : Nat) (ps : List Int) (w : World) (B : Nat) (hI : Ints w B A ps) (hl : ps.length ≤ 1073741824) (hn : n ≤ 1073741824) :
    Calls Tryd.prog 54 #[.slice A ps.length c, .int .i64 n] w fun e w' => e = .returned (.bool (placesB ps n)) ∧ w = w' := by
  go_enter Tryd.func54, Tryd.ntmps54
  go_wp2
  go_loop [5] (fun i => ∃ k : Nat, k ≤ ps.length ∧ i = .int .i64 k ∧ (ps.take k).all (fun p => inB p 0 ((n : Int) - 1)) = true) (fun i => ps.length - (intOf i).toNat)
  case atStart => exact ⟨0, Nat.zero_le _, rfl, by simp⟩
  case round =>
    obtain ⟨k, hk, rfl, ha⟩ := hrel
    have HA := Lib.hid ha
    clear ha
    by_cases hlt : k < ps.length
    · obtain ⟨b, off, rfl, hb, hc⟩ := hI (by omega)
      have hck := hc k hlt
      clear hc
      by_cases hf : inB (ix ps k) 0 ((n : Int) - 1) = true
      · have HF := Lib.hid hf
        clear hf
        go_wp2_with (go_at_call 81; refine (l1In_yes _ _ _ _ HF.out).mono ?_; rintro e w' ⟨rfl, rfl⟩)
        go_round
        case rel => exact ⟨k + 1, by omega, by go_num, by rw [all_take_succ _ _ _ hlt, HA.out, HF.out]; rfl⟩
        case measure => simp [intOf]; omega
      · have hf' : inB (ix ps k) 0 ((n : Int) - 1) = false := by simpa using hf
        have HF := Lib.hid hf'
        clear hf hf'
        go_wp2_with (go_at_call 81; refine (l1In_no _ _ _ _ HF.out).mono ?_; rintro e w' ⟨rfl, rfl⟩)
        go_ret
        exact ⟨ret_bool (all_stop _ ps k hlt HF.out).symm, rfl⟩
    · have HR : Hid (placesB ps n = true) := by
        have := HA.out
        rw [List.take_of_length_le (by omega)] at this
        exact this
      go_wp2
      go_ret
      exact ⟨ret_bool HR.out.symm, rfl⟩

theorem l1Places_yes (A : Option Addr) (c n : Nat) (ps : List Int) (w : World) (B : Nat) (hI : Ints w B A ps) (hl : ps.length ≤ 1073741824) (hn : n ≤ 1073741824) (h : placesB ps n = true) :
    Calls Tryd.prog 54 #[.slice A ps.length c, .int .i64 n] w fun e w' => e = .returned (.bool true) ∧ w = w' := by rw [← h]; exact l1Places_any A c n ps w B hI hl hn
theorem l1Places_no (A : Option Addr) (c n : Nat) (ps : List Int) (w : World) (B : Nat) (hI : Ints w B A ps) (hl : ps.length ≤ 1073741824) (hn : n ≤ 1073741824) (h : placesB ps n = false) :
    Calls Tryd.prog 54 #[.slice A ps.length c, .int .i64 n] w fun e w' => e = .returned (.bool false) ∧ w = w' := by rw [← h]; exact l1Places_any A c n ps w B hI hl hn

theorem pick_take_succ (zs ps : List Int) (k : Nat) (h : k < ps.length) : pick zs (ps.take (k + 1)) = pick zs (ps.take k) ++ [ix zs (ix ps k).toNat] := by
  unfold pick
  rw [List.take_succ_eq_append_getElem h, List.map_append, ix_eq ps k h]; rfl
theorem pick_take_length (zs ps : List Int) (k : Nat) (h : k ≤ ps.length) : (pick zs (ps.take k)).length = k := by
  simp [pick]; omega
set_option maxRecDepth 100000 in
set_option maxHeartbeats 1000000 in
theorem specPicked_any (A A' : Option Addr) (c c' : Nat) (zs ps : List Int) (w : World) (hI : Ints w w.heap.size A zs) (hI' : Ints w w.heap.size A' ps) (hl : zs.length ≤ 1073741824) (hl' : ps.length ≤ 1073741824) :
    Calls Tryd.prog 22 #[.slice A zs.length c, .slice A' ps.length c'] w fun e w' => ∃ v, e = .returned v ∧ w'.ownsRow w.heap.size 2 1 v (pickedL zs ps).length (i64l (pickedL zs ps)) ∧ Below w.heap.size w w' := by
  obtain ⟨i0, hi0, hz0, hz1, hz2⟩ := info_parts info_i64
  have hB0 : Below w.heap.size w (w.alloc (.cells #[] 2)) := (Below.refl _ _).alloc (Nat.le_refl _) _
  by_cases hp : placesB ps zs.length = true
  · have HP := Lib.hid hp
    clear hp
    go_enter Tryd.func22, Tryd.ntmps22
    go_wp2_with (go_at_call 54; refine (l1Places_yes _ _ _ ps _ w.heap.size (hI'.below hB0) hl' hl HP.out).mono ?_; rintro e w' ⟨rfl, rfl⟩)
    go_loopw [5, 6] (fun v i wr => ∃ k : Nat, k ≤ ps.length ∧ i = .int .i64 k ∧ wr.ownsRow w.heap.size 2 1 v k (i64l (pick zs (ps.take k))) ∧ Below w.heap.size w wr) (fun _ i _ => ps.length - (intOf i).toNat)
    case atStart => exact ⟨0, Nat.zero_le _, rfl, by simpa [pick, i64l] using ownsRow_empty w 2 w.heap.size (Nat.le_refl _), hB0⟩
    case round =>
      obtain ⟨k, hk, rfl, hown, hbel⟩ := hrel
      by_cases hlt : k < ps.length
      · have hin := all_ix HP.out k hlt
        have hin2 : 0 ≤ ix ps k ∧ ix ps k ≤ (zs.length : Int) - 1 := by simpa [inB] using hin
        obtain ⟨q, hq⟩ : ∃ q : Nat, ix ps k = (q : Int) := ⟨(ix ps k).toNat, by omega⟩
        have hqz : q < zs.length := by omega
        have HQ := Lib.hid hq
        obtain ⟨b, off, rfl, hb, hc⟩ := hI (by omega)
        obtain ⟨b', off', rfl, hb', hc'⟩ := hI' (by omega)
        have hcz : wr.cell? ⟨b, off + q, none⟩ = some (.int .i64 (ix zs q)) := (hbel.cell (p := ⟨b, off + q, none⟩) hb).trans (hc q hqz)
        have hcp : wr.cell? ⟨b', off' + k, none⟩ = some (.int .i64 (q : Int)) := by rw [← hq]; exact (hbel.cell (p := ⟨b', off' + k, none⟩) hb').trans (hc' k hlt)
        clear hc hc' hin hin2 hq
        go_wp2_with (at_builtin; refine wpList_append_own _ rfl _ _ 24 rfl w.heap.size 2 i0 (.int .i64 0) 1 8 Tryd.underlying24 hi0 hz0 hz1 hz2 rfl (by decide) _ _ _ rfl (hown.alloc _) ⟨wr.heap.size, 0, none⟩ 1 1 [.int .i64 (ix zs q)] rfl rfl (cell_one_new _ _ _) (by simp [Value.oneCell']) (by simp only [maxLen]; omega) (by omega) (by have := hbel.size; simp; omega) ?_; intro v' w1 hown1 hgrow1 _)
        have hb1 : Below w.heap.size w w1 := (hbel.alloc hbel.size _).grown hgrow1 (by have := hbel.size; simp; omega) (fun g hg => (hown.lt g hg).1)
        clear hgrow1 hown
        go_roundw
        case rel => exact ⟨k + 1, by omega, by go_num, by rw [pick_take_succ zs ps k hlt, HQ.out, i64l_append]; simpa [i64l] using hown1, hb1⟩
        case measure => simp [intOf]; omega
      · have hk' : k = ps.length := by omega
        have HR : Hid (pickedL zs ps = pick zs (ps.take k)) := by
          show pickedL zs ps = _
          unfold pickedL
          rw [if_pos HP.out, hk', List.take_length]
        go_wp2
        go_ret
        refine ⟨_, rfl, ?_, hbel⟩
        rw [HR.out, pick_take_length zs ps k hk]
        exact hown
  · have hp' : placesB ps zs.length = false := by simpa using hp
    have HP := Lib.hid hp'
    clear hp hp'
    go_enter Tryd.func22, Tryd.ntmps22
    go_wp2_with (go_at_call 54; refine (l1Places_no _ _ _ ps _ w.heap.size (hI'.below hB0) hl' hl HP.out).mono ?_; rintro e w' ⟨rfl, rfl⟩)
    go_ret
    refine ⟨_, rfl, ?_, hB0⟩
    unfold pickedL
    rw [HP.out]
    simpa [i64l] using ownsRow_empty w 2 w.heap.size (Nat.le_refl _)

theorem places_no {zs ps : List Int} {k : Nat} (hk : k < ps.length) (h : ix ps k < 0 ∨ (zs.length : Int) ≤ ix ps k) : pickedL zs ps = [] := by
  unfold pickedL
  rw [if_neg]
  intro hp
  have := all_ix hp k hk
  have : 0 ≤ ix ps k ∧ ix ps k ≤ (zs.length : Int) - 1 := by simpa [inB] using this
  omega
theorem places_yes {zs ps : List Int} (h : ∀ j, j < ps.length → 0 ≤ ix ps j ∧ ix ps j < (zs.length : Int)) : pickedL zs ps = pick zs ps := by
  unfold pickedL
  rw [if_pos]
  unfold placesB
  rw [List.all_eq_true]
  intro x hx
  obtain ⟨j, hj, rfl⟩ := List.mem_iff_getElem.1 hx
  have := h j hj
  rw [ix_eq ps j hj] at this
  simp [inB]; omega

set_option maxRecDepth 100000 in
set_option maxHeartbeats 2000000 in
theorem implPicked_any (A A' : Option Addr) (c c' : Nat) (zs ps : List Int) (w : World) (hI : Ints w w.heap.size A zs) (hI' : Ints w w.heap.size A' ps) (hl : zs.length ≤ 1073741824) (hl' : ps.length ≤ 1073741824) :
    Calls Tryd.prog 14 #[.slice A zs.length c, .slice A' ps.length c'] w fun e w' => ∃ v, e = .returned v ∧ w'.ownsRow w.heap.size 2 1 v (pickedL zs ps).length (i64l (pickedL zs ps)) ∧ Below w.heap.size w w' := by
  obtain ⟨i0, hi0, hz0, hz1, hz2⟩ := info_parts info_i64
  go_enter Tryd.func14, Tryd.ntmps14
  go_wp2_with (at_make; refine wpList_make_own _ rfl _ _ 24 rfl w.heap.size 2 i0 (.int .i64 0) 1 Tryd.underlying24 hi0 hz0 hz1 _ _ _ ps.length rfl rfl rfl (by rw [hz2]; omega) (by simp only [maxLen]; omega) (Nat.le_refl _) ?_; intro w1 hown0 hgrow0)
  have hb0 : Below w.heap.size w w1 := (Below.refl _ _).grown hgrow0 (Nat.le_refl _) (fun _ h => by cases h)
  clear hgrow0
  go_loopw [5, 13] (fun v i wr => ∃ k : Nat, k ≤ ps.length ∧ i = .int .i64 k ∧ (∀ j, j < k → 0 ≤ ix ps j ∧ ix ps j < (zs.length : Int)) ∧ wr.ownsRow w.heap.size 2 1 v k (i64l (pick zs (ps.take k))) ∧ Below w.heap.size w wr) (fun _ i _ => ps.length - (intOf i).toNat)
  case atStart => exact ⟨0, Nat.zero_le _, rfl, fun j h => absurd h (by omega), by simpa [pick, i64l] using hown0, hb0⟩
  case round =>
    obtain ⟨k, hk, rfl, hall, hown, hbel⟩ := hrel
    have HALL := Lib.hid hall
    clear hall hown0 hb0
    by_cases hlt : k < ps.length
    · obtain ⟨b', off', rfl, hb', hc'⟩ := hI' (by omega)
      have hcp : wr.cell? ⟨b', off' + k, none⟩ = some (.int .i64 (ix ps k)) := (hbel.cell (p := ⟨b', off' + k, none⟩) hb').trans (hc' k hlt)
      clear hc'
      by_cases hneg : ix ps k < 0
      · have HR := Lib.hid (places_no hlt (.inl hneg) : pickedL zs ps = [])
        go_wp2
        go_ret
        refine ⟨_, rfl, ?_, hbel.alloc hbel.size _⟩
        rw [HR.out]
        exact ownsRow_empty wr 2 w.heap.size hbel.size
      · by_cases hbig : (zs.length : Int) ≤ ix ps k
        · have HR := Lib.hid (places_no hlt (.inr hbig) : pickedL zs ps = [])
          go_wp2
          go_ret
          refine ⟨_, rfl, ?_, hbel.alloc hbel.size _⟩
          rw [HR.out]
          exact ownsRow_empty wr 2 w.heap.size hbel.size
        · obtain ⟨q, hq⟩ : ∃ q : Nat, ix ps k = (q : Int) := ⟨(ix ps k).toNat, by omega⟩
          have hqz : q < zs.length := by omega
          have HQ := Lib.hid hq
          obtain ⟨b, off, rfl, hb, hc⟩ := hI (by omega)
          have hcz : wr.cell? ⟨b, off + q, none⟩ = some (.int .i64 (ix zs q)) := (hbel.cell (p := ⟨b, off + q, none⟩) hb).trans (hc q hqz)
          rw [hq] at hcp
          have hd1 : decide (zs.length ≤ q) = false := by simp; omega
          clear hc hq hneg hbig
          go_wp2_with (at_builtin; refine wpList_append_own _ rfl _ _ 24 rfl w.heap.size 2 i0 (.int .i64 0) 1 8 Tryd.underlying24 hi0 hz0 hz1 hz2 rfl (by decide) _ _ _ rfl (hown.alloc _) ⟨wr.heap.size, 0, none⟩ 1 1 [.int .i64 (ix zs q)] rfl rfl (cell_one_new _ _ _) (by simp [Value.oneCell']) (by simp only [maxLen]; omega) (by omega) (by have := hbel.size; simp; omega) ?_; intro v' w1 hown1 hgrow1 _)
          have hb1 : Below w.heap.size w w1 := (hbel.alloc hbel.size _).grown hgrow1 (by have := hbel.size; simp; omega) (fun g hg => (hown.lt g hg).1)
          clear hgrow1 hown
          go_roundw
          case rel => exact ⟨k + 1, by omega, by go_num, fun j hj => (by rcases Nat.lt_or_ge j k with h | h; exact HALL.out j h; obtain rfl : j = k := (by omega); rw [HQ.out]; omega), by rw [pick_take_succ zs ps k hlt, HQ.out, i64l_append]; simpa [i64l] using hown1, hb1⟩
          case measure => simp [intOf]; omega
    · have hk' : k = ps.length := by omega
      have HR : Hid (pickedL zs ps = pick zs (ps.take k)) := by
        show pickedL zs ps = _
        rw [places_yes (by rw [← hk']; exact HALL.out), hk', List.take_length]
      go_wp2
      go_ret
      refine ⟨_, rfl, ?_, hbel⟩
      rw [HR.out, pick_take_length zs ps k hk]
      exact hown
end Go.Proofs.YtkjpaafmolikoabDoor
