/- Contract of l1Bend, which bends a text by a few bytes: it returns some text of at most two bytes more; the cursor goes on; nothing else that lay has turned. -/
import Derived.Test.YtdpokfjempdchaaGreatDoorDraw3
import Derived.Lib.ConvBytes
import Derived.Lib.AtoiErrMem
import Derived.Deep.RegionLaw
import Derived.Lib.ItoaMem
import Derived.Test.YtdpokfjempdchaaGreatDoorJK1
namespace Go.Proofs.YtdpokfjempdchaaGreatDoor
open Go.RowKit

/-- Block g, from base on, begins with the bytes bs, none of them frozen; the slice over it has room for cap. -/
def BB (W : World) (base g cap : Nat) (bs : List UInt8) : Prop :=
  base ≤ g ∧ bs.length ≤ cap ∧ cap ≤ maxLen ∧ ∃ (cur : Array Value) (fz : Nat × Nat), W.heap[g]? = some (.cells cur 5 fz) ∧ (∀ j, j < bs.length → cur[j]? = some (.int .u8 ((bs[j]?.getD 0).toNat : Int))) ∧ ∀ j, j < bs.length → W.frozen? ⟨g, j, none⟩ = false
theorem BB.lt {W : World} {base g cap : Nat} {bs : List UInt8} (h : BB W base g cap bs) : g < W.heap.size := by
  obtain ⟨_, _, _, cur, fz, hh, _⟩ := h
  rcases Nat.lt_or_ge g W.heap.size with hlt | hge
  · exact hlt
  · rw [Array.getElem?_eq_none hge] at hh; cases hh
theorem BB.cell {W : World} {base g cap : Nat} {bs : List UInt8} (h : BB W base g cap bs) {j : Nat} (hj : j < bs.length) : W.cell? ⟨g, j, none⟩ = some (.int .u8 ((bs[j]?.getD 0).toNat : Int)) := by
  obtain ⟨_, _, _, cur, fz, hh, hc, _⟩ := h
  rw [cell_of_row W g j cur 5 fz hh]; exact hc j hj
theorem BB.frozen {W : World} {base g cap : Nat} {bs : List UInt8} (h : BB W base g cap bs) {j : Nat} (hj : j < bs.length) : W.frozen? ⟨g, j, none⟩ = false := by
  obtain ⟨_, _, _, cur, fz, hh, _, hf⟩ := h
  exact hf j hj
theorem BB.kept {W W' : World} {base g cap : Nat} {bs : List UInt8} {row : Option Nat} (h : BB W base g cap bs) (hg : W.grownBy W' row) (hne : some g ≠ row) : BB W' base g cap bs := by
  have hlt := h.lt
  obtain ⟨h1, h2, h3, cur, fz, hh, hc, hf⟩ := h
  have hb := hg.block g hlt hne
  exact ⟨h1, h2, h3, cur, fz, hb.trans hh, hc, fun j hj => (World.frozen?_of_block (a := ⟨g, j, none⟩) hb).trans (hf j hj)⟩
theorem BB.take {W : World} {base g cap : Nat} {bs : List UInt8} (h : BB W base g cap bs) (k : Nat) : BB W base g cap (bs.take k) := by
  obtain ⟨h1, h2, h3, cur, fz, hh, hc, hf⟩ := h
  refine ⟨h1, by rw [List.length_take]; omega, h3, cur, fz, hh, fun j hj => ?_, fun j hj => hf j (by rw [List.length_take] at hj; omega)⟩
  rw [List.length_take] at hj
  rw [hc j (by omega), List.getElem?_take, if_pos (by omega)]
theorem BB.set {W : World} {base g cap : Nat} {bs : List UInt8} (h : BB W base g cap bs) (k : Nat) (y : UInt8) : BB (W.setCell ⟨g, k, none⟩ (.int .u8 (y.toNat : Int))) base g cap (bs.set k y) := by
  obtain ⟨h1, h2, h3, cur, fz, hh, hc, hf⟩ := h
  refine ⟨h1, by simpa using h2, h3, cur.setIfInBounds k (.int .u8 (y.toNat : Int)), fz, ?_, fun j hj => ?_, fun j hj => ?_⟩
  · simp [World.setCell, Array.getElem?_modify, hh]
  · have hj' : j < bs.length := by simpa using hj
    have hs : j < cur.size := (Array.getElem?_eq_some_iff.1 (hc j hj')).1
    rw [Array.getElem?_setIfInBounds, List.getElem?_set]
    by_cases e : k = j
    · subst e; rw [if_pos rfl, if_pos hs, if_pos rfl, if_pos hj']; rfl
    · rw [if_neg e, if_neg e]; exact hc j hj'
  · rw [World.frozen?_setCell]; exact hf j (by simpa using hj)
theorem BB.str {W : World} {base g cap : Nat} {bs : List UInt8} (h : BB W base g cap bs) :
    (convert 22 9 (.slice (some ⟨g, 0, none⟩) bs.length cap)).run Tryz.prog W = .ok (.string ⟨bs.toArray⟩) W := by
  refine run_convert_bytes_back _ 22 9 5 ⟨g, 0, none⟩ cap bs Tryz.underlying22 Tryz.underlying5 Tryz.underlying9 ?_
  intro j hj
  have := h.cell hj
  have e : Addr.add ⟨g, 0, none⟩ j = ⟨g, j, none⟩ := by unfold Addr.add; split <;> simp_all
  rw [e, this]
  simp [hj]
theorem BB.made (w : World) (s : ByteArray) (hs : s.size ≤ 1099511627776) : BB (Lib.bytesWorld w 5 s) w.heap.size w.heap.size (grownCap w s.size 0 5) s.data.toList := by
  refine ⟨Nat.le_refl _, by rw [Array.length_toList]; exact grownCap_ge w s.size 0 _, grownCap_le_maxLen w _ _ _ (by simp only [maxLen]; omega), _, _, Lib.bytesWorld_at_new w 5 s, fun j hj => ?_, fun j hj => ?_⟩
  · have hj' : j < s.size := by rw [Array.length_toList] at hj; exact hj
    have h1 := Lib.bytesWorld_cell w 5 s j hj'
    rw [cell_of_row _ _ j _ 5 _ (Lib.bytesWorld_at_new w 5 s)] at h1
    rw [h1, List.getD_eq_getElem?_getD]
  · have hj' : j < s.size := by rw [Array.length_toList] at hj; exact hj
    have hsz : s.size ≤ (Lib.bytesCells w 5 s).size := by unfold Lib.bytesCells; rw [Array.size_append, Array.size_map]; exact Nat.le_add_right _ _
    simp [World.frozen?, Lib.bytesWorld_at_new]
    omega
/-- The bytes bs as values. -/
def u8l (bs : List UInt8) : List Value := bs.map fun y => .int .u8 (y.toNat : Int)
theorem u8l_len (bs : List UInt8) : (u8l bs).length = bs.length := List.length_map _
theorem u8l_one (bs : List UInt8) : ∀ u ∈ u8l bs, u.oneCell' = true := by
  intro u hu
  obtain ⟨y, _, rfl⟩ := List.mem_map.1 hu
  rfl
theorem u8l_append (a b : List UInt8) : u8l a ++ u8l b = u8l (a ++ b) := (List.map_append ..).symm
theorem BB.reads {W : World} {base g cap : Nat} {bs : List UInt8} (h : BB W base g cap bs) : Reads W (g + 1) 1 (some ⟨g, 0, none⟩) bs.length (u8l bs) := by
  refine ⟨by rw [u8l_len, Nat.mul_one], fun _ => ⟨_, rfl, Nat.lt_succ_self _, fun j u hu => ?_⟩⟩
  have hj : j < bs.length := by
    rcases Nat.lt_or_ge j bs.length with hj | hj
    · exact hj
    · rw [List.getElem?_eq_none (by rw [u8l_len]; exact hj)] at hu; cases hu
  have e : Addr.add ⟨g, 0, none⟩ j = ⟨g, j, none⟩ := by unfold Addr.add; split <;> simp_all
  rw [e, h.cell hj, ← hu]
  simp [u8l, hj]
theorem BB.readsTo {W : World} {base g cap : Nat} {bs : List UInt8} (h : BB W base g cap bs) {k : Nat} (hk : k ≤ bs.length) : Reads W (g + 1) 1 (some ⟨g, 0, none⟩) k (u8l (bs.take k)) := by
  have := (h.take k).reads
  rwa [List.length_take, Nat.min_eq_left hk] at this
theorem BB.readsFrom {W : World} {base g cap : Nat} {bs : List UInt8} (h : BB W base g cap bs) {k : Nat} (hk : k ≤ bs.length) : Reads W (g + 1) 1 (if cap = k then some ⟨g, 0, none⟩ else some ⟨g, k, none⟩) (bs.length - k) (u8l (bs.drop k)) := by
  have := h.reads.cut hk h.2.1
  rw [Nat.mul_one] at this
  have e : Addr.add ⟨g, 0, none⟩ k = ⟨g, k, none⟩ := by unfold Addr.add; split <;> simp_all
  have e2 : (u8l bs).drop k = u8l (bs.drop k) := List.map_drop.symm
  rw [e2, Option.map_some, e] at this
  exact this
theorem bb_of_own {W : World} {base : Nat} {v : Value} {n : Nat} {bs : List UInt8} (h : W.ownsRow base 5 1 v n (u8l bs)) (hv : ∃ g, v.ownBlock = some g) : n = bs.length ∧ ∃ g cap, v = .slice (some ⟨g, 0, none⟩) bs.length cap ∧ BB W base g cap bs := by
  obtain ⟨g0, hg0⟩ := hv
  have hn : n = bs.length := by have := h.1; rw [u8l_len] at this; omega
  subst hn
  refine ⟨rfl, ?_⟩
  rcases h.2 with ⟨rfl, _⟩ | ⟨g, cap, cur, rfl, hb, hg, hnc, hcm, hcs, ht⟩
  · cases hg0
  · refine ⟨g, cap, rfl, hb, hnc, hcm, cur, (0, 0), hg, fun j hj => ?_, fun j _ => ?_⟩
    · have h1 : (cur.toList.take (bs.length * 1))[j]? = (u8l bs)[j]? := by rw [ht]
      rw [List.getElem?_take, if_pos (by omega), Array.getElem?_toList] at h1
      rw [h1]
      simp [u8l, hj]
    · simp [World.frozen?, hg]
theorem grown_drewB (w : World) (row : Option Nat) : w.grownBy w.drew row := ⟨rfl, rfl, rfl, Nat.le_refl _, fun _ _ _ => rfl⟩
theorem reads_one (w : World) (t : TypeId) (v : Value) : Reads (w.alloc (.cells #[v] t)) (w.heap.size + 1) 1 (some ⟨w.heap.size, 0, none⟩) 1 [v] := ⟨rfl, fun _ => ⟨_, rfl, Nat.lt_succ_self _, cell_one_new _ _ _⟩⟩
theorem byte_of {s : ByteArray} {q : Nat} (hq : q < s.size) : (s[q].toNat : Int) ≤ 255 := by have := UInt8.toNat_lt s[q]; omega
theorem below_grown {w w' : World} (h : Below w.heap.size w w') (row : Option Nat) : w.grownBy w' row := ⟨h.os, h.tape, h.output, h.size, fun k hk _ => h.block k hk⟩

set_option maxRecDepth 100000 in
set_option maxHeartbeats 8000000 in
theorem l1Bend_any (c : Nat) (s sg : ByteArray) (w : World) (hC : Cur w c) (hs : s.size ≤ 1073741824) (hg0 : 0 < sg.size) (hg1 : sg.size ≤ 1000) :
    Calls Tryz.prog 25 #[.pointer (some ⟨c, 0, none⟩), .string s, .string sg] w fun e w' => ∃ t : ByteArray, e = .returned (.string t) ∧ t.size ≤ s.size + 2 ∧ Cur w' c ∧ w.grownBy w' (some c) := by
  obtain ⟨i0, hi0, hz0, hz1, hz2⟩ := info_parts info_u8
  have hcl := hC.lt
  have hconv := fun wx => Lib.run_convert_string_bytes (P := Tryz.prog) wx 9 22 5 s Tryz.underlying9 Tryz.underlying22 Tryz.underlying5
  have hM := BB.made w s (by omega)
  have hbM := Lib.bytesWorld_below w 5 s
  have hbl : s.data.toList.length = s.size := Array.length_toList
  have HBL := Lib.hid hbl
  clear hbl
  go_enter Tryz.func25, Tryz.ntmps25
  go_wp2_with fail
  have hC0 := hC.below hbM
  have hG0 : w.grownBy (Lib.bytesWorld w 5 s) (some c) := below_grown hbM _
  clear hconv hbM
  generalize Lib.bytesWorld w 5 s = w0 at *
  generalize grownCap w s.size 0 5 = cap0 at *
  refine (l1Below_any c 3 _ hC0 (by omega) (by omega)).mono ?_
  rintro e w1 ⟨x, rfl, hx0, hx1, _, hC1, hg1'⟩
  obtain ⟨m, rfl⟩ := Int.eq_ofNat_of_zero_le hx0
  have hm3 : m < 3 := by have := hx1 (by omega); omega
  have hM1 := hM.kept hg1' (by simp; omega)
  have hGG1 : w.grownBy w1 (some c) := grown_trans hG0 hg1'
  clear hx0 hx1 hM hC0 hG0 hg1' hC
  go_wp2
  go_loopw [7, 8] (fun v k wr => ∃ (j g cap : Nat) (bs : List UInt8), j ≤ 2 ∧ k = .int .i64 j ∧ v = .slice (some ⟨g, 0, none⟩) bs.length cap ∧ bs.length + j ≤ s.size + 2 ∧ BB wr w.heap.size g cap bs ∧ Cur wr c ∧ w.grownBy wr (some c)) (fun _ k _ => (intOf k).toNat)
  case atStart => exact ⟨m, w.heap.size, cap0, s.data.toList, by omega, rfl, by rw [HBL.out], by rw [HBL.out]; omega, hM1, hC1, hGG1⟩
  case round =>
    obtain ⟨j, g, cap, bs, hj, rfl, rfl, hlen, hB, hCr, hGr⟩ := hrel
    clear hM1 hC1 hGG1 HBL
    by_cases h0 : 0 < j
    · by_cases hn0 : 0 < bs.length
      · go_wp2_with fail
        refine (l1Below_any c bs.length _ hCr (by omega) (by omega)).mono ?_
        rintro e w2 ⟨x2, rfl, hx0, hx1, _, hC2, hg2⟩
        obtain ⟨k, rfl⟩ := Int.eq_ofNat_of_zero_le hx0
        have hkn : k < bs.length := by have := hx1 (by omega); omega
        have hgc : g ≠ c := by have := hB.1; omega
        have hB2 := hB.kept hg2 (by simp; omega)
        have hG2 : w.grownBy w2 (some c) := grown_trans hGr hg2
        clear hx0 hx1 hB hCr hGr hg2
        go_wp2_with fail
        refine (l1Below_any c 4 _ hC2 (by omega) (by omega)).mono ?_
        rintro e w3 ⟨x3, rfl, hx0, hx1, _, hC3, hg3⟩
        obtain ⟨q, rfl⟩ := Int.eq_ofNat_of_zero_le hx0
        have hq4 : q < 4 := by have := hx1 (by omega); omega
        have hB3 := hB2.kept hg3 (by simp; omega)
        have hG3 : w.grownBy w3 (some c) := grown_trans hG2 hg3
        clear hx0 hx1 hB2 hC2 hG2 hg3
        have hkc : k ≤ cap := by have := hB3.2.1; omega
        match q, hq4 with
        | 0, _ =>
          go_wp2_with fail
          refine (l1Below_any c sg.size _ hC3 (by omega) (by omega)).mono ?_
          rintro e w4 ⟨x4, rfl, hx0, hx1, _, hC4, hg4⟩
          obtain ⟨p, rfl⟩ := Int.eq_ofNat_of_zero_le hx0
          have hp : p < sg.size := by have := hx1 (by omega); omega
          have hB4 := hB3.kept hg4 (by simp; omega)
          have hG4 : w.grownBy w4 (some c) := grown_trans hG3 hg4
          have hcell := hB4.cell hkn
          have hfz := hB4.frozen hkn
          clear hx0 hx1 hB3 hC3 hG3 hg4
          go_wp2
          go_roundw
          case rel => exact ⟨j - 1, g, cap, bs.set k sg[p], by omega, by go_num, by simp, by simp; omega, hB4.set k sg[p], hC4.grown (grown_setCell w4 g k _) (fun r e => by cases e; have := hB4.1; omega), grown_own hG4 (grown_setCell w4 g k _) (fun r e => by cases e; exact hB4.1)⟩
          case measure => simp [intOf]; omega
        | 1, _ =>
          go_wp2
          go_roundw
          case rel => exact ⟨j - 1, g, cap, bs.take k, by omega, by go_num, by rw [List.length_take, Nat.min_eq_left (by omega)], by rw [List.length_take]; omega, hB3.take k, hC3, hG3⟩
          case measure => simp [intOf]; omega
        | 2, _ =>
          have hgl := hB3.lt
          obtain ⟨k1, hk1⟩ : ∃ k1 : Nat, k1 = k + 1 := ⟨_, rfl⟩
          have hwr : IntKind.i64.wrap ((k : Int) + 1) = (k1 : Int) := by rw [IntKind.wrap_i64]; omega
          have hk1n : (k1 : Int) ≤ (bs.length : Int) := by omega
          have hk1z : (0 : Int) ≤ (k1 : Int) := by omega
          have hbc : (bs.length : Int) ≤ (cap : Int) := by have := hB3.2.1; omega
          have HK1 := Lib.hid hk1
          clear hk1
          go_wp2_with fail
          have hE : (w3.drew.alloc (.cells #[] 5)).ownsRow w3.heap.size 5 1 (.slice (some ⟨w3.heap.size, 0, none⟩) 0 0) 0 [] := ownsRow_empty w3.drew 5 w3.heap.size (Nat.le_refl _)
          have hB4 : BB (w3.drew.alloc (.cells #[] 5)) w.heap.size g cap bs := BB.kept (W := w3.drew) hB3 (World.grownBy_alloc w3.drew _ none) (by simp)
          have hC4 : Cur (w3.drew.alloc (.cells #[] 5)) c := Cur.below (w := w3.drew) hC3 ((Below.refl _ _).alloc (Nat.le_refl _) _)
          have hG4 : w.grownBy (w3.drew.alloc (.cells #[] 5)) (some c) := grown_own (grown_trans hG3 (grown_drewB w3 _)) (World.grownBy_alloc w3.drew _ none) (fun r e => by cases e)
          have hs3 : w.heap.size ≤ w3.heap.size := hG3.size
          clear hB3 hC3 hG3
          go_region_law (first | (refine step_append_any _ (by rfl) (.tmp 47) (.tmp 50) 22 (by rfl) w3.heap.size 5 i0 (.int .u8 0) 1 1 Tryz.underlying22 hi0 hz0 hz1 hz2 rfl (by decide) _ 0 [] (by rfl) hE (g + 1) (some ⟨g, 0, none⟩) k _ _ (by rfl) (hB4.readsTo (by omega)) (u8l_one _) (by simp only [maxLen]; omega) (by omega) (by simp) ?_; intro v5 w5 hown5 hg5 hat5; have hB5 : BB w5 w.heap.size g cap bs := hB4.kept hg5 (by simp [Value.ownBlock]; omega)) | (refine step_append_any _ (by rfl) (.tmp 51) (.tmp 55) 22 (by rfl) w3.heap.size 5 i0 (.int .u8 0) 1 1 Tryz.underlying22 hi0 hz0 hz1 hz2 rfl (by decide) _ _ _ (by rfl) hown5 (g + 1) _ _ _ _ (by rfl) (hB5.readsFrom (k := k1) (by have := HK1.out; omega)) (u8l_one _) (by simp only [maxLen]; omega) (by omega) (by have := hg5.size; simp at this; omega) ?_; intro v6 w6 hown6 hg6 hat6))
          have hr5 : ∀ r, (Value.slice (some ⟨w3.heap.size, 0, none⟩) 0 0).ownBlock = some r → w3.heap.size ≤ r := fun r e => by simp [Value.ownBlock] at e; omega
          have hr6 : ∀ r, v5.ownBlock = some r → w3.heap.size ≤ r := fun r e => (hown5.lt r e).1
          have hC6 : Cur w6 c := (hC4.grown hg5 (fun r e => by have := hr5 r e; omega)).grown hg6 (fun r e => by have := hr6 r e; omega)
          have hG6 : w.grownBy w6 (some c) := grown_own (grown_own hG4 hg5 (fun r e => by have := hr5 r e; omega)) hg6 (fun r e => by have := hr6 r e; omega)
          have hv6 : ∃ g6, v6.ownBlock = some g6 := by
            rcases hat6 with e | e
            · rcases hat5 with e5 | e5
              · exact ⟨_, e.trans e5⟩
              · exact ⟨_, e.trans e5⟩
            · exact ⟨_, e⟩
          rw [List.nil_append, u8l_append] at hown6
          obtain ⟨_, g6, cap6, hv7, hB6⟩ := bb_of_own (own_mono hown6 hs3) hv6
          have HV := Lib.hid hv7
          clear hv7 hv6 hat6 hat5 hown6 hown5
          have hl7 : (bs.take k ++ bs.drop k1).length = k + (bs.length - k1) := by have := HK1.out; rw [List.length_append, List.length_take, List.length_drop]; omega
          go_wp2
          go_roundw
          case rel => exact ⟨j - 1, g6, cap6, bs.take k ++ bs.drop k1, by omega, by go_num, HV.out, by have := HK1.out; rw [hl7]; omega, hB6, hC6, hG6⟩
          case measure => simp [intOf]; omega
        | 3, _ =>
          have hgl := hB3.lt
          have hbc : (bs.length : Int) ≤ (cap : Int) := by have := hB3.2.1; omega
          have hkz : (0 : Int) ≤ (k : Int) := by omega
          have hkn2 : (k : Int) ≤ (bs.length : Int) := by omega
          go_wp2_with fail
          have hE : (w3.drew.alloc (.cells #[] 5)).ownsRow w3.heap.size 5 1 (.slice (some ⟨w3.heap.size, 0, none⟩) 0 0) 0 [] := ownsRow_empty w3.drew 5 w3.heap.size (Nat.le_refl _)
          have hB4 : BB (w3.drew.alloc (.cells #[] 5)) w.heap.size g cap bs := BB.kept (W := w3.drew) hB3 (World.grownBy_alloc w3.drew _ none) (by simp)
          have hC4 : Cur (w3.drew.alloc (.cells #[] 5)) c := Cur.below (w := w3.drew) hC3 ((Below.refl _ _).alloc (Nat.le_refl _) _)
          have hG4 : w.grownBy (w3.drew.alloc (.cells #[] 5)) (some c) := grown_own (grown_trans hG3 (grown_drewB w3 _)) (World.grownBy_alloc w3.drew _ none) (fun r e => by cases e)
          have hs3 : w.heap.size ≤ w3.heap.size := hG3.size
          have hr5 : ∀ r, (Value.slice (some ⟨w3.heap.size, 0, none⟩) 0 0).ownBlock = some r → w3.heap.size ≤ r := fun r e => by simp [Value.ownBlock] at e; omega
          clear hB3 hC3 hG3
          go_region_law (first
            | (refine step_append_any _ (by rfl) (.tmp 59) (.tmp 62) 22 (by rfl) w3.heap.size 5 i0 (.int .u8 0) 1 1 Tryz.underlying22 hi0 hz0 hz1 hz2 rfl (by decide) _ 0 [] (by rfl) hE (g + 1) (some ⟨g, 0, none⟩) k _ _ (by rfl) (hB4.readsTo (by omega)) (u8l_one _) (by simp only [maxLen]; omega) (by omega) (by simp) ?_; intro v5 w5 hown5 hg5 hat5; have hB5 : BB w5 w.heap.size g cap bs := hB4.kept hg5 (by simp [Value.ownBlock]; omega); have hC5 : Cur w5 c := hC4.grown hg5 (fun r e => by have := hr5 r e; omega); have hG5 : w.grownBy w5 (some c) := grown_own hG4 hg5 (fun r e => by have := hr5 r e; omega); have hs5 : w3.heap.size ≤ w5.heap.size := by { have := hg5.size; simp at this; omega })
            | (refine step_append_any _ (by rfl) (.tmp 63) (.tmp 70) 22 (by rfl) w3.heap.size 5 i0 (.int .u8 0) 1 1 Tryz.underlying22 hi0 hz0 hz1 hz2 rfl (by decide) _ _ _ (by rfl) (hown6.alloc _) (w6.heap.size + 1) _ 1 _ _ (by rfl) (reads_one _ _ _) (u8l_one [sg[p]]) (by simp only [maxLen]; omega) (by omega) (by simp; omega) ?_; intro v7 w7 hown7 hg7 hat7; have hB7 : BB w7 w.heap.size g cap bs := (hB6.kept (World.grownBy_alloc w6 _ none) (by simp)).kept hg7 (fun e => by have := (hown6.lt _ e.symm).1; omega))
            | (refine step_append_any _ (by rfl) (.tmp 71) (.tmp 74) 22 (by rfl) w3.heap.size 5 i0 (.int .u8 0) 1 1 Tryz.underlying22 hi0 hz0 hz1 hz2 rfl (by decide) _ _ _ (by rfl) hown7 (g + 1) _ _ _ _ (by rfl) (hB7.readsFrom (k := k) (by omega)) (u8l_one _) (by simp only [maxLen]; omega) (by omega) (by have := hg7.size; simp at this; omega) ?_; intro v8 w8 hown8 hg8 hat8)
            | (go_simp; refine (l1Below_any c sg.size _ hC5 (by omega) (by omega)).mono ?_; rintro e w6 ⟨x6, rfl, hx0, hx1, _, hC6, hg6⟩; obtain ⟨p, rfl⟩ := Int.eq_ofNat_of_zero_le hx0; have hp : p < sg.size := by { have := hx1 (by omega); omega }; have hB6 := hB5.kept hg6 (by simp; omega); have hown6 := own_keep hown5 hg6 (by omega); have hG6 : w.grownBy w6 (some c) := grown_trans hG5 hg6; have hs6 : w3.heap.size ≤ w6.heap.size := Nat.le_trans hs5 hg6.size; clear hx0 hx1))
          have hr7 : ∀ r, v5.ownBlock = some r → w3.heap.size ≤ r := fun r e => (hown6.lt r e).1
          have hr8 : ∀ r, v7.ownBlock = some r → w3.heap.size ≤ r := fun r e => (hown7.lt r e).1
          have hC8 : Cur w8 c := ((hC6.below ((Below.refl _ _).alloc (Nat.le_refl _) _)).grown hg7 (fun r e => by have := hr7 r e; omega)).grown hg8 (fun r e => by have := hr8 r e; omega)
          have hG8 : w.grownBy w8 (some c) := grown_own (grown_own (grown_own hG6 (World.grownBy_alloc w6 _ none) (fun r e => by cases e)) hg7 (fun r e => by have := hr7 r e; omega)) hg8 (fun r e => by have := hr8 r e; omega)
          have hv8 : ∃ g8, v8.ownBlock = some g8 := by
            rcases hat8 with e | e
            · rcases hat7 with e7 | e7
              · rcases hat5 with e5 | e5
                · exact ⟨_, (e.trans e7).trans e5⟩
                · exact ⟨_, (e.trans e7).trans e5⟩
              · exact ⟨_, e.trans e7⟩
            · exact ⟨_, e⟩
          have hown9 : w8.ownsRow w3.heap.size 5 1 v8 (0 + k + 1 + (bs.length - k)) (u8l (bs.take k ++ [sg[p]] ++ bs.drop k)) := by
            rw [← u8l_append, ← u8l_append]; exact hown8
          obtain ⟨_, g8, cap8, hv9, hB8⟩ := bb_of_own (own_mono hown9 hs3) hv8
          have HV := Lib.hid hv9
          have hl9 : (bs.take k ++ [sg[p]] ++ bs.drop k).length = bs.length + 1 := by rw [List.length_append, List.length_append, List.length_take, List.length_drop, List.length_singleton]; omega
          have HL9 := Lib.hid hl9
          clear hv9 hv8 hat8 hat7 hat5 hown8 hown7 hown6 hown5 hown9 hl9
          go_wp2
          go_roundw
          case rel => exact ⟨j - 1, g8, cap8, bs.take k ++ [sg[p]] ++ bs.drop k, by omega, by go_num, HV.out, by rw [HL9.out]; omega, hB8, hC8, hG8⟩
          case measure => simp [intOf]; omega
      · have hs0 := hB.str
        have hd : decide (0 < bs.length) = false := by simpa using hn0
        go_wp2
        go_ret
        exact ⟨_, rfl, by show bs.toArray.size ≤ _; simp; omega, hCr, hGr⟩
    · have hs0 := hB.str
      have hd : decide (0 < j) = false := by simpa using h0
      go_wp2
      go_ret
      exact ⟨_, rfl, by show bs.toArray.size ≤ _; simp; omega, hCr, hGr⟩
end Go.Proofs.YtdpokfjempdchaaGreatDoor
