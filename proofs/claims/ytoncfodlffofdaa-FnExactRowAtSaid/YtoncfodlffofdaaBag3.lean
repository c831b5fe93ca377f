/- A bag in memory of the call's own: its counts begin one block, its rows each begin another; the contract of the laws' copying of a bag. -/
import Derived.Test.YtoncfodlffofdaaBag2
namespace Go.Proofs.Ytoncfodlffofdaa
open Go.RowKit

/-- The counts begin block g, row j begins block gs j (none of them frozen). -/
def BagAt (w : World) (A : Option Addr) (bag : List (List Int × Int)) (g : Nat) (gs : Nat → Nat) : Prop :=
  0 < bag.length → A = some ⟨g, 0, none⟩ ∧ ∃ cells : Array Value, w.heap[g]? = some (.cells cells 34 (0, 0)) ∧
    ∀ j, j < bag.length → ∃ Ar cap, cells[j * 2]? = some (.slice Ar (rx bag j).length cap) ∧ cells[j * 2 + 1]? = some (.int .i64 (nx bag j)) ∧ Row w 2 Ar (rx bag j) (gs j)
/-- No two rows share a block; all lie at base or behind. -/
def Apart (base : Nat) (bag : List (List Int × Int)) (gs : Nat → Nat) : Prop :=
  (∀ j, j < bag.length → 0 < (rx bag j).length → base ≤ gs j) ∧ ∀ i j, i < j → j < bag.length → 0 < (rx bag i).length → 0 < (rx bag j).length → gs i ≠ gs j
theorem BagAt.bag {w : World} {A : Option Addr} {bag : List (List Int × Int)} {g : Nat} {gs : Nat → Nat} (h : BagAt w A bag g gs) (hl : ∀ j, j < bag.length → (rx bag j).length ≤ 1099511627776) : Bag w w.heap.size A bag := fun hn => by
  obtain ⟨rfl, cells, hg, hc⟩ := h hn
  have hlt : g < w.heap.size := by
    rcases Nat.lt_or_ge g w.heap.size with hlt | hge
    · exact hlt
    · rw [Array.getElem?_eq_none hge] at hg; cases hg
  refine ⟨g, 0, rfl, hlt, fun j hj => ?_⟩
  obtain ⟨Ar, cap, h1, h2, h3⟩ := hc j hj
  exact ⟨Ar, cap, by rw [cell_of_row w g _ cells _ (0, 0) hg, Nat.zero_add]; exact h1, by rw [cell_of_row w g _ cells _ (0, 0) hg, Nat.zero_add]; exact h2, h3.ints, hl j hj⟩
theorem BagAt.on {w w' : World} {A : Option Addr} {bag : List (List Int × Int)} {g : Nat} {gs : Nat → Nat} (h : BagAt w A bag g gs) (hb : Below w.heap.size w w') : BagAt w' A bag g gs := fun hn => by
  obtain ⟨rfl, cells, hg, hc⟩ := h hn
  have hlt : g < w.heap.size := by
    rcases Nat.lt_or_ge g w.heap.size with hlt | hge
    · exact hlt
    · rw [Array.getElem?_eq_none hge] at hg; cases hg
  refine ⟨rfl, cells, (hb.block g hlt).trans hg, fun j hj => ?_⟩
  obtain ⟨Ar, cap, h1, h2, h3⟩ := hc j hj
  exact ⟨Ar, cap, h1, h2, h3.on hb⟩

set_option maxHeartbeats 1000000 in
/-- The given bag's counts are of the laws' own type: laid out alike. -/
theorem toCount_any (A : Option Addr) (c : Nat) (zs : List Int) (n : Int) (w : World) (hI : Ints w w.heap.size A zs) (hl : zs.length ≤ 1099511627776) :
    Calls Try.prog 136 #[.agg #[.slice A zs.length c, .int .i64 n]] w fun e w' => ∃ g, e = .returned (.agg #[.slice (some ⟨g, 0, none⟩) zs.length zs.length, .int .i64 n]) ∧ w.heap.size ≤ g ∧ Blk w' g 2 (i64s zs) ∧ Below w.heap.size w w' := by
  have b1 := (Below.refl w.heap.size w).alloc (Nat.le_refl _) (.cells #[.slice A zs.length c, .int .i64 n] 121)
  have b2 := b1.alloc (by simp) (.cells #[.slice none 0 0, .int .i64 0] 34)
  have b3 := b2.alloc (by simp; omega) (.cells #[.slice none 0 0, .int .i64 0] 34)
  have B1 := ((Blk.new w 121 #[.slice A zs.length c, .int .i64 n]).alloc (.cells #[.slice none 0 0, .int .i64 0] 34)).alloc (.cells #[.slice none 0 0, .int .i64 0] 34)
  have B2 := (Blk.new (w.alloc (.cells #[.slice A zs.length c, .int .i64 n] 121)) 34 #[.slice none 0 0, .int .i64 0]).alloc (.cells #[.slice none 0 0, .int .i64 0] 34)
  have B3 := Blk.new ((w.alloc (.cells #[.slice A zs.length c, .int .i64 n] 121)).alloc (.cells #[.slice none 0 0, .int .i64 0] 34)) 34 #[.slice none 0 0, .int .i64 0]
  have e2 : (w.alloc (.cells #[.slice A zs.length c, .int .i64 n] 121)).heap.size = w.heap.size + 1 := by simp
  have e3 : ((w.alloc (.cells #[.slice A zs.length c, .int .i64 n] 121)).alloc (.cells #[.slice none 0 0, .int .i64 0] 34)).heap.size = w.heap.size + 1 + 1 := by simp
  rw [e2] at B2
  rw [e3] at B3
  clear b1 b2 e2 e3
  go_enter Try.func136, Try.ntmps136
  go_wp2_with fail
  generalize ((w.alloc (.cells #[.slice A zs.length c, .int .i64 n] 121)).alloc (.cells #[.slice none 0 0, .int .i64 0] 34)).alloc (.cells #[.slice none 0 0, .int .i64 0] 34) = wa at *
  refine (toInt64S_any A c zs wa (hI.on b3) hl).mono ?_
  rintro e w1 ⟨rfl, hR, hb1, _⟩
  have C1 := B1.below hb1 B1.lt
  have C2 := B2.below hb1 B2.lt
  have C3 := B3.below hb1 B3.lt
  have hb01 : Below w.heap.size w w1 := b3.trans (hb1.mono b3.size)
  have hlt2 := B2.lt
  have hlt3 := B3.lt
  clear B1 B2 B3 hb1
  have d1 : w1.cell? ⟨w.heap.size, 1, none⟩ = some (.int .i64 n) := C1.cell 1
  have d20 : w1.cell? ⟨w.heap.size + 1, 0, none⟩ = some (.slice none 0 0) := C2.cell 0
  have d21 : w1.cell? ⟨w.heap.size + 1, 1, none⟩ = some (.int .i64 0) := C2.cell 1
  have f20 := C2.frozen 0
  have f21 := C2.frozen 1
  have d30 : w1.cell? ⟨w.heap.size + 1 + 1, 0, none⟩ = some (.slice none 0 0) := C3.cell 0
  have d31 : w1.cell? ⟨w.heap.size + 1 + 1, 1, none⟩ = some (.int .i64 0) := C3.cell 1
  have f30 := C3.frozen 0
  have f31 := C3.frozen 1
  clear C1 C2 C3
  go_wp2_with fail
  refine bodyPost_ret (v := .agg #[.slice (some ⟨wa.heap.size, 0, none⟩) zs.length zs.length, .int .i64 n]) (by simp [results, Try.f136, go_sem, *]) rfl ?_
  have hwa : w.heap.size ≤ wa.heap.size := b3.size
  refine ⟨wa.heap.size, rfl, hwa, ?_, ?_⟩
  · exact (((hR.far (p := ⟨w.heap.size + 1 + 1, 0, none⟩) (by simp; omega) _).far (p := ⟨w.heap.size + 1 + 1, 1, none⟩) (by simp; omega) _).far (p := ⟨w.heap.size + 1, 0, none⟩) (by simp; omega) _).far (p := ⟨w.heap.size + 1, 1, none⟩) (by simp; omega) _
  · exact (((hb01.setCell (by simp; omega) _).setCell (by simp; omega) _).setCell (by simp) _).setCell (by simp) _

theorem info_count : (Try.prog.info? 34).map (fun i => (i.zero, i.size, i.bytes)) = some (some (.agg #[.slice none 0 0, .int .i64 0]), 2, 32) := by kernel_rfl
theorem make_count (n : Nat) (hn : n ≤ 1099511627776) (w : World) : (Instr.makeSlice 24 (.int .i64 (n : Int)) (.int .i64 (n : Int))).run Try.prog w = .ok (.slice (some ⟨w.heap.size, 0, none⟩) n n) (w.alloc (.cells (madeCells #[.slice none 0 0, .int .i64 0] (n * 2)) 34)) := by
  obtain ⟨i, hi, hz, hs, hby⟩ := info_parts info_count
  have := run_make (P := Try.prog) w 24 34 i (.agg #[.slice none 0 0, .int .i64 0]) Try.underlying24 hi hz .i64 .i64 (n : Int) (n : Int) (by omega) (by omega) (by rw [hby]; omega) (by omega)
  rw [hs] at this
  simpa [Value.cells] using this
/-- Copied so far: the first k counts stand in the new block, their rows each in a block of its own behind it. -/
def Copied (w : World) (G : Nat) (bag : List (List Int × Int)) (k : Nat) (wr : World) : Prop :=
  ∃ (cells : Array Value) (gs : Nat → Nat), Blk wr G 34 cells ∧ cells.size = bag.length * 2 ∧ Below w.heap.size w wr ∧
    (∀ j, j < k → cells[j * 2]? = some (.slice (some ⟨gs j, 0, none⟩) (rx bag j).length (rx bag j).length) ∧ cells[j * 2 + 1]? = some (.int .i64 (nx bag j)) ∧ Blk wr (gs j) 2 (i64s (rx bag j)) ∧ G < gs j) ∧
    ∀ i j, i < j → j < k → gs i ≠ gs j

theorem copied_step_ {w w1 wr : World} {G : Nat} {bag : List (List Int × Int)} {k g : Nat} {cells : Array Value} {gs : Nat → Nat} (hcs : cells.size = bag.length * 2) (hlt : k < bag.length) (hB : Blk w1 G 34 cells) (hW : Below w.heap.size w w1) (hg : wr.heap.size ≤ g) (hG : G < wr.heap.size)
    (hR : Blk w1 g 2 (i64s (rx bag k)))
    (hrows : ∀ j, j < k → cells[j * 2]? = some (.slice (some ⟨gs j, 0, none⟩) (rx bag j).length (rx bag j).length) ∧ cells[j * 2 + 1]? = some (.int .i64 (nx bag j)) ∧ Blk w1 (gs j) 2 (i64s (rx bag j)) ∧ G < gs j ∧ gs j < wr.heap.size)
    (hne : ∀ i j, i < j → j < k → gs i ≠ gs j) (hGw : w.heap.size ≤ G := by exact Nat.le_refl _) :
    Copied w G bag (k + 1) ((w1.setCell ⟨G, k * 2, none⟩ (.slice (some ⟨g, 0, none⟩) (rx bag k).length (rx bag k).length)).setCell ⟨G, k * 2 + 1, none⟩ (.int .i64 (nx bag k))) := by
  refine ⟨_, fun j => if j = k then g else gs j, (hB.set_ _ _).set_ _ _, by simpa using hcs, (hW.setCell (p := ⟨G, k * 2, none⟩) hGw _).setCell (p := ⟨G, k * 2 + 1, none⟩) hGw _, fun j hj => ?_, fun i j hij hj => ?_⟩
  · by_cases e : j = k
    · subst e
      simp only [if_true]
      refine ⟨?_, ?_, (hR.far (p := ⟨G, _, none⟩) (by simp; omega) _).far (p := ⟨G, _, none⟩) (by simp; omega) _, by omega⟩
      · rw [Array.getElem?_setIfInBounds, if_neg (by omega), Array.getElem?_setIfInBounds, if_pos rfl, if_pos (by omega)]
      · rw [Array.getElem?_setIfInBounds, if_pos rfl, if_pos (by simp; omega)]
    · simp only [if_neg e]
      obtain ⟨r1, r2, r3, r4, r5⟩ := hrows j (by omega)
      refine ⟨?_, ?_, (r3.far (p := ⟨G, _, none⟩) (by simp; omega) _).far (p := ⟨G, _, none⟩) (by simp; omega) _, r4⟩
      · rw [Array.getElem?_setIfInBounds, if_neg (by omega), Array.getElem?_setIfInBounds, if_neg (by omega)]; exact r1
      · rw [Array.getElem?_setIfInBounds, if_neg (by omega), Array.getElem?_setIfInBounds, if_neg (by omega)]; exact r2
  · by_cases e : j = k
    · subst e
      have hi : ¬ i = j := by omega
      simp only [if_neg hi, if_true]
      have := (hrows i (by omega)).2.2.2.2; omega
    · have hi : ¬ i = k := by omega
      simp only [if_neg hi, if_neg e]; exact hne i j hij (by omega)

set_option maxRecDepth 100000 in
set_option maxHeartbeats 2000000 in
theorem toCountS_full (A : Option Addr) (c : Nat) (bag : List (List Int × Int)) (w : World) (hB : Bag w w.heap.size A bag) (hl : bag.length ≤ 1099511627776) :
    Calls Try.prog 75 #[.slice A bag.length c] w fun e w' => e = .returned (.slice (some ⟨w.heap.size, 0, none⟩) bag.length bag.length) ∧ Copied w w.heap.size bag bag.length w' := by
  have hmk := make_count bag.length hl w
  go_enter Try.func75, Try.ntmps75
  go_wp2
  go_loopw [4] (fun i wr => ∃ k : Nat, k ≤ bag.length ∧ i = .int .i64 k ∧ Copied w w.heap.size bag k wr) (fun i _ => bag.length - (intOf i).toNat)
  case atStart => exact ⟨0, Nat.zero_le _, rfl, _, fun _ => 0, Blk.new w _ _, size_madeCells _ _, (Below.refl _ _).alloc (Nat.le_refl _) _, fun j hj => absurd hj (by omega), fun i j _ hj => absurd hj (by omega)⟩
  case round =>
    obtain ⟨k, hk, rfl, cells, gs, hBk, hcs, hW, hrows, hne⟩ := hrel
    have HC := Lib.hid hrows
    have HN := Lib.hid hne
    have HS := Lib.hid hcs
    clear hrows hne hcs hmk
    by_cases hlt : k < bag.length
    · obtain ⟨b, off, rfl, _, hc⟩ := hB.on hW (by omega)
      obtain ⟨Ar, cap, h1, h2, h3, h4⟩ := hc k hlt
      clear hc
      go_wp2_with fail
      refine (toCount_any Ar cap (rx bag k) (nx bag k) wr h3 h4).mono ?_
      rintro e w1 ⟨g, rfl, hg, hRk, hb1⟩
      have hGl := hBk.lt
      have hB1 := hBk.below hb1 hGl
      have hs0 : k * 2 < cells.size := by rw [HS.out]; omega
      have hs1 : k * 2 + 1 < cells.size := by rw [HS.out]; omega
      have d0 : w1.cell? ⟨w.heap.size, k * 2, none⟩ = some cells[k * 2] := by rw [hB1.cell, Array.getElem?_eq_getElem hs0]
      have d1 : w1.cell? ⟨w.heap.size, k * 2 + 1, none⟩ = some cells[k * 2 + 1] := by rw [hB1.cell, Array.getElem?_eq_getElem hs1]
      have f0 := hB1.frozen (k * 2)
      have f1 := hB1.frozen (k * 2 + 1)
      have hW1 : Below w.heap.size w w1 := hW.trans (hb1.mono hW.size)
      have hC2 : Copied w w.heap.size bag (k + 1) ((w1.setCell ⟨w.heap.size, k * 2, none⟩ (.slice (some ⟨g, 0, none⟩) (rx bag k).length (rx bag k).length)).setCell ⟨w.heap.size, k * 2 + 1, none⟩ (.int .i64 (nx bag k))) :=
        copied_step_ HS.out hlt hB1 hW1 hg hGl hRk (fun j hj => ⟨(HC.out j hj).1, (HC.out j hj).2.1, (HC.out j hj).2.2.1.below hb1 (HC.out j hj).2.2.1.lt, (HC.out j hj).2.2.2, (HC.out j hj).2.2.1.lt⟩) HN.out
      have HC2 := Lib.hid hC2
      clear hC2 hB1 hBk hRk hW hb1 h1 h2 h3
      go_wp2
      go_roundw
      case rel => exact ⟨k + 1, by omega, by go_num, HC2.out⟩
      case measure => simp [intOf]; omega
    · have hd : decide (k < bag.length) = false := by simpa using hlt
      have hkl : k = bag.length := by omega
      have HK := Lib.hid hkl
      clear hkl
      go_wp2
      go_ret
      refine ⟨rfl, ?_⟩
      have hk2 := HK.out
      subst hk2
      exact ⟨cells, gs, hBk, HS.out, hW, HC.out, HN.out⟩
theorem toCountS_any (A : Option Addr) (c : Nat) (bag : List (List Int × Int)) (w : World) (hB : Bag w w.heap.size A bag) (hl : bag.length ≤ 1099511627776) :
    Calls Try.prog 75 #[.slice A bag.length c] w fun e w' => ∃ gs, e = .returned (.slice (some ⟨w.heap.size, 0, none⟩) bag.length bag.length) ∧ BagAt w' (some ⟨w.heap.size, 0, none⟩) bag w.heap.size gs ∧ Apart w.heap.size bag gs ∧ Below w.heap.size w w' :=
  (toCountS_full A c bag w hB hl).mono fun _ _ ⟨he, cells, gs, hBk, _, hW, hC, hN⟩ => by
    refine ⟨gs, he, fun _ => ⟨rfl, cells, hBk, fun j hj => ?_⟩, ⟨fun j hj _ => ?_, fun i j hij hj _ _ => hN i j hij hj⟩, hW⟩
    · obtain ⟨r1, r2, r3, r4⟩ := hC j hj
      exact ⟨_, _, r1, r2, Row.of_blk r3⟩
    · have := (hC j hj).2.2.2; omega
end Go.Proofs.Ytoncfodlffofdaa
