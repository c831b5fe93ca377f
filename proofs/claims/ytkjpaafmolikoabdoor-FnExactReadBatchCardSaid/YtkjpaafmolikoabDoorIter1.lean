/- Contracts of the row iterators (cells, sideBySide) and of the functions that range over them: what each returns; nothing that lay in memory has turned. For slices of at most 2^40 numbers. -/
import Derived.RangeFuncNested
import Derived.RangeFuncBound
import Derived.RangeFuncCalls
import Derived.RangeFuncLeaves
import Derived.RangeFuncBox
import Derived.Shelf.Abstract
import Derived.Shelf.RegionOpen
import Derived.WalkKit
import Derived.OwnWalkIn
import Derived.TacticsInMore
import Derived.LoopNIn
import Derived.LoopIn
import Derived.Test.YtkjpaafmolikoabDoorRows1
namespace Go.Proofs.YtkjpaafmolikoabDoor
open Go.RowKit Go.Shelf
attribute [local go_sem] Oper.semAt_some

set_option maxRecDepth 100000 in
set_option maxHeartbeats 2000000 in
theorem cells1_core (F : Fence) (n : Nat) (h7 : F.fn 72) (hro : F.round = none) (hn : 1 ≤ n) (l Bs n₀ : Nat) (A : Option Addr) (cap : Nat) (zs : List Int) (hl : zs.length ≤ 1099511627776) (J Jx : Nat → World → Prop)
    (hY : ∀ k W, k < zs.length → J k W → YieldAt F (n - 1) Tryd.prog l #[.int .i64 (ix zs k)] W fun e W' =>
      (e = .returned (.bool true) ∧ J (k + 1) W' ∧ Below n₀ W W') ∨ (e = .returned (.bool false) ∧ Jx (k + 1) W'))
    (W : World) (hBs : W.cell? ⟨Bs, 0, none⟩ = some (.slice A zs.length cap)) (hI : Ints W n₀ A zs) (h0 : J 0 W) :
    CallsIn F n Tryd.prog 72 #[.func (.yield l) #[] #[], .pointer (some ⟨Bs, 0, none⟩)] W fun e W' => (∃ v, e = .returned v) ∧
      (J zs.length W' ∨ (∃ k, k < zs.length ∧ Jx (k + 1) W')) := by
  refine callsIn_of_wp Tryd.func72 rfl h7 ?_ hro
  simp only [Tryd.ntmps72, List.size_toArray, List.length_cons, List.length_nil, Nat.reduceAdd, Nat.reduceSub, Array.replicate_succ, Array.replicate_zero, List.push_toArray, List.append_toArray, List.nil_append, List.cons_append]
  gi_wp2
  gi_loopw [7] (fun i wr => ∃ k : Nat, k ≤ zs.length ∧ i = .int .i64 k ∧ J k wr ∧ Below n₀ W wr)
    (fun i _ => zs.length - (intOf i).toNat)
  case atStart => exact ⟨0, Nat.zero_le _, rfl, h0, Below.refl _ _⟩
  case round =>
    obtain ⟨k, hk, rfl, hJs, hnx⟩ := hrel
    by_cases hlt : k < zs.length
    · obtain ⟨b, off, rfl, hb, hc⟩ := hI (by omega)
      obtain ⟨fn, tmps, assign, body, hy, hR⟩ := hY k wr hlt hJs
      have hcx' : wr.cell? ⟨b, off + k, none⟩ = some (.int .i64 (ix zs k)) := (hnx.cell (p := ⟨b, off + k, none⟩) hb).trans (hc k hlt)
      clear hc
      gi_wp2
      refine hR.mono ?_
      rintro e W3 (⟨rfl, hJ3, hk3⟩ | ⟨rfl, hJx3⟩)
      · gi_wp2
        go_roundw
        case rel => exact ⟨k + 1, by omega, by simp, hJ3, hnx.trans hk3⟩
        case measure => simp [intOf]; omega
      · gi_wp2
        refine bodyPost_ret (results_none rfl _ _ _) rfl ?_
        exact ⟨⟨_, rfl⟩, .inr ⟨k, hlt, hJx3⟩⟩
    · gi_wp2
      go_end0
      obtain rfl : k = zs.length := by omega
      exact ⟨⟨_, rfl⟩, .inl hJs⟩

set_option maxHeartbeats 1000000 in
theorem cells_in (F : Fence) (n : Nat) (h5 : F.fn 38) (hro : F.round = none) (a : Option Addr) (len cap : Nat) (w : World) :
    CallsIn F n Tryd.prog 38 #[.slice a len cap] w fun e w' => e = .returned (.func (.func 72) #[] #[.pointer (some ⟨w.heap.size, 0, none⟩)]) ∧ w' = w.alloc (.cells #[.slice a len cap] 24) := by
  refine callsIn_of_wp Tryd.func38 rfl h5 ?_ hro
  simp only [Tryd.ntmps38, List.size_toArray, List.length_cons, List.length_nil, Nat.reduceAdd, Nat.reduceSub, Array.replicate_succ, Array.replicate_zero, List.push_toArray, List.append_toArray, List.nil_append, List.cons_append]
  gi_wp2
  go_ret
  exact ⟨rfl, rfl⟩

theorem take_succ_val {α : Type} (val : α → Int) (xs : List α) (k : Nat) (h : k < xs.length) : xs.take (k + 1) = xs.take k ++ [xs[k]] ∧ ix (xs.map val) k = val xs[k] := by
  refine ⟨List.take_succ_eq_append_getElem h, ?_⟩
  rw [ix_eq _ k (by simpa using h)]; simp

theorem cells_stopsV {α : Type} (val : α → Int) (F : Fence) (n : Nat) (h7 : F.fn 72) (hro : F.round = none) (hn : 1 ≤ n) (Bs n₀ : Nat) (A : Option Addr) (cap : Nat) (xs : List α) (hl : (xs.map val).length ≤ 1099511627776) (w : World) (hBs : Bs < w.heap.size) (hn₀ : n₀ ≤ w.heap.size)
    (hc : w.cell? ⟨Bs, 0, none⟩ = some (.slice A (xs.map val).length cap)) (hI : Ints w n₀ A (xs.map val)) :
    SeqStopsK F n Tryd.prog 72 #[.pointer (some ⟨Bs, 0, none⟩)] (fun x : α => #[Value.int .i64 (val x)]) (Below n₀) (fun ys => ys = xs) (fun pre => pre <+: xs) xs.length w := fun l J Jx W hW _ _ hY h0 => by
  refine (cells1_core F n h7 hro hn l Bs n₀ A cap (xs.map val) hl (fun k W => J (xs.take k) W) (fun k W => Jx (xs.take k) W) ?_ W ((hW.cell (p := ⟨Bs, 0, none⟩) hBs).trans hc) (hI.below (hW.mono hn₀)) (by simpa using h0)).mono ?_
  · intro k W hk hJ
    have hk' : k < xs.length := by simpa using hk
    obtain ⟨e1, e2⟩ := take_succ_val val xs k hk'
    simp only [e1, e2]
    exact hY (xs.take k) xs[k] W hJ (by rw [List.length_take]; omega)
  · rintro e W' ⟨he, hj | ⟨k, hk, hj⟩⟩
    · exact ⟨he, .inl ⟨xs, rfl, by simpa using hj⟩⟩
    · exact ⟨he, .inr ⟨_, List.take_prefix _ _, hj⟩⟩

theorem cells_stopsZ {α : Type} (val : α → Int) (F : Fence) (n : Nat) (h7 : F.fn 72) (hro : F.round = none) (hn : 1 ≤ n) (Bs n₀ : Nat) (A : Option Addr) (cap : Nat) (xs : List α) (zs : List Int) (hz : xs.map val = zs) (hl : zs.length ≤ 1099511627776) (w : World) (hBs : Bs < w.heap.size) (hn₀ : n₀ ≤ w.heap.size)
    (hc : w.cell? ⟨Bs, 0, none⟩ = some (.slice A zs.length cap)) (hI : Ints w n₀ A zs) :
    SeqStopsK F n Tryd.prog 72 #[.pointer (some ⟨Bs, 0, none⟩)] (fun x : α => #[Value.int .i64 (val x)]) (Below n₀) (fun ys => ys = xs) (fun pre => pre <+: xs) xs.length w := by
  subst hz
  exact cells_stopsV val F n h7 hro hn Bs n₀ A cap xs hl w hBs hn₀ hc hI

theorem cells_stops (F : Fence) (n : Nat) (h7 : F.fn 72) (hro : F.round = none) (hn : 1 ≤ n) (Bs n₀ : Nat) (A : Option Addr) (cap : Nat) (zs : List Int) (hl : zs.length ≤ 1099511627776) (w : World) (hBs : Bs < w.heap.size) (hn₀ : n₀ ≤ w.heap.size)
    (hc : w.cell? ⟨Bs, 0, none⟩ = some (.slice A zs.length cap)) (hI : Ints w n₀ A zs) :
    SeqStopsK F n Tryd.prog 72 #[.pointer (some ⟨Bs, 0, none⟩)] (fun x : Int => #[Value.int .i64 x]) (Below n₀) (fun ys => ys = zs) (fun pre => pre <+: zs) zs.length w := by
  have := cells_stopsV (α := Int) id F n h7 hro hn Bs n₀ A cap zs (by simpa using hl) w hBs hn₀ (by simpa using hc) (by simpa using hI)
  simpa using this

theorem cellB_no {x : Int} (h : x < -1000000000 ∨ 1000000000 < x) : cellB x = false := by
  unfold cellB inB
  rcases h with h | h
  · rw [decide_eq_false (by omega : ¬ (-1000000000 : Int) ≤ x)]; rfl
  · rw [decide_eq_false (by omega : ¬ x ≤ (1000000000 : Int))]; simp
theorem cellB_yes {x : Int} (h1 : ¬ x < -1000000000) (h2 : ¬ 1000000000 < x) : cellB x = true := by
  unfold cellB inB
  rw [decide_eq_true (by omega : (-1000000000 : Int) ≤ x), decide_eq_true (by omega : x ≤ (1000000000 : Int))]; rfl
theorem rowOkB_true {zs : List Int} (h : ∀ y ∈ zs, cellB y = true) (hl : zs.length ≤ 6) : rowOkB zs = true := by
  unfold rowOkB
  rw [List.all_eq_true.2 h, decide_eq_true hl]; rfl
theorem rowOkB_false {zs : List Int} {y : Int} (hy : y ∈ zs) (h : cellB y = false) : rowOkB zs = false := by
  unfold rowOkB
  rw [List.all_eq_false.2 ⟨y, hy, by simp [h]⟩]; rfl
theorem rowOkB_long {zs : List Int} (hl : ¬ zs.length ≤ 6) : rowOkB zs = false := by
  unfold rowOkB
  rw [decide_eq_false hl]; simp

set_option maxRecDepth 100000 in
set_option maxHeartbeats 2000000 in
theorem implRowOk_in (F : Fence) (n : Nat) (h4 : F.fn 18) (h5 : F.fn 38) (h6 : F.fn 72) (hro : F.round = none) (hn : 3 ≤ n) (A : Option Addr) (cap : Nat) (zs : List Int) (hl : zs.length ≤ 6) (w : World) (hI : Ints w w.heap.size A zs) :
    CallsIn F n Tryd.prog 18 #[.slice A zs.length cap] w fun e W' => e = .returned (.bool (rowOkB zs)) ∧ Below w.heap.size w W' := by
  have h1 : 1 ≤ n := by omega
  have hd6 : decide ((6 : Int) < (zs.length : Int)) = false := by simp; omega
  refine callsIn_of_wp_marks Tryd.func18 rfl h4 ?_ hro
  simp only [Tryd.ntmps18, List.size_toArray, List.length_cons, List.length_nil, Nat.reduceAdd, Nat.reduceSub, Array.replicate_succ, Array.replicate_zero, List.push_toArray, List.append_toArray, List.nil_append, List.cons_append]
  gi_wp2_with (gi_at_call 38; refine (cells_in F (n - 1) h5 hro _ _ _ _).mono ?_; rintro e w' ⟨rfl, rfl⟩)
  have bR := Boxed.new w 4 (.bool false)
  have bN := Boxed.new (w.alloc (.cells #[.bool false] 4)) 24 (.slice A zs.length cap)
  rw [World.size_alloc] at bN
  have hB0 : Below w.heap.size w ((w.alloc (.cells #[.bool false] 4)).alloc (.cells #[.slice A zs.length cap] 24)) := ((Below.refl _ w).alloc (Nat.le_refl _) _).alloc (by simp) _
  refine wpIn_rangeFunc_ownG hro h1 (gf := 72) (lb := #[.pointer (some ⟨w.heap.size + 1, 0, none⟩)]) rfl h6 (enters_of Tryd.func72 (by kernel_rfl) rfl)
    (cells_stops F (n - 1) h6 hro (by omega) (w.heap.size + 1) w.heap.size A cap zs (by omega) _ (by simp) (by simp; omega) bN.cell (hI.below hB0)) belowK_t (belowK_b (by simp; omega)) (Below.refl _ _) (fun _ => rfl)
    (fun pre W => ((∀ y ∈ pre, cellB y = true) ∧ W.cell? ⟨w.heap.size, 0, none⟩ = some (.bool false) ∧ W.frozen? ⟨w.heap.size, 0, none⟩ = false) ∧ Below w.heap.size w W)
    (fun c pre W => (c = .ret ∧ (∃ y ∈ pre, cellB y = false) ∧ W.cell? ⟨w.heap.size, 0, none⟩ = some (.bool false)) ∧ Below w.heap.size w W)
    (OwnFrom.and (Own.from (fun s A B row hs hg hr => ⟨hs.1, cell_kept hs.2.1 hg hr, (frozen_kept hs.2.1 hg hr).trans hs.2.2⟩) _) (ownFrom_below (Nat.le_refl _) (by simp; omega)))
    (fun c => OwnFrom.and (Own.from (fun s A B row hs hg hr => ⟨hs.1, hs.2.1, cell_kept hs.2.2 hg hr⟩) _) (ownFrom_below (Nat.le_refl _) (by simp; omega)))
    ⟨⟨by simp, (bR.alloc _).cell, (bR.alloc _).frozen⟩, hB0⟩
    (fun x => { tmps := #[.slice A zs.length cap, undef, .pointer (some ⟨w.heap.size, 0, none⟩), .int .i64 x, .slice A zs.length cap, .int .i64 zs.length, .bool false, .slice A zs.length cap, .func (.func 72) #[] #[.pointer (some ⟨w.heap.size + 1, 0, none⟩)], .int .i64 x, undef, undef, undef, undef, undef, undef], defers := [] }) ?assign ?body ?done ?stop
  case assign =>
    intro l x W K hK
    gi_wp2
    exact hK
  case body =>
    rintro l pre x W ⟨⟨hp, hcr, hfr⟩, hB⟩ _
    have HP := Lib.hid hp
    clear hp
    by_cases hx1 : x < -1000000000
    · gi_wp2
      exact ⟨(KeepsOthers.setCell _ _ _).from _, ⟨rfl, ⟨x, List.mem_append.2 (.inr (by simp)), cellB_no (.inl hx1)⟩, World.cell?_setCell_same' _ _ _ (by rw [hcr]; rfl)⟩, hB.setCell (p := ⟨w.heap.size, 0, none⟩) (Nat.le_refl _) _⟩
    · by_cases hx2 : 1000000000 < x
      · gi_wp2
        exact ⟨(KeepsOthers.setCell _ _ _).from _, ⟨rfl, ⟨x, List.mem_append.2 (.inr (by simp)), cellB_no (.inr hx2)⟩, World.cell?_setCell_same' _ _ _ (by rw [hcr]; rfl)⟩, hB.setCell (p := ⟨w.heap.size, 0, none⟩) (Nat.le_refl _) _⟩
      · gi_wp2
        exact ⟨KeepsFrom.refl _ _, Below.refl _ _, ⟨fun y hy => (List.mem_append.1 hy).elim (HP.out y) (fun e => by simp at e; subst e; exact cellB_yes (by omega) (by omega)), hcr, hfr⟩, hB⟩
  case done =>
    rintro D ys W hD rfl ⟨⟨hne, hcr, hfr⟩, hB⟩ hK
    have HNE := Lib.hid hne
    clear hne
    gi_wp2
    have hK' := (KeepsOthers.setCell W ⟨w.heap.size, 0, none⟩ (.bool true)).same D _ hK rfl
    refine ⟨by simp, .inl ⟨_, _, rfl, run_takeDeferred hK', ?_⟩⟩
    have hc5 := cell_kept (World.cell?_setCell_same' W ⟨w.heap.size, 0, none⟩ (.bool true) (by rw [hcr]; rfl)) (grownBy_putObj' _ D (.deferred none)) (fun r e => by cases e; exact ⟨_, hK', rfl⟩)
    refine ⟨.bool true, ?_, by rw [rowOkB_true HNE.out hl], (hB.setCell (p := ⟨w.heap.size, 0, none⟩) (Nat.le_refl _) _).trans (belowK_b (w := w) (Nat.le_refl _) _ D _ _ (by simp at hD; omega) hK' rfl rfl)⟩
    simp [results, Tryd.f18, go_sem, hc5]
  case stop =>
    rintro D c pre W hD hpre ⟨⟨rfl, ⟨y, hy, hyf⟩, hcr⟩, hB⟩ hK
    have HY := Lib.hid hyf
    clear hyf
    gi_wp2
    refine ⟨by simp, .inl ⟨_, _, rfl, run_takeDeferred hK, ?_⟩⟩
    have hc5 := cell_kept hcr (grownBy_putObj' _ D (.deferred none)) (fun r e => by cases e; exact ⟨_, hK, rfl⟩)
    refine ⟨.bool false, ?_, by rw [rowOkB_false (hpre.subset hy) HY.out], hB.trans (belowK_b (w := w) (Nat.le_refl _) W D _ _ (by simp at hD; omega) hK rfl rfl)⟩
    simp [results, Tryd.f18, go_sem, hc5]

set_option maxHeartbeats 1000000 in
theorem implRowOk_long (A : Option Addr) (cap : Nat) (zs : List Int) (hl : ¬ zs.length ≤ 6) (hl2 : zs.length ≤ 1099511627776) (w : World) :
    Calls Tryd.prog 18 #[.slice A zs.length cap] w fun e W' => e = .returned (.bool (rowOkB zs)) ∧ Below w.heap.size w W' := by
  have h6 : (6 : Int) < zs.length := by omega
  go_enter Tryd.func18, Tryd.ntmps18
  go_wp2
  exact bodyPost_ret (v := .bool false) (by simp [results, Tryd.f18, go_sem]) rfl ⟨by rw [rowOkB_long hl], ((Below.refl _ _).alloc (Nat.le_refl _) _)⟩

theorem implRowOk_any (A : Option Addr) (cap : Nat) (zs : List Int) (hl : zs.length ≤ 1099511627776) (w : World) (hI : Ints w w.heap.size A zs) :
    Calls Tryd.prog 18 #[.slice A zs.length cap] w fun e W' => e = .returned (.bool (rowOkB zs)) ∧ Below w.heap.size w W' := by
  by_cases h : zs.length ≤ 6
  · exact (callsIn_wide (n := 3)).1 (implRowOk_in Fence.wide 3 trivial trivial trivial rfl (Nat.le_refl _) A cap zs h w hI)
  · exact implRowOk_long A cap zs h hl w

theorem implRowOk_yes (A : Option Addr) (cap : Nat) (zs : List Int) (hl : zs.length ≤ 1099511627776) (w : World) (hI : Ints w w.heap.size A zs) (h : rowOkB zs = true) :
    Calls Tryd.prog 18 #[.slice A zs.length cap] w fun e W' => e = .returned (.bool true) ∧ Below w.heap.size w W' := by rw [← h]; exact implRowOk_any A cap zs hl w hI
theorem implRowOk_no (A : Option Addr) (cap : Nat) (zs : List Int) (hl : zs.length ≤ 1099511627776) (w : World) (hI : Ints w w.heap.size A zs) (h : rowOkB zs = false) :
    Calls Tryd.prog 18 #[.slice A zs.length cap] w fun e W' => e = .returned (.bool false) ∧ Below w.heap.size w W' := by rw [← h]; exact implRowOk_any A cap zs hl w hI
theorem specRowOk_yes (A : Option Addr) (c : Nat) (zs : List Int) (w : World) (B : Nat) (hI : Ints w B A zs) (hl : zs.length ≤ 1099511627776) (h : rowOkB zs = true) :
    Calls Tryd.prog 19 #[.slice A zs.length c] w fun e w' => e = .returned (.bool true) ∧ w = w' := by rw [← h]; exact specRowOk_any A c zs w B hI hl
theorem specRowOk_no (A : Option Addr) (c : Nat) (zs : List Int) (w : World) (B : Nat) (hI : Ints w B A zs) (hl : zs.length ≤ 1099511627776) (h : rowOkB zs = false) :
    Calls Tryd.prog 19 #[.slice A zs.length c] w fun e w' => e = .returned (.bool false) ∧ w = w' := by rw [← h]; exact specRowOk_any A c zs w B hI hl
end Go.Proofs.YtkjpaafmolikoabDoor
