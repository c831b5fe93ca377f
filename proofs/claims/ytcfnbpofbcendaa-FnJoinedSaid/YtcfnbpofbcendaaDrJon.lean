/- What the model draws for Joined: two bags and two numbers; the law's own places. For codes of at most 2^20 bytes. -/
import Derived.Test.YtcfnbpofbcendaaDrawSum
import Derived.Test.YtcfnbpofbcendaaJon0
namespace Go.Proofs.Ytcfnbpofbcendaa
open Go.RowKit

def DrawnJ (w : World) (e : Ending) (w' : World) : Prop :=
  ∃ g cap bag g' cap' bag' p q, e = .returned (.tuple #[.slice (some ⟨g, 0, none⟩) bag.length cap, .slice (some ⟨g', 0, none⟩) bag'.length cap', .int .i64 p, .int .i64 q]) ∧ Bag w' w'.heap.size (some ⟨g, 0, none⟩) bag ∧ bag.length ≤ cap ∧ bag.length ≤ 400 ∧ Bag w' w'.heap.size (some ⟨g', 0, none⟩) bag' ∧ bag'.length ≤ 400 ∧ (∀ x ∈ bag, x.1.length ≤ 1000) ∧ (∀ x ∈ bag', x.1.length ≤ 1000) ∧ Below w.heap.size w w'
theorem RB.drawnJ {w w' : World} {lo g cap lo' g' cap' : Nat} {es es' : List Ent} {v : Value} {p q : Int} (h : RB w' lo g cap es) (h' : RB w' lo' g' cap' es') (hv : v = .tuple #[.slice (some ⟨g, 0, none⟩) es.length cap, .slice (some ⟨g', 0, none⟩) es'.length cap', .int .i64 p, .int .i64 q]) (hl : es.length ≤ 400) (he : ∀ e ∈ es, e.r.length ≤ 1000) (hl' : es'.length ≤ 400) (he' : ∀ e ∈ es', e.r.length ≤ 1000) (hb : Below w.heap.size w w') : DrawnJ w (.returned v) w' :=
  ⟨g, cap, es.map Ent.pair, g', cap', es'.map Ent.pair, p, q, by rw [hv, List.length_map, List.length_map], h.bag (fun e hm => by have := he e hm; omega), by rw [List.length_map]; exact h.cap, by rw [List.length_map]; exact hl, h'.bag (fun e hm => by have := he' e hm; omega), by rw [List.length_map]; exact hl', (fun x hx => by obtain ⟨e, hm, rfl⟩ := List.mem_map.1 hx; exact he e hm), (fun x hx => by obtain ⟨e, hm, rfl⟩ := List.mem_map.1 hx; exact he' e hm), hb⟩
theorem l2Draw_at (c wd : Nat) (x : Int) (sg : Bool) (w : World) (hx : x = wd) (hC : Cur w c) (hwd : wd ≤ 1000) :
    Calls Try.prog 64 #[.pointer (some ⟨c, 0, none⟩), .int .i64 x, .bool sg] w (DrawnOB c 8 1000 w) := by subst hx; exact l2Draw_any c wd sg w hC hwd

set_option maxRecDepth 100000 in
set_option maxHeartbeats 4000000 in
theorem drawJoined_any (A : Option Addr) (cap : Nat) (zs : List Int) (w : World) (hU : U8s w w.heap.size A zs) (hl : zs.length ≤ 1048576) :
    Calls Try.prog 35 #[.slice A zs.length cap] w (DrawnJ w) := by
  go_enter Try.func35, Try.ntmps35
  go_wp2_with fail
  refine (l1New_any A cap zs _ hU hl).mono ?_
  rintro e w1 ⟨rfl, hC1, hb1⟩
  go_wp2_with fail
  refine (l1Once_any _ 2 _ hC1 (by omega) (by omega)).mono ?_
  rintro e w2 ⟨b2, rfl, hC2, hg2⟩
  have hb2 : Below w.heap.size w w2 := hb1.grown hg2 hb1.size (fun k e => by cases e; exact Nat.le_refl _)
  clear hC1 hg2 hb1
  go_wp2_with fail
  refine (l2Draw_any _ 2 b2 w2 hC2 (by omega)).mono ?_
  rintro e w3 ⟨g, cp, es, rfl, hO3, hel, hes, hC3, hg3⟩
  have HES := Lib.hid hes
  have hR3 := hO3.rb
  have hb3 : Below w.heap.size w w3 := hb2.grown hg3 hb2.size (fun k e => by cases e; exact Nat.le_refl _)
  clear hes hO3 hg3 hC2 hb2
  go_wp2_with fail
  refine (l1Below_any _ 2 _ hC3 (by omega) (by omega)).mono ?_
  rintro e w4 ⟨x, rfl, hx0, hx1, _, hC4, hg4⟩
  have hx2 := hx1 (by omega)
  obtain ⟨m, rfl⟩ : ∃ m : Nat, x = m := ⟨x.toNat, by omega⟩
  have hR4 := hR3.grownC hg4 hC3
  have hb4 : Below w.heap.size w w4 := hb3.grown hg4 hb3.size (fun k e => by cases e; exact Nat.le_refl _)
  clear hR3 hg4 hC3 hb3 hx1
  go_wp2_with fail
  refine (l1Once_any _ 2 _ hC4 (by omega) (by omega)).mono ?_
  rintro e w5 ⟨b5, rfl, hC5, hg5⟩
  have hR5 := hR4.grownC hg5 hC4
  have hb5 : Below w.heap.size w w5 := hb4.grown hg5 hb4.size (fun k e => by cases e; exact Nat.le_refl _)
  clear hR4 hg5 hC4 hb4
  go_wp2_with fail
  refine (l2Draw_at _ (1 + m) _ b5 w5 (by omega) hC5 (by omega)).mono ?_
  rintro e w6 ⟨g', cp', es', rfl, hO6, hel', hes', hC6, hg6⟩
  have HES' := Lib.hid hes'
  have hR6' := hO6.rb
  have hR6 := hR5.grownC hg6 hC5
  have hb6 : Below w.heap.size w w6 := hb5.grown hg6 hb5.size (fun k e => by cases e; exact Nat.le_refl _)
  clear hes' hO6 hg6 hC5 hb5 hR5
  go_wp2_with fail
  refine (l1Once_any _ 8 _ hC6 (by omega) (by omega)).mono ?_
  rintro e w7 ⟨b7, rfl, hC7, hg7⟩
  have hR7 := hR6.grownC hg7 hC6
  have hR7' := hR6'.grownC hg7 hC6
  have hb7 : Below w.heap.size w w7 := hb6.grown hg7 hb6.size (fun k e => by cases e; exact Nat.le_refl _)
  clear hR6 hR6' hg7 hC6 hb6
  have hel4' : es'.length ≤ 400 := by omega
  cases b7 with
  | false =>
    go_wp2_with fail
    refine (l1Below_any _ 2 _ hC7 (by omega) (by omega)).mono ?_
    rintro e w10 ⟨x, rfl, hx0, hx1, _, hC10, hg10⟩
    have hR10 := hR7.grownC hg10 hC7
    have hR10' := hR7'.grownC hg10 hC7
    have hb10 : Below w.heap.size w w10 := hb7.grown hg10 hb7.size (fun k e => by cases e; exact Nat.le_refl _)
    clear hR7 hR7' hg10 hC7 hb7 hx1 hx0
    go_wp2_with fail
    refine (l1Once_any _ 8 _ hC10 (by omega) (by omega)).mono ?_
    rintro e w11 ⟨b11, rfl, hC11, hg11⟩
    have hR11 := hR10.grownC hg11 hC10
    have hR11' := hR10'.grownC hg11 hC10
    have hb11 : Below w.heap.size w w11 := hb10.grown hg11 hb10.size (fun k e => by cases e; exact Nat.le_refl _)
    clear hR10 hR10' hg11 hC10 hb10
    cases b11 with
    | false =>
      go_wp2_with fail
      refine (l1Below_any _ 2 _ hC11 (by omega) (by omega)).mono ?_
      rintro e w20 ⟨y, rfl, hy0, hy1, _, hC20, hg20⟩
      have hy2 := hy1 (by omega)
      have hR20 := hR11.grownC hg20 hC11
      have hR20' := hR11'.grownC hg20 hC11
      have hb20 : Below w.heap.size w w20 := hb11.grown hg20 hb11.size (fun k e => by cases e; exact Nat.le_refl _)
      clear hR11 hR11' hg20 hC11 hb11 hy1
      go_wp2_with fail
      refine (l1Below_any _ _ _ hC20 (by omega) (by omega)).mono ?_
      rintro e w21 ⟨z, rfl, hz0, _, _, hC21, hg21⟩
      have hR21 := hR20.grownC hg21 hC20
      have hR21' := hR20'.grownC hg21 hC20
      have hb21 : Below w.heap.size w w21 := hb20.grown hg21 hb20.size (fun k e => by cases e; exact Nat.le_refl _)
      clear hR20 hR20' hg21 hC20 hb20 hC21
      go_wp2
      refine bodyPost_ret (v := .tuple #[.slice (some ⟨g, 0, none⟩) es.length cp, .slice (some ⟨g', 0, none⟩) es'.length cp', .int .i64 x, .int .i64 z]) (by simp [results, Try.f35, go_sem, *]) rfl ?_
      exact hR21.drawnJ hR21' rfl (by omega) HES.out hel4' HES'.out hb21
    | true =>
      go_wp2_with fail
      refine (l1From_any _ (-1) 3 _ hC11 (by omega) (by omega) (by omega)).mono ?_
      rintro e w12 ⟨x2, rfl, _, _, hC12, hg12⟩
      have hR12 := hR11.grownC hg12 hC11
      have hR12' := hR11'.grownC hg12 hC11
      have hb12 : Below w.heap.size w w12 := hb11.grown hg12 hb11.size (fun k e => by cases e; exact Nat.le_refl _)
      clear hR11 hR11' hg12 hC11 hb11
      go_wp2_with fail
      refine (l1Below_any _ 2 _ hC12 (by omega) (by omega)).mono ?_
      rintro e w20 ⟨y, rfl, hy0, hy1, _, hC20, hg20⟩
      have hy2 := hy1 (by omega)
      have hR20 := hR12.grownC hg20 hC12
      have hR20' := hR12'.grownC hg20 hC12
      have hb20 : Below w.heap.size w w20 := hb12.grown hg20 hb12.size (fun k e => by cases e; exact Nat.le_refl _)
      clear hR12 hR12' hg20 hC12 hb12 hy1
      go_wp2_with fail
      refine (l1Below_any _ _ _ hC20 (by omega) (by omega)).mono ?_
      rintro e w21 ⟨z, rfl, hz0, _, _, hC21, hg21⟩
      have hR21 := hR20.grownC hg21 hC20
      have hR21' := hR20'.grownC hg21 hC20
      have hb21 : Below w.heap.size w w21 := hb20.grown hg21 hb20.size (fun k e => by cases e; exact Nat.le_refl _)
      clear hR20 hR20' hg21 hC20 hb20 hC21
      go_wp2
      refine bodyPost_ret (v := .tuple #[.slice (some ⟨g, 0, none⟩) es.length cp, .slice (some ⟨g', 0, none⟩) es'.length cp', .int .i64 x2, .int .i64 z]) (by simp [results, Try.f35, go_sem, *]) rfl ?_
      exact hR21.drawnJ hR21' rfl (by omega) HES.out hel4' HES'.out hb21
  | true =>
    go_wp2_with fail
    refine (l2DrawAny_any _ _ hC7).mono ?_
    rintro e w8 ⟨g8, cp8, es8, rfl, hR8, hel8, hes8, hC8, hg8⟩
    have HES8 := Lib.hid hes8
    have hR8' := hR7'.grownC hg8 hC7
    have hb8 : Below w.heap.size w w8 := hb7.grown hg8 hb7.size (fun k e => by cases e; exact Nat.le_refl _)
    clear hes8 hg8 hC7 hb7 hR7 hR7'
    go_wp2_with fail
    refine (l1Below_any _ 2 _ hC8 (by omega) (by omega)).mono ?_
    rintro e w10 ⟨x, rfl, hx0, hx1, _, hC10, hg10⟩
    have hR10 := hR8.grownC hg10 hC8
    have hR10' := hR8'.grownC hg10 hC8
    have hb10 : Below w.heap.size w w10 := hb8.grown hg10 hb8.size (fun k e => by cases e; exact Nat.le_refl _)
    clear hR8 hR8' hg10 hC8 hb8 hx1 hx0
    go_wp2_with fail
    refine (l1Once_any _ 8 _ hC10 (by omega) (by omega)).mono ?_
    rintro e w11 ⟨b11, rfl, hC11, hg11⟩
    have hR11 := hR10.grownC hg11 hC10
    have hR11' := hR10'.grownC hg11 hC10
    have hb11 : Below w.heap.size w w11 := hb10.grown hg11 hb10.size (fun k e => by cases e; exact Nat.le_refl _)
    clear hR10 hR10' hg11 hC10 hb10
    cases b11 with
    | false =>
      go_wp2_with fail
      refine (l1Below_any _ 2 _ hC11 (by omega) (by omega)).mono ?_
      rintro e w20 ⟨y, rfl, hy0, hy1, _, hC20, hg20⟩
      have hy2 := hy1 (by omega)
      have hR20 := hR11.grownC hg20 hC11
      have hR20' := hR11'.grownC hg20 hC11
      have hb20 : Below w.heap.size w w20 := hb11.grown hg20 hb11.size (fun k e => by cases e; exact Nat.le_refl _)
      clear hR11 hR11' hg20 hC11 hb11 hy1
      go_wp2_with fail
      refine (l1Below_any _ _ _ hC20 (by omega) (by omega)).mono ?_
      rintro e w21 ⟨z, rfl, hz0, _, _, hC21, hg21⟩
      have hR21 := hR20.grownC hg21 hC20
      have hR21' := hR20'.grownC hg21 hC20
      have hb21 : Below w.heap.size w w21 := hb20.grown hg21 hb20.size (fun k e => by cases e; exact Nat.le_refl _)
      clear hR20 hR20' hg21 hC20 hb20 hC21
      go_wp2
      refine bodyPost_ret (v := .tuple #[.slice (some ⟨g8, 0, none⟩) es8.length cp8, .slice (some ⟨g', 0, none⟩) es'.length cp', .int .i64 x, .int .i64 z]) (by simp [results, Try.f35, go_sem, *]) rfl ?_
      exact hR21.drawnJ hR21' rfl (by omega) HES8.out hel4' HES'.out hb21
    | true =>
      go_wp2_with fail
      refine (l1From_any _ (-1) 3 _ hC11 (by omega) (by omega) (by omega)).mono ?_
      rintro e w12 ⟨x2, rfl, _, _, hC12, hg12⟩
      have hR12 := hR11.grownC hg12 hC11
      have hR12' := hR11'.grownC hg12 hC11
      have hb12 : Below w.heap.size w w12 := hb11.grown hg12 hb11.size (fun k e => by cases e; exact Nat.le_refl _)
      clear hR11 hR11' hg12 hC11 hb11
      go_wp2_with fail
      refine (l1Below_any _ 2 _ hC12 (by omega) (by omega)).mono ?_
      rintro e w20 ⟨y, rfl, hy0, hy1, _, hC20, hg20⟩
      have hy2 := hy1 (by omega)
      have hR20 := hR12.grownC hg20 hC12
      have hR20' := hR12'.grownC hg20 hC12
      have hb20 : Below w.heap.size w w20 := hb12.grown hg20 hb12.size (fun k e => by cases e; exact Nat.le_refl _)
      clear hR12 hR12' hg20 hC12 hb12 hy1
      go_wp2_with fail
      refine (l1Below_any _ _ _ hC20 (by omega) (by omega)).mono ?_
      rintro e w21 ⟨z, rfl, hz0, _, _, hC21, hg21⟩
      have hR21 := hR20.grownC hg21 hC20
      have hR21' := hR20'.grownC hg21 hC20
      have hb21 : Below w.heap.size w w21 := hb20.grown hg21 hb20.size (fun k e => by cases e; exact Nat.le_refl _)
      clear hR20 hR20' hg21 hC20 hb20 hC21
      go_wp2
      refine bodyPost_ret (v := .tuple #[.slice (some ⟨g8, 0, none⟩) es8.length cp8, .slice (some ⟨g', 0, none⟩) es'.length cp', .int .i64 x2, .int .i64 z]) (by simp [results, Try.f35, go_sem, *]) rfl ?_
      exact hR21.drawnJ hR21' rfl (by omega) HES8.out hel4' HES'.out hb21
end Go.Proofs.Ytcfnbpofbcendaa
