/- What the model draws for Grouped: a bag, places, a place. For codes of at most 2^20 bytes. -/
import Derived.Test.YtcfnbpofbcendabDrawSum
import Derived.Test.YtcfnbpofbcendabDraw3
namespace Go.Proofs.Ytcfnbpofbcendab
open Go.RowKit

def DrawnG (w : World) (e : Ending) (w' : World) : Prop :=
  ∃ g cap bag A cap' ps p, e = .returned (.tuple #[.slice (some ⟨g, 0, none⟩) bag.length cap, .slice A ps.length cap', .int .i64 p]) ∧ Bag w' w'.heap.size (some ⟨g, 0, none⟩) bag ∧ bag.length ≤ 400 ∧ (∀ x ∈ bag, x.1.length ≤ 1000) ∧ Ints w' w'.heap.size A ps ∧ ps.length ≤ 4 ∧ -1 ≤ p ∧ p ≤ 2 ∧ Below w.heap.size w w'
theorem own_cellsG {w : World} {base n : Nat} {e : TypeId} {v : Value} {zs : List Int} (h : w.ownsRow base e 1 v n (zs.map (Value.int .i64))) (hn : 0 < n) : ∃ g cap, v = .slice (some ⟨g, 0, none⟩) n cap ∧ n ≤ cap ∧ base ≤ g ∧ g < w.heap.size ∧ ∀ j, j < n → w.cell? ⟨g, j, none⟩ = some (.int .i64 (ix zs j)) := by
  obtain ⟨h1, h2⟩ := h
  have hzl : zs.length = n := by simpa using h1
  rcases h2 with ⟨h3, h4⟩ | ⟨g, cap, cur, rfl, h4, h5, h6, h7, h8, h9⟩
  · omega
  · refine ⟨g, cap, rfl, h6, h4, Blk.lt (t := e) (cs := cur) h5, fun j hj => ?_⟩
    rw [Blk.cell (t := e) (cs := cur) h5 j]
    have e1 : (cur.toList.take (n * 1))[j]? = (zs.map (Value.int .i64))[j]? := by rw [h9]
    rw [List.getElem?_take, if_pos (by omega), Array.getElem?_toList] at e1
    rw [e1]
    simp [ix, show j < zs.length by omega]
theorem ints_own1 {w : World} {base c : Nat} {e : TypeId} {A : Option Addr} {zs : List Int} (h : w.ownsRow base e 1 (.slice A zs.length c) zs.length (i64l zs)) : Ints w w.heap.size A zs := fun hn => by
  obtain ⟨g, cap, hv, _, _, hg, hc⟩ := own_cellsG h hn
  injection hv with e1 _ _
  exact ⟨g, 0, e1, hg, fun j hj => by rw [Nat.zero_add]; exact hc j hj⟩
theorem RB.drawnG {w w' : World} {lo g cap cap' : Nat} {es : List Ent} {A : Option Addr} {ps : List Int} {v : Value} {p : Int} (h : RB w' lo g cap es) (hv : v = .tuple #[.slice (some ⟨g, 0, none⟩) es.length cap, .slice A ps.length cap', .int .i64 p]) (hl : es.length ≤ 400) (he : ∀ e ∈ es, e.r.length ≤ 1000) (hI : Ints w' w'.heap.size A ps) (hp : ps.length ≤ 4) (h0 : -1 ≤ p) (h1 : p ≤ 2) (hb : Below w.heap.size w w') : DrawnG w (.returned v) w' :=
  ⟨g, cap, es.map Ent.pair, A, cap', ps, p, by rw [hv, List.length_map], h.bag (fun e hm => by have := he e hm; omega), by rw [List.length_map]; exact hl, (fun x hx => by obtain ⟨e, hm, rfl⟩ := List.mem_map.1 hx; exact he e hm), hI, hp, h0, h1, hb⟩

set_option maxRecDepth 100000 in
set_option maxHeartbeats 4000000 in
theorem drawGrouped_any (A : Option Addr) (cap : Nat) (zs : List Int) (w : World) (hU : U8s w w.heap.size A zs) (hl : zs.length ≤ 1048576) :
    Calls Try.prog 5 #[.slice A zs.length cap] w (DrawnG w) := by
  go_enter Try.func5, Try.ntmps5
  go_wp2_with fail
  refine (l1New_any A cap zs _ hU hl).mono ?_
  rintro e w1 ⟨rfl, hC1, hb1⟩
  go_wp2_with fail
  refine (l1Once_any _ 2 _ hC1 (by omega) (by omega)).mono ?_
  rintro e w2 ⟨b2, rfl, hC2, hg2⟩
  have hb2 : Below w.heap.size w w2 := hb1.grown hg2 hb1.size (fun k e => by cases e; exact Nat.le_refl _)
  clear hC1 hg2 hb1
  go_wp2_with fail
  refine (l2Draw_any _ 3 b2 w2 hC2 (by omega)).mono ?_
  rintro e w3 ⟨g, cp, es, rfl, hO3, hel, hes, hC3, hg3⟩
  have HES := Lib.hid hes
  have hR3 := hO3.rb
  have hb3 : Below w.heap.size w w3 := hb2.grown hg3 hb2.size (fun k e => by cases e; exact Nat.le_refl _)
  clear hes hO3 hg3 hC2 hb2
  go_wp2_with fail
  refine (l1Once_any _ 6 _ hC3 (by omega) (by omega)).mono ?_
  rintro e w4 ⟨b4, rfl, hC4, hg4⟩
  have hR4 := hR3.grownC hg4 hC3
  have hb4 : Below w.heap.size w w4 := hb3.grown hg4 hb3.size (fun k e => by cases e; exact Nat.le_refl _)
  clear hR3 hg4 hC3 hb3
  have hel4 : es.length ≤ 400 := by omega
  cases b4 with
  | false =>
    go_wp2_with fail
    refine (l1DrawPlaces_any _ 3 _ hC4 (by omega)).mono ?_
    rintro e w6 ⟨v6, ps, rfl, hpl, hown6, hC6, hg6⟩
    obtain ⟨Ap, cpp, rfl⟩ := own_form hown6
    have hR6 := hR4.grownC hg6 hC4
    have hb6 : Below w.heap.size w w6 := hb4.grown hg6 hb4.size (fun k e => by cases e; exact Nat.le_refl _)
    have hq6 := hb4.size
    have hc6 := hC4.lt
    clear hR4 hg6 hC4 hb4
    go_wp2_with fail
    refine (l1Once_any _ 4 _ hC6 (by omega) (by omega)).mono ?_
    rintro e w7 ⟨b7, rfl, hC7, hg7⟩
    have hR7 := hR6.grownC hg7 hC6
    have hown7 := own_keep hown6 hg7 hc6
    have hb7 : Below w.heap.size w w7 := hb6.grown hg7 hb6.size (fun k e => by cases e; exact Nat.le_refl _)
    clear hR6 hg7 hown6 hb6 hC6
    cases b7 with
    | false =>
      go_wp2_with fail
      refine (l1From_any _ (-1) 2 _ hC7 (by omega) (by omega) (by omega)).mono ?_
      rintro e w8 ⟨x, rfl, hx0, hx1, hC8, hg8⟩
      have hR8 := hR7.grownC hg8 hC7
      have hown8 := own_keep hown7 hg8 hc6
      have hb8 : Below w.heap.size w w8 := hb7.grown hg8 hb7.size (fun k e => by cases e; exact Nat.le_refl _)
      clear hR7 hg8 hown7 hb7 hC7 hC8
      go_wp2
      refine bodyPost_ret (v := .tuple #[.slice (some ⟨g, 0, none⟩) es.length cp, .slice Ap ps.length cpp, .int .i64 x]) (by simp [results, Try.f5, go_sem, *]) rfl ?_
      exact hR8.drawnG rfl hel4 HES.out (ints_own1 hown8) hpl hx0 hx1 hb8
    | true =>
      have hC8 : Cur (w7.alloc (.cells #[] 2)) w.heap.size := hC7.below ((Below.refl _ _).alloc (Nat.le_refl _) _)
      have hR8 := hR7.on ((Below.refl _ _).alloc (Nat.le_refl _) (.cells #[] 2))
      have hb8 := hb7.alloc hb7.size (.cells #[] 2)
      clear hR7 hown7 hb7 hC7
      go_wp2_with fail
      generalize w7.alloc (.cells #[] 2) = w8 at *
      refine (l1From_any _ (-1) 2 _ hC8 (by omega) (by omega) (by omega)).mono ?_
      rintro e w9 ⟨x, rfl, hx0, hx1, hC9, hg9⟩
      have hR9 := hR8.grownC hg9 hC8
      have hb9 : Below w.heap.size w w9 := hb8.grown hg9 hb8.size (fun k e => by cases e; exact Nat.le_refl _)
      clear hR8 hg9 hb8 hC8 hC9
      go_wp2
      refine bodyPost_ret (v := .tuple #[.slice (some ⟨g, 0, none⟩) es.length cp, .slice (some ⟨w7.heap.size, 0, none⟩) 0 0, .int .i64 x]) (by simp [results, Try.f5, go_sem, *]) rfl ?_
      exact hR9.drawnG (ps := []) rfl hel4 HES.out (fun hn => absurd hn (by simp)) (by simp) hx0 hx1 hb9
  | true =>
    go_wp2_with fail
    refine (l2DrawAny_any _ _ hC4).mono ?_
    rintro e w5 ⟨g5, cp5, es5, rfl, hR5, hel5, hes5, hC5, hg5⟩
    have HES5 := Lib.hid hes5
    have hb5 : Below w.heap.size w w5 := hb4.grown hg5 hb4.size (fun k e => by cases e; exact Nat.le_refl _)
    clear hes5 hg5 hC4 hb4 hR4
    go_wp2_with fail
    refine (l1DrawPlaces_any _ 3 _ hC5 (by omega)).mono ?_
    rintro e w6 ⟨v6, ps, rfl, hpl, hown6, hC6, hg6⟩
    obtain ⟨Ap, cpp, rfl⟩ := own_form hown6
    have hR6 := hR5.grownC hg6 hC5
    have hb6 : Below w.heap.size w w6 := hb5.grown hg6 hb5.size (fun k e => by cases e; exact Nat.le_refl _)
    have hq6 := hb5.size
    have hc6 := hC5.lt
    clear hR5 hg6 hC5 hb5
    go_wp2_with fail
    refine (l1Once_any _ 4 _ hC6 (by omega) (by omega)).mono ?_
    rintro e w7 ⟨b7, rfl, hC7, hg7⟩
    have hR7 := hR6.grownC hg7 hC6
    have hown7 := own_keep hown6 hg7 hc6
    have hb7 : Below w.heap.size w w7 := hb6.grown hg7 hb6.size (fun k e => by cases e; exact Nat.le_refl _)
    clear hR6 hg7 hown6 hb6 hC6
    cases b7 with
    | false =>
      go_wp2_with fail
      refine (l1From_any _ (-1) 2 _ hC7 (by omega) (by omega) (by omega)).mono ?_
      rintro e w8 ⟨x, rfl, hx0, hx1, hC8, hg8⟩
      have hR8 := hR7.grownC hg8 hC7
      have hown8 := own_keep hown7 hg8 hc6
      have hb8 : Below w.heap.size w w8 := hb7.grown hg8 hb7.size (fun k e => by cases e; exact Nat.le_refl _)
      clear hR7 hg8 hown7 hb7 hC7 hC8
      go_wp2
      refine bodyPost_ret (v := .tuple #[.slice (some ⟨g5, 0, none⟩) es5.length cp5, .slice Ap ps.length cpp, .int .i64 x]) (by simp [results, Try.f5, go_sem, *]) rfl ?_
      exact hR8.drawnG rfl hel5 HES5.out (ints_own1 hown8) hpl hx0 hx1 hb8
    | true =>
      have hC8 : Cur (w7.alloc (.cells #[] 2)) w.heap.size := hC7.below ((Below.refl _ _).alloc (Nat.le_refl _) _)
      have hR8 := hR7.on ((Below.refl _ _).alloc (Nat.le_refl _) (.cells #[] 2))
      have hb8 := hb7.alloc hb7.size (.cells #[] 2)
      clear hR7 hown7 hb7 hC7
      go_wp2_with fail
      generalize w7.alloc (.cells #[] 2) = w8 at *
      refine (l1From_any _ (-1) 2 _ hC8 (by omega) (by omega) (by omega)).mono ?_
      rintro e w9 ⟨x, rfl, hx0, hx1, hC9, hg9⟩
      have hR9 := hR8.grownC hg9 hC8
      have hb9 : Below w.heap.size w w9 := hb8.grown hg9 hb8.size (fun k e => by cases e; exact Nat.le_refl _)
      clear hR8 hg9 hb8 hC8 hC9
      go_wp2
      refine bodyPost_ret (v := .tuple #[.slice (some ⟨g5, 0, none⟩) es5.length cp5, .slice (some ⟨w7.heap.size, 0, none⟩) 0 0, .int .i64 x]) (by simp [results, Try.f5, go_sem, *]) rfl ?_
      exact hR9.drawnG (ps := []) rfl hel5 HES5.out (fun hn => absurd hn (by simp)) (by simp) hx0 hx1 hb9
end Go.Proofs.Ytcfnbpofbcendab
