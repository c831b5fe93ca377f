/- Contracts of the drawing of conds: l7Draw, l7DrawAny, DrawSifted: conds and a bag, new memory; nothing that lay has turned. -/
import Derived.Test.YtdpokfjempdchaaGreatDoorJK2
import Derived.Test.YtdpokfjempdchaaGreatDoorDrawSum
import Derived.Test.YtdpokfjempdchaaGreatDoorDraw3
namespace Go.Proofs.YtdpokfjempdchaaGreatDoor
open Go.RowKit

def ccd (c : Cnd) : List Value := [.int .i64 c.p, .int .i64 c.o, .int .i64 c.t, .bool c.i]
def cfd : List Cnd → List Value
  | [] => []
  | c :: r => ccd c ++ cfd r
theorem cfd_length : ∀ l : List Cnd, (cfd l).length = l.length * 4
  | [] => rfl
  | c :: r => by rw [cfd, List.length_append, cfd_length r]; simp [ccd]; omega
theorem cfd_snoc : ∀ (l : List Cnd) (c : Cnd), cfd (l ++ [c]) = cfd l ++ ccd c
  | [], c => by simp [cfd]
  | x :: r, c => by rw [List.cons_append, cfd, cfd_snoc r c, cfd, List.append_assoc]
theorem cfd_get : ∀ (l : List Cnd) (j : Nat), j < l.length → (cfd l)[j * 4]? = some (.int .i64 (cx l j).p) ∧ (cfd l)[j * 4 + 1]? = some (.int .i64 (cx l j).o) ∧ (cfd l)[j * 4 + 2]? = some (.int .i64 (cx l j).t) ∧ (cfd l)[j * 4 + 3]? = some (.bool (cx l j).i)
  | [], j, h => absurd h (by simp)
  | c :: r, 0, _ => ⟨rfl, rfl, rfl, rfl⟩
  | c :: r, j + 1, h => by
    have h1 := cfd_get r j (by simpa using h)
    have hx : cx (c :: r) (j + 1) = cx r j := by simp [cx]
    have hl : (ccd c).length = 4 := rfl
    rw [hx, cfd]
    rw [List.getElem?_append_right (by rw [hl]; omega), List.getElem?_append_right (by rw [hl]; omega), List.getElem?_append_right (by rw [hl]; omega), List.getElem?_append_right (by rw [hl]; omega), hl]
    rw [show (j + 1) * 4 - 4 = j * 4 by omega, show (j + 1) * 4 + 1 - 4 = j * 4 + 1 by omega, show (j + 1) * 4 + 2 - 4 = j * 4 + 2 by omega, show (j + 1) * 4 + 3 - 4 = j * 4 + 3 by omega]
    exact h1
theorem cnds_own {w : World} {base n c : Nat} {A : Option Addr} {l : List Cnd} (h : w.ownsRow base 44 4 (.slice A n c) n (cfd l)) : Cnds w w.heap.size A l := fun hn => by
  have hl : n = l.length := by have := h.1; rw [cfd_length] at this; omega
  rcases h.2 with ⟨_, h0⟩ | ⟨g, cap, cur, hv, _, hh, _, _, _, _⟩
  · omega
  · injection hv with e1 _ e3
    subst e1 e3
    have hlt : g < w.heap.size := (h.lt g rfl).2
    refine ⟨g, 0, rfl, hlt, fun j hj => ?_⟩
    obtain ⟨h1, h2, h3, h4⟩ := cfd_get l j hj
    have q := fun i (hi : i < n * 4) => h.cellAt i hi
    refine ⟨?_, ?_, ?_, ?_⟩
    · rw [Nat.zero_add, q _ (by omega), h1]
    · rw [Nat.zero_add, q _ (by omega), h2]
    · rw [Nat.zero_add, q _ (by omega), h3]
    · rw [Nat.zero_add, q _ (by omega), h4]
theorem reads_cnd {w : World} {X : Nat} {c : Cnd} (hX : Blk w X 44 #[.int .i64 c.p, .int .i64 c.o, .int .i64 c.t, .bool c.i]) : Reads w w.heap.size 4 (some ⟨X, 0, none⟩) 1 (ccd c) := by
  refine ⟨rfl, fun _ => ⟨_, rfl, hX.lt, fun j u hu => ?_⟩⟩
  have ea : Addr.add ⟨X, 0, none⟩ j = ⟨X, 0 + j, none⟩ := by unfold Addr.add; split <;> simp_all
  rw [ea, Nat.zero_add, hX.cell j, ← hu]
  simp [ccd]
theorem cfd_p (d : Cnd) (r : List Cnd) (v : Int) : (cfd (d :: r)).set 0 (.int .i64 v) = cfd ({ d with p := v } :: r) := rfl
theorem cfd_o (d : Cnd) (r : List Cnd) (v : Int) : (cfd (d :: r)).set 1 (.int .i64 v) = cfd ({ d with o := v } :: r) := rfl
theorem cfd_t (d : Cnd) (r : List Cnd) (v : Int) : (cfd (d :: r)).set 2 (.int .i64 v) = cfd ({ d with t := v } :: r) := rfl
/-- Conds, drawn: at most two, in a row of the call's own. -/
def DrawnCs (c : Nat) (w : World) (e : Ending) (w' : World) : Prop :=
  ∃ A cap l, e = .returned (.slice A l.length cap) ∧ l.length ≤ 2 ∧ w'.ownsRow w.heap.size 44 4 (.slice A l.length cap) l.length (cfd l) ∧ Cur w' c ∧ w.grownBy w' (some c)
theorem grown_alloc' {w w1 : World} {c : Nat} (h : w.grownBy w1 (some c)) (o : Obj) : w.grownBy (w1.alloc o) (some c) := grown_trans h (World.grownBy_alloc w1 o (some c))
theorem grown_new {w w1 w2 : World} {c : Nat} {row : Option Nat} (h : w.grownBy w1 (some c)) (k : w1.grownBy w2 row) (hr : ∀ g, row = some g → w.heap.size ≤ g) : w.grownBy w2 (some c) :=
  ⟨k.os.trans h.os, k.tape.trans h.tape, k.output.trans h.output, Nat.le_trans h.size k.size, fun i hi hne => (k.block i (Nat.lt_of_lt_of_le hi h.size) (fun e => by have := hr i e.symm; omega)).trans (h.block i hi hne)⟩
set_option maxRecDepth 100000 in
set_option maxHeartbeats 4000000 in
theorem l7Draw_any (c : Nat) (w : World) (hC : Cur w c) :
    Calls Tryz.prog 23 #[.pointer (some ⟨c, 0, none⟩), .int .i64 3] w (DrawnCs c w) := by
  obtain ⟨i0, hi0, hz0, hz1, hz2⟩ := info_parts info_cond
  have hcl := hC.lt
  have b1 := (Below.refl w.heap.size w).alloc (Nat.le_refl _) (.cells #[] 44)
  have hE : (w.alloc (.cells #[] 44)).ownsRow w.heap.size 44 4 (.slice (some ⟨w.heap.size, 0, none⟩) 0 0) 0 (cfd []) := World.ownsRow_made w #[] 0 (Nat.le_refl _) (Nat.zero_le _) rfl
  have hC0 : Cur (w.alloc (.cells #[] 44)) c := hC.below b1
  have hG0 : w.grownBy (w.alloc (.cells #[] 44)) (some c) := World.grownBy_alloc w _ _
  go_enter Tryz.func23, Tryz.ntmps23
  go_wp2_with fail
  refine (l1Below_any c 3 _ hC0 (by omega) (by omega)).mono ?_
  rintro e w1 ⟨x, rfl, hx0, hx1, _, hC1, hg1⟩
  obtain ⟨n, rfl⟩ := Int.eq_ofNat_of_zero_le hx0
  have hn2 : n ≤ 2 := by have := hx1 (by omega); omega
  have hE1 := own_keep hE hg1 hcl
  have hG1 := grown_trans hG0 hg1
  clear hx0 hx1 hC0 hE hG0 hg1 b1 hC
  go_wp2
  go_loopw [5, 6] (fun v s wr => ∃ (j : Nat) (A : Option Addr) (cap : Nat) (l : List Cnd), j + l.length ≤ 2 ∧ s = .int .i64 j ∧ v = .slice A l.length cap ∧ wr.ownsRow w.heap.size 44 4 v l.length (cfd l) ∧ Cur wr c ∧ w.grownBy wr (some c)) (fun _ s _ => (intOf s).toNat)
  case atStart => exact ⟨n, some ⟨w.heap.size, 0, none⟩, 0, [], by simp; omega, rfl, rfl, hE1, hC1, hG1⟩
  case round =>
    clear hE1 hC1 hG1
    obtain ⟨j, A, cap, l, hjl, rfl, rfl, hO, hCr, hG⟩ := hrel
    by_cases h0 : 0 < j
    · obtain ⟨nl, hnl⟩ : ∃ nl, l.length = nl := ⟨_, rfl⟩
      have HNL := Lib.hid hnl
      rw [hnl] at hO hjl ⊢
      clear hnl
      go_wp2_with fail
      refine (l1Max_any 1 3 wr).mono ?_
      rintro e w2 ⟨rfl, rfl⟩
      rw [show max (1 : Int) 3 = 3 from rfl]
      go_wp2_with fail
      refine (l1Below_any c 3 wr hCr (by omega) (by omega)).mono ?_
      rintro e w2 ⟨x1, rfl, p0, p1, _, hC2, hg2⟩
      have hO2 := own_keep hO hg2 hcl
      have hG2 := grown_trans hG hg2
      clear hO hG hCr hg2
      go_wp2_with fail
      refine (l1Below_any c 3 w2 hC2 (by omega) (by omega)).mono ?_
      rintro e w3 ⟨x2, rfl, q0, q1, _, hC3, hg3⟩
      have hO3 := own_keep hO2 hg3 hcl
      have hG3 := grown_trans hG2 hg3
      have q1' := q1 (by omega)
      have hw2 : IntKind.i64.wrap (1 + x2) = 1 + x2 := by rw [IntKind.wrap_i64]; omega
      clear hO2 hG2 hC2 hg3 q1
      go_wp2_with fail
      refine (l1Below_any c 4 w3 hC3 (by omega) (by omega)).mono ?_
      rintro e w4 ⟨x3, rfl, r0, r1, _, hC4, hg4⟩
      have hO4 := own_keep hO3 hg4 hcl
      have hG4 := grown_trans hG3 hg4
      have r1' := r1 (by omega)
      have hw3 : IntKind.i64.wrap (x3 - 1) = x3 - 1 := by rw [IntKind.wrap_i64]; omega
      clear hO3 hG3 hC3 hg4 r1 p0 p1
      have hC5 := hC4.below ((Below.refl w4.heap.size w4).alloc (Nat.le_refl _) (.cells #[.int .i64 x1, .int .i64 (1 + x2), .int .i64 (x3 - 1), .bool true] 44))
      have hO5 := hO4.alloc (.cells #[.int .i64 x1, .int .i64 (1 + x2), .int .i64 (x3 - 1), .bool true] 44)
      have hG5 := grown_alloc' hG4 (.cells #[.int .i64 x1, .int .i64 (1 + x2), .int .i64 (x3 - 1), .bool true] 44)
      have B5 := Blk.new w4 44 #[.int .i64 x1, .int .i64 (1 + x2), .int .i64 (x3 - 1), .bool true]
      have hcw : c < w4.heap.size := hC4.lt
      have hsw := hG4.size
      have HLT := Lib.hid (show ∀ g, (Value.slice A nl cap).ownBlock = some g → g < w4.heap.size from fun g hg => (hO4.lt g hg).2)
      clear hO4 hG4 hC4
      go_wp2_with fail
      generalize w4.alloc (.cells #[.int .i64 x1, .int .i64 (1 + x2), .int .i64 (x3 - 1), .bool true] 44) = w5 at *
      generalize hX : w4.heap.size = X at *
      refine (l1Once_any c 3 w5 hC5 (by omega) (by omega)).mono ?_
      rintro e w6 ⟨b, rfl, hC6, hg6⟩
      have hO6 := own_keep hO5 hg6 hcl
      have hG6 := grown_trans hG5 hg6
      have B6 := B5.grown hg6 (fun e => by have := Option.some.inj e; omega)
      clear hO5 hG5 hC5 hg6 B5 hX hw2 hw3
      have HFIN := Lib.hid (show ∀ (W : World) (p o t : Int) (i : Bool), W.ownsRow w.heap.size 44 4 (.slice A nl cap) nl (cfd l) → Cur W c → w.grownBy W (some c) → ∀ (v' : Value) (W' : World), W'.ownsRow w.heap.size 44 4 v' (nl + 1) (cfd l ++ ccd ⟨p, o, t, i⟩) → (W.alloc (.cells #[.int .i64 p, .int .i64 o, .int .i64 t, .bool i] 44)).grownBy W' (Value.slice A nl cap).ownBlock → (∃ A' cap', v' = .slice A' (l ++ [Cnd.mk p o t i]).length cap') ∧ W'.ownsRow w.heap.size 44 4 v' (l ++ [Cnd.mk p o t i]).length (cfd (l ++ [Cnd.mk p o t i])) ∧ Cur W' c ∧ w.grownBy W' (some c) from fun W p o t i h1 h2 h3 v' W' h4 h5 => by
        have hlen : (l ++ [(⟨p, o, t, i⟩ : Cnd)]).length = nl + 1 := by rw [List.length_append, HNL.out]; rfl
        obtain ⟨A', cap', hv⟩ := own_form h4
        rw [hlen, cfd_snoc]
        have hb : ∀ g, (Value.slice A nl cap).ownBlock = some g → w.heap.size ≤ g := fun g hg => (h1.lt g hg).1
        refine ⟨⟨A', cap', hv⟩, h4, ?_, grown_new (grown_alloc' h3 _) h5 hb⟩
        have hc2 := h2.below ((Below.refl W.heap.size W).alloc (Nat.le_refl _) (.cells #[.int .i64 p, .int .i64 o, .int .i64 t, .bool i] 44))
        exact hc2.grown h5 (fun r hr => by have := hb r hr; omega))
      cases b with
      | false =>
        obtain ⟨c0, c1, c2, c3⟩ := B6.c4
        have HX := Lib.hid (And.intro hO6 (And.intro hC6 hG6))
        have hR := reads_cnd (c := Cnd.mk x1 (1 + x2) (x3 - 1) true) (Blk.new w6 44 #[.int .i64 x1, .int .i64 (1 + x2), .int .i64 (x3 - 1), .bool true])
        have HR := Lib.hid hR
        have hs6 := hG6.size
        clear hO6 hC6 hG6 hR B6
        go_wp2_with (at_builtin; refine wpList_append_any _ (by rfl) (.tmp 34) (.tmp 36) 24 (by rfl) w.heap.size 44 i0 _ 4 32 Tryz.underlying24 hi0 hz0 hz1 hz2 rfl (by decide) (.slice A nl cap) nl (cfd l) (by rfl) (HX.out.1.alloc _) _ (some ⟨w6.heap.size, 0, none⟩) 1 1 (ccd (Cnd.mk x1 (1 + x2) (x3 - 1) true)) (by rfl) HR.out (by simp [ccd, Value.oneCell']) (by simp only [maxLen]; omega) (by omega) (by rw [World.size_alloc]; omega) ?_; intro v7 w7 hown7 hgrow7 hat7)
        have HF := Lib.hid (HFIN.out w6 x1 (1 + x2) (x3 - 1) true HX.out.1 HX.out.2.1 HX.out.2.2 v7 w7 hown7 hgrow7)
        obtain ⟨⟨A8, cap8, hv8⟩, _⟩ := HF.out
        subst hv8
        clear hown7 hgrow7 hat7
        go_roundw
        case rel => exact ⟨j - 1, A8, cap8, _, by rw [List.length_append, HNL.out]; simp; omega, by go_num, rfl, HF.out.2.1, HF.out.2.2.1, HF.out.2.2.2⟩
        case measure => simp [intOf]; omega
      | true =>
        have hf3 := B6.frozen 3
        obtain ⟨c0, c1, c2, c3⟩ := B6.c4
        have B7 := B6.set_ 3 (.bool false)
        have hXl := B6.lt
        have hO7 : (w6.setCell ⟨X, 3, none⟩ (.bool false)).ownsRow w.heap.size 44 4 (.slice A nl cap) nl (cfd l) := own_keepB hO6 (fun g hg => Below.heap_setCell w6 ⟨X, 3, none⟩ _ g (fun e => by have h1 := HLT.out g hg; have e1 : g = X := e; omega))
        have hC7 : Cur (w6.setCell ⟨X, 3, none⟩ (.bool false)) c := hC6.grown (grown_setCell w6 X 3 (.bool false)) (fun r e => by have := Option.some.inj e; omega)
        have hG7 : w.grownBy (w6.setCell ⟨X, 3, none⟩ (.bool false)) (some c) := grown_new hG6 (grown_setCell w6 X 3 (.bool false)) (fun g e => by have := Option.some.inj e; omega)
        clear hO6 hC6 hG6 B6
        go_wp2_with fail
        refine (l1Max_any 1 3 _).mono ?_
        rintro e w8 ⟨rfl, rfl⟩
        rw [show max (1 : Int) 3 = 3 from rfl]
        clear c0 c1 c2 c3 hf3
        go_wp2_with fail
        refine (l1Below_any c 3 _ hC7 (by omega) (by omega)).mono ?_
        rintro e w8 ⟨x4, rfl, _, _, _, hC8, hg8⟩
        have hO8 := own_keep hO7 hg8 hcl
        have hG8 := grown_trans hG7 hg8
        have B8 := B7.grown hg8 (fun e => by have := Option.some.inj e; omega)
        have d2 : w8.cell? ⟨X, 2, none⟩ = some (.int .i64 (x3 - 1)) := B8.cell 2
        have hf2 := B8.frozen 2
        have B9 : Blk (w8.setCell ⟨X, 2, none⟩ (.int .i64 x4)) X 44 #[.int .i64 x1, .int .i64 (1 + x2), .int .i64 x4, .bool false] := B8.set_ 2 (.int .i64 x4)
        have hO9 : (w8.setCell ⟨X, 2, none⟩ (.int .i64 x4)).ownsRow w.heap.size 44 4 (.slice A nl cap) nl (cfd l) := own_keepB hO8 (fun g hg => Below.heap_setCell w8 ⟨X, 2, none⟩ _ g (fun e => by have h1 := HLT.out g hg; have e1 : g = X := e; omega))
        have hC9 : Cur (w8.setCell ⟨X, 2, none⟩ (.int .i64 x4)) c := hC8.grown (grown_setCell w8 X 2 (.int .i64 x4)) (fun r e => by have := Option.some.inj e; omega)
        have hG9 : w.grownBy (w8.setCell ⟨X, 2, none⟩ (.int .i64 x4)) (some c) := grown_new hG8 (grown_setCell w8 X 2 (.int .i64 x4)) (fun g e => by have := Option.some.inj e; omega)
        obtain ⟨c0, c1, c2, c3⟩ := B9.c4
        have HX := Lib.hid (And.intro hO9 (And.intro hC9 hG9))
        have HR := Lib.hid (reads_cnd (c := Cnd.mk x1 (1 + x2) x4 false) (Blk.new (w8.setCell ⟨X, 2, none⟩ (.int .i64 x4)) 44 #[.int .i64 x1, .int .i64 (1 + x2), .int .i64 x4, .bool false]))
        have hs9 := hG9.size
        clear hO7 hC7 hG7 hO8 hC8 hG8 hO9 hC9 hG9 B7 B8 B9 hg8
        have hsz9 : (w8.setCell ⟨X, 2, none⟩ (.int .i64 x4)).heap.size = w8.heap.size := by simp [World.setCell]
        rw [hsz9] at HR hs9
        go_wp2_with (at_builtin; refine wpList_append_any _ (by rfl) (.tmp 34) (.tmp 36) 24 (by rfl) w.heap.size 44 i0 _ 4 32 Tryz.underlying24 hi0 hz0 hz1 hz2 rfl (by decide) (.slice A nl cap) nl (cfd l) (by rfl) (HX.out.1.alloc _) _ (some ⟨w8.heap.size, 0, none⟩) 1 1 (ccd (Cnd.mk x1 (1 + x2) x4 false)) (by first | rfl | simp [World.setCell]) HR.out (by simp [ccd, Value.oneCell']) (by simp only [maxLen]; omega) (by omega) (by rw [World.size_alloc, hsz9]; omega) ?_; intro v7 w7 hown7 hgrow7 hat7)
        have HF := Lib.hid (HFIN.out _ x1 (1 + x2) x4 false HX.out.1 HX.out.2.1 HX.out.2.2 v7 w7 hown7 hgrow7)
        obtain ⟨⟨A8, cap8, hv8⟩, _⟩ := HF.out
        subst hv8
        clear hown7 hgrow7 hat7
        go_roundw
        case rel => exact ⟨j - 1, A8, cap8, _, by rw [List.length_append, HNL.out]; simp; omega, by go_num, rfl, HF.out.2.1, HF.out.2.2.1, HF.out.2.2.2⟩
        case measure => simp [intOf]; omega
    · obtain rfl : j = 0 := by omega
      go_wp2
      go_ret
      exact ⟨A, cap, l, rfl, by omega, hO, hCr, hG⟩
set_option maxRecDepth 100000 in
set_option maxHeartbeats 8000000 in
theorem l7DrawAny_any (c : Nat) (w : World) (hC : Cur w c) :
    Calls Tryz.prog 19 #[.pointer (some ⟨c, 0, none⟩)] w (DrawnCs c w) := by
  have hcl := hC.lt
  go_enter Tryz.func19, Tryz.ntmps19
  go_wp2_with fail
  refine (l7Draw_any c w hC).mono ?_
  rintro e w1 ⟨A, cap, l, rfl, hl, hO, hC1, hG1⟩
  clear hC
  cases l with
  | nil =>
    have hz : decide ((0 : Int) < (([] : List Cnd).length : Int)) = false := by decide
    go_wp2
    go_ret
    exact ⟨A, cap, [], rfl, by omega, hO, hC1, hG1⟩
  | cons d r =>
  obtain ⟨n, hn⟩ : ∃ n, (d :: r).length = n := ⟨_, rfl⟩
  have HN := Lib.hid hn
  rw [hn] at hO hl ⊢
  have hn0 : 0 < n := by rw [← hn]; simp
  have hni : (0 : Int) < (n : Int) := by omega
  obtain ⟨g, hA, hgb, hgl⟩ : ∃ g, A = some ⟨g, 0, none⟩ ∧ w.heap.size ≤ g ∧ g < w1.heap.size := by
    rcases hO.2 with ⟨_, h0⟩ | ⟨g, cap', cur, hv, h2, hh, _⟩
    · omega
    · injection hv with e1 _ _
      exact ⟨g, e1, h2, (Array.getElem?_eq_some_iff.1 hh).1⟩
  subst hA
  clear hn
  go_wp2_with fail
  refine (l1Once_any c 6 w1 hC1 (by omega) (by omega)).mono ?_
  rintro e w2 ⟨b, rfl, hC2, hg2⟩
  have hO2 := own_keep hO hg2 hcl
  have hG2 := grown_trans hG1 hg2
  clear hO hC1 hG1 hg2
  have HDONE := Lib.hid (show ∀ (W : World) (d' : Cnd), W.ownsRow w.heap.size 44 4 (.slice (some ⟨g, 0, none⟩) n cap) n (cfd (d' :: r)) → Cur W c → w.grownBy W (some c) → DrawnCs c w (.returned (.slice (some ⟨g, 0, none⟩) n cap)) W from fun W d' h1 h2 h3 => by
    have hl2 : (d' :: r).length = n := HN.out
    exact ⟨some ⟨g, 0, none⟩, cap, d' :: r, by rw [hl2], by rw [hl2]; exact hl, by rw [hl2]; exact h1, h2, h3⟩)
  cases b with
  | false =>
    go_wp2
    go_ret
    exact HDONE.out _ d hO2 hC2 hG2
  | true =>
  go_wp2_with fail
  refine (l1Below_any c 3 w2 hC2 (by omega) (by omega)).mono ?_
  rintro e w3 ⟨x, rfl, hx0, hx1, _, hC3, hg3⟩
  have hO3 := own_keep hO2 hg3 hcl
  have hG3 := grown_trans hG2 hg3
  have hx3 : x = 0 ∨ x = 1 ∨ x = 2 := by have := hx1 (by omega); omega
  have hsw := hG3.size
  have hgl3 := (hO3.lt g rfl).2
  clear hO2 hC2 hG2 hg3 hx1 hx0
  have HST := Lib.hid (show ∀ (W : World) (q : Nat) (u : Value) (d' : Cnd), W.ownsRow w.heap.size 44 4 (.slice (some ⟨g, 0, none⟩) n cap) n (cfd (d :: r)) → Cur W c → w.grownBy W (some c) → (cfd (d :: r)).set q u = cfd (d' :: r) → DrawnCs c w (.returned (.slice (some ⟨g, 0, none⟩) n cap)) (W.setCell ⟨g, q, none⟩ u) from fun W q u d' h1 h2 h3 h4 => by
    refine HDONE.out _ d' ?_ (h2.grown (grown_setCell W g q u) (fun r e => by have := Option.some.inj e; omega)) (grown_new h3 (grown_setCell W g q u) (fun r e => by have := Option.some.inj e; omega))
    rw [← h4]
    exact (h1.stored q u).1)
  rcases hx3 with rfl | rfl | rfl
  · have hb1 := (Below.refl w3.heap.size w3).alloc (Nat.le_refl _) (.cells #[.int .i64 (-1), .int .i64 5, .int .i64 6] 2)
    have hO4 := hO3.alloc (.cells #[.int .i64 (-1), .int .i64 5, .int .i64 6] 2)
    have hC4 := hC3.below hb1
    have hG4 := grown_alloc' hG3 (.cells #[.int .i64 (-1), .int .i64 5, .int .i64 6] 2)
    have B4 := Blk.new w3 2 #[.int .i64 (-1), .int .i64 5, .int .i64 6]
    clear hO3 hC3 hG3 hb1
    go_wp2_with fail
    generalize w3.alloc (.cells #[.int .i64 (-1), .int .i64 5, .int .i64 6] 2) = w4 at *
    refine (l1Below_any c 3 w4 hC4 (by omega) (by omega)).mono ?_
    rintro e w5 ⟨y, rfl, y0, y1, _, hC5, hg5⟩
    have hO5 := own_keep hO4 hg5 hcl
    have hG5 := grown_trans hG4 hg5
    have B5 := B4.grown hg5 (fun e => by have := Option.some.inj e; omega)
    have k0 := B5.cell 0
    have k1 := B5.cell 1
    have k2 := B5.cell 2
    have m0 : w5.cell? ⟨g, 0, none⟩ = some (.int .i64 d.p) := by rw [hO5.cellAt 0 (by omega)]; rfl
    have f0 := hO5.frozenAt 0
    have hy3 : y = 0 ∨ y = 1 ∨ y = 2 := by have := y1 (by omega); omega
    simp only [List.getElem?_toArray, List.getElem?_cons_zero, List.getElem?_cons_succ] at k0 k1 k2
    clear y1 hO4 hC4 hG4 B4 hg5
    rcases hy3 with rfl | rfl | rfl
    all_goals
      go_wp2
      go_ret
      exact HST.out _ _ _ _ hO5 hC5 hG5 (cfd_p d r _)
  · have hb1 := (Below.refl w3.heap.size w3).alloc (Nat.le_refl _) (.cells #[.int .i64 0, .int .i64 4] 2)
    have hO4 := hO3.alloc (.cells #[.int .i64 0, .int .i64 4] 2)
    have hC4 := hC3.below hb1
    have hG4 := grown_alloc' hG3 (.cells #[.int .i64 0, .int .i64 4] 2)
    have B4 := Blk.new w3 2 #[.int .i64 0, .int .i64 4]
    clear hO3 hC3 hG3 hb1
    go_wp2_with fail
    generalize w3.alloc (.cells #[.int .i64 0, .int .i64 4] 2) = w4 at *
    refine (l1Below_any c 2 w4 hC4 (by omega) (by omega)).mono ?_
    rintro e w5 ⟨y, rfl, y0, y1, _, hC5, hg5⟩
    have hO5 := own_keep hO4 hg5 hcl
    have hG5 := grown_trans hG4 hg5
    have B5 := B4.grown hg5 (fun e => by have := Option.some.inj e; omega)
    have k0 := B5.cell 0
    have k1 := B5.cell 1
    have m0 : w5.cell? ⟨g, 1, none⟩ = some (.int .i64 d.o) := by rw [hO5.cellAt 1 (by omega)]; rfl
    have f0 := hO5.frozenAt 1
    have hy3 : y = 0 ∨ y = 1 := by have := y1 (by omega); omega
    simp only [List.getElem?_toArray, List.getElem?_cons_zero, List.getElem?_cons_succ] at k0 k1
    clear y1 hO4 hC4 hG4 B4 hg5
    rcases hy3 with rfl | rfl
    all_goals
      go_wp2
      go_ret
      exact HST.out _ _ _ _ hO5 hC5 hG5 (cfd_o d r _)
  · have hb1 := (Below.refl w3.heap.size w3).alloc (Nat.le_refl _) (.cells #[.int .i64 (-1), .int .i64 6, .int .i64 1000, .int .i64 1001] 2)
    have hO4 := hO3.alloc (.cells #[.int .i64 (-1), .int .i64 6, .int .i64 1000, .int .i64 1001] 2)
    have hC4 := hC3.below hb1
    have hG4 := grown_alloc' hG3 (.cells #[.int .i64 (-1), .int .i64 6, .int .i64 1000, .int .i64 1001] 2)
    have B4 := Blk.new w3 2 #[.int .i64 (-1), .int .i64 6, .int .i64 1000, .int .i64 1001]
    clear hO3 hC3 hG3 hb1
    go_wp2_with fail
    generalize w3.alloc (.cells #[.int .i64 (-1), .int .i64 6, .int .i64 1000, .int .i64 1001] 2) = w4 at *
    refine (l1Below_any c 4 w4 hC4 (by omega) (by omega)).mono ?_
    rintro e w5 ⟨y, rfl, y0, y1, _, hC5, hg5⟩
    have hO5 := own_keep hO4 hg5 hcl
    have hG5 := grown_trans hG4 hg5
    have B5 := B4.grown hg5 (fun e => by have := Option.some.inj e; omega)
    have k0 := B5.cell 0
    have k1 := B5.cell 1
    have k2 := B5.cell 2
    have k3 := B5.cell 3
    have m0 : w5.cell? ⟨g, 2, none⟩ = some (.int .i64 d.t) := by rw [hO5.cellAt 2 (by omega)]; rfl
    have f0 := hO5.frozenAt 2
    have hy3 : y = 0 ∨ y = 1 ∨ y = 2 ∨ y = 3 := by have := y1 (by omega); omega
    simp only [List.getElem?_toArray, List.getElem?_cons_zero, List.getElem?_cons_succ] at k0 k1 k2 k3
    clear y1 hO4 hC4 hG4 B4 hg5
    rcases hy3 with rfl | rfl | rfl | rfl
    all_goals
      go_wp2
      go_ret
      exact HST.out _ _ _ _ hO5 hC5 hG5 (cfd_t d r _)
/-- Conds and a bag, drawn from a code. -/
def DrawnCB (w : World) (e : Ending) (w' : World) : Prop :=
  ∃ A cap l g cp bag, e = .returned (.tuple #[.slice A l.length cap, .slice (some ⟨g, 0, none⟩) bag.length cp]) ∧ l.length ≤ 2 ∧ Cnds w' w'.heap.size A l ∧ Bag w' w'.heap.size (some ⟨g, 0, none⟩) bag ∧ bag.length ≤ cp ∧ bag.length ≤ 400 ∧ Below w.heap.size w w'
end Go.Proofs.YtdpokfjempdchaaGreatDoor
