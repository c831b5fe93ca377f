/- Contracts of the drawings of chapter 1: what is drawn is one or two slices of int64 in new memory, of so many numbers at most; nothing that lay before has turned. -/
import Derived.Test.YthlniadodiomfaaDoorDraw2
import Derived.Test.YthlniadodiomfaaDoorApp
namespace Go.Proofs.YthlniadodiomfaaDoor
open Go.RowKit

theorem l1Max_any (a b : Int) (w : World) :
    Calls Tryd.prog 84 #[.int .i64 a, .int .i64 b] w fun e w' => e = .returned (.int .i64 (max a b)) ∧ w = w' := by
  by_cases h : b < a
  all_goals
    go_enter Tryd.func84, Tryd.ntmps84
    go_wp2
    go_ret
    exact ⟨ret_int (by omega), rfl⟩
theorem own_other {w w' : World} {base s : Nat} {e : TypeId} {size : Nat} {v : Value} {n : Nat} {xs : List Value} {row : Option Nat} (h : w.ownsRow base e size v n xs) (hg : w.grownBy w' row) (hr : ∀ r, row = some r → s ≤ r) (hv : ∀ g, v.ownBlock = some g → g < s) : w'.ownsRow base e size v n xs := by
  refine h.kept hg ?_
  cases hb : v.ownBlock with
  | none => exact .inl rfl
  | some g => right; intro e; have h1 := hr g e.symm; have h2 := hv g hb; omega
theorem own_lt {w : World} {base : Nat} {e : TypeId} {size : Nat} {v : Value} {n : Nat} {xs : List Value} (h : w.ownsRow base e size v n xs) : ∀ g, v.ownBlock = some g → g < w.heap.size := fun g hg => (h.lt g hg).2

set_option maxRecDepth 100000 in
set_option maxHeartbeats 4000000 in
theorem l1DrawPlaces_any (c : Nat) (n : Nat) (w : World) (hC : Cur w c) (hn : n ≤ 1000000) :
    Calls Tryd.prog 54 #[.pointer (some ⟨c, 0, none⟩), .int .i64 n] w (Drawn c 4 w) := by
  obtain ⟨i0, hi0, hz0, hz1, hz2⟩ := info_parts info_i64
  have hcl := hC.lt
  have hE := ownsRow_empty w 2 w.heap.size (Nat.le_refl _)
  have hC0 : Cur (w.alloc (.cells #[] 2)) c := hC.below ((Below.refl _ _).alloc (Nat.le_refl _) _)
  have hG0 : w.grownBy (w.alloc (.cells #[] 2)) (some c) := World.grownBy_alloc w _ _
  have hmx : (1 : Int) ≤ max 1 (n : Int) ∧ max 1 (n : Int) ≤ 1000000 := by omega
  go_enter Tryd.func54, Tryd.ntmps54
  go_wp2_with fail
  refine (l1Below_any c 3 _ hC0 (by omega) (by omega)).mono ?_
  rintro e w1 ⟨x, rfl, hx0, hx1, _, hC1, hg1⟩
  obtain ⟨m, rfl⟩ := Int.eq_ofNat_of_zero_le hx0
  have hm3 : m < 3 := by have := hx1 (by omega); omega
  have hE1 := own_keep hE hg1 hcl
  have hG1 : w.grownBy w1 (some c) := grown_trans hG0 hg1
  clear hx0 hx1 hE hC0 hG0 hg1
  go_wp2
  go_loopw [5, 6] (fun v k wr => ∃ (j : Nat) (zs : List Int), zs.length + j ≤ 3 ∧ k = .int .i64 j ∧ wr.ownsRow w.heap.size 2 1 v zs.length (i64l zs) ∧ Cur wr c ∧ w.grownBy wr (some c)) (fun _ k _ => (intOf k).toNat)
  case atStart => exact ⟨1 + m, [], by simp; omega, by go_num, hE1, hC1, hG1⟩
  case round =>
    obtain ⟨j, zs, hjl, rfl, hown, hCr, hGr⟩ := hrel
    clear hE1 hC1 hG1
    by_cases h0 : 0 < j
    · go_wp2_with fail
      refine (l1Max_any 1 n _).mono ?_
      rintro e w' ⟨rfl, rfl⟩
      generalize max 1 (n : Int) = mx at *
      go_wp2_with fail
      refine (l1Below_any c mx _ hCr (by omega) (by omega)).mono ?_
      rintro e w1 ⟨x, rfl, hx0, hx1, _, hC1, hg1⟩
      have hx2 := hx1 (by omega)
      have hown1 := own_keep hown hg1 hcl
      have hG1 : w.grownBy w1 (some c) := grown_trans hGr hg1
      clear hx1 hown hg1 hGr hCr
      go_wp2_with (at_builtin; refine wpList_append_own _ rfl _ _ 24 rfl w.heap.size 2 i0 (.int .i64 0) 1 8 Tryd.underlying24 hi0 hz0 hz1 hz2 rfl (by decide) _ _ _ rfl (hown1.alloc _) ⟨w1.heap.size, 0, none⟩ 1 1 [.int .i64 x] rfl rfl (cell_one_new _ _ _) (by simp [Value.oneCell']) (by simp only [maxLen]; omega) (by omega) (by have := hG1.size; simp; omega) ?_; intro v' w2 hown2 hgrow2 _)
      have hG2 : w.grownBy w2 (some c) := grown_own (grown_own hG1 (World.grownBy_alloc w1 _ none) (fun r e => by cases e)) hgrow2 (fun r e => (hown1.lt r e).1)
      have hC2 : Cur w2 c := (hC1.below ((Below.refl _ _).alloc (Nat.le_refl _) _)).grown hgrow2 (fun r e => by have := (hown1.lt r e).1; omega)
      clear hgrow2 hown1 hC1 hG1
      go_roundw
      case rel => exact ⟨j - 1, zs ++ [x], by simp; omega, by go_num, by simpa [i64l] using hown2, hC2, hG2⟩
      case measure => simp [intOf]; omega
    · have hd : decide (0 < j) = false := by simpa using h0
      go_wp2_with fail
      refine (l1Once_any c 14 _ hCr (by omega) (by omega)).mono ?_
      rintro e w3 ⟨b3, rfl, hC3, hg3⟩
      have hown3 := own_keep hown hg3 hcl
      have hG3 : w.grownBy w3 (some c) := grown_trans hGr hg3
      clear hown hCr hGr hg3
      cases b3 with
      | false =>
        go_wp2
        go_ret
        exact ⟨_, zs, rfl, by omega, hown3, hC3, hG3⟩
      | true =>
        go_wp2_with fail
        refine (l1From_any c (-1) 6 _ hC3 (by omega) (by omega) (by omega)).mono ?_
        rintro e w4 ⟨x, rfl, hx0, hx1, hC4, hg4⟩
        have hown4 := own_keep hown3 hg4 hcl
        have hG4 : w.grownBy w4 (some c) := grown_trans hG3 hg4
        clear hown3 hC3 hG3 hg4
        go_wp2_with (at_builtin; refine wpList_append_own _ rfl _ _ 24 rfl w.heap.size 2 i0 (.int .i64 0) 1 8 Tryd.underlying24 hi0 hz0 hz1 hz2 rfl (by decide) _ _ _ rfl (hown4.alloc _) ⟨w4.heap.size, 0, none⟩ 1 1 [.int .i64 x] rfl rfl (cell_one_new _ _ _) (by simp [Value.oneCell']) (by simp only [maxLen]; omega) (by omega) (by have := hG4.size; simp; omega) ?_; intro v' w2 hown2 hgrow2 _)
        have hG2 : w.grownBy w2 (some c) := grown_own (grown_own hG4 (World.grownBy_alloc w4 _ none) (fun r e => by cases e)) hgrow2 (fun r e => (hown4.lt r e).1)
        have hC2 : Cur w2 c := (hC4.below ((Below.refl _ _).alloc (Nat.le_refl _) _)).grown hgrow2 (fun r e => by have := (hown4.lt r e).1; omega)
        go_ret
        exact ⟨_, zs ++ [x], rfl, by simp; omega, by simpa [i64l] using hown2, hC2, hG2⟩

/-- One slice drawn from a code: new memory; nothing that lay has turned. -/
def Drawn1 (most : Nat) (w : World) (e : Ending) (w' : World) : Prop :=
  ∃ v zs, e = .returned v ∧ zs.length ≤ most ∧ w'.ownsRow w.heap.size 2 1 v zs.length (i64l zs) ∧ Below w.heap.size w w'
/-- Two slices. -/
def Drawn2 (m1 m2 : Nat) (w : World) (e : Ending) (w' : World) : Prop :=
  ∃ v zs v' zs', e = .returned (.tuple #[v, v']) ∧ zs.length ≤ m1 ∧ zs'.length ≤ m2 ∧ w'.ownsRow w.heap.size 2 1 v zs.length (i64l zs) ∧ w'.ownsRow w.heap.size 2 1 v' zs'.length (i64l zs') ∧ Below w.heap.size w w'

set_option maxHeartbeats 1000000 in
theorem drawRowOk_any (A : Option Addr) (cap : Nat) (zs : List Int) (w : World) (hU : U8s w w.heap.size A zs) (hl : zs.length ≤ 1048576) :
    Calls Tryd.prog 43 #[.slice A zs.length cap] w (Drawn1 8 w) := by
  go_enter Tryd.func43, Tryd.ntmps43
  go_wp2_with fail
  refine (l1New_any A cap zs _ hU hl).mono ?_
  rintro e w1 ⟨rfl, hC1, hb1⟩
  go_wp2_with fail
  refine (l1DrawAny_any _ _ hC1).mono ?_
  rintro e w2 ⟨v2, ys, rfl, hyl, hown2, hC2, hg2⟩
  go_wp2
  go_ret
  exact ⟨_, ys, rfl, hyl, own_mono hown2 hb1.size, hb1.grown hg2 hb1.size (fun k e => by cases e; exact Nat.le_refl _)⟩
set_option maxHeartbeats 1000000 in
theorem drawShowRow_any (A : Option Addr) (cap : Nat) (zs : List Int) (w : World) (hU : U8s w w.heap.size A zs) (hl : zs.length ≤ 1048576) :
    Calls Tryd.prog 9 #[.slice A zs.length cap] w (Drawn1 8 w) := by
  go_enter Tryd.func9, Tryd.ntmps9
  go_wp2_with fail
  refine (drawRowOk_any A cap zs _ hU hl).mono ?_
  rintro e w2 ⟨v2, ys, rfl, hyl, hown2, hb2⟩
  go_wp2
  go_ret
  exact ⟨_, ys, rfl, hyl, hown2, hb2⟩
set_option maxHeartbeats 2000000 in
theorem drawPicked_any (A : Option Addr) (cap : Nat) (zs : List Int) (w : World) (hU : U8s w w.heap.size A zs) (hl : zs.length ≤ 1048576) :
    Calls Tryd.prog 14 #[.slice A zs.length cap] w (Drawn2 8 4 w) := by
  go_enter Tryd.func14, Tryd.ntmps14
  go_wp2_with fail
  refine (l1New_any A cap zs _ hU hl).mono ?_
  rintro e w1 ⟨rfl, hC1, hb1⟩
  go_wp2_with fail
  refine (l1DrawAny_any _ _ hC1).mono ?_
  rintro e w2 ⟨v2, ys, rfl, hyl, hown2, hC2, hg2⟩
  obtain ⟨A2, cap2, rfl⟩ := own_form hown2
  have hb2 : Below w.heap.size w w2 := hb1.grown hg2 hb1.size (fun k e => by cases e; exact Nat.le_refl _)
  go_wp2_with fail
  refine (l1DrawPlaces_any _ ys.length _ hC2 (by omega)).mono ?_
  rintro e w3 ⟨v3, ps, rfl, hpl, hown3, hC3, hg3⟩
  have hown2' := own_keep hown2 hg3 hC1.lt
  go_wp2
  go_ret2
  exact ⟨_, ys, _, ps, rfl, hyl, hpl, own_mono hown2' hb1.size, own_mono hown3 hb2.size, hb2.grown hg3 hb2.size (fun k e => by cases e; exact Nat.le_refl _)⟩
theorem reads_own {w : World} {base : Nat} {A : Option Addr} {cap n : Nat} {xs : List Value} {e : TypeId} (h : w.ownsRow base e 1 (.slice A n cap) n xs) : Reads w w.heap.size 1 A n xs := Reads.of_own h

set_option maxRecDepth 100000 in
set_option maxHeartbeats 4000000 in
theorem drawRowLess_any (A : Option Addr) (cap : Nat) (zs : List Int) (w : World) (hU : U8s w w.heap.size A zs) (hl : zs.length ≤ 1048576) :
    Calls Tryd.prog 13 #[.slice A zs.length cap] w (Drawn2 8 10 w) := by
  obtain ⟨i0, hi0, hz0, hz1, hz2⟩ := info_parts info_i64
  go_enter Tryd.func13, Tryd.ntmps13
  go_wp2_with fail
  refine (l1New_any A cap zs _ hU hl).mono ?_
  rintro e w1 ⟨rfl, hC1, hb1⟩
  have hcl := hC1.lt
  go_wp2_with fail
  refine (l1DrawAny_any _ _ hC1).mono ?_
  rintro e w2 ⟨v2, ys, rfl, hyl, hown2, hC2, hg2⟩
  obtain ⟨A2, cap2, rfl⟩ := own_form hown2
  go_wp2_with fail
  refine (l1Once_any _ 3 _ hC2 (by omega) (by omega)).mono ?_
  rintro e w3 ⟨b3, rfl, hC3, hg3⟩
  have hown3 := own_keep hown2 hg3 hcl
  have hG3 : w1.grownBy w3 (some w.heap.size) := grown_trans hg2 hg3
  clear hown2 hC2 hg2 hg3 hC1
  cases b3 with
  | false =>
    go_wp2_with fail
    refine (l1DrawAny_any _ _ hC3).mono ?_
    rintro e w4 ⟨v4, us, rfl, hul, hown4, hC4, hg4⟩
    have hown3' := own_keep hown3 hg4 hcl
    have hG4 : w1.grownBy w4 (some w.heap.size) := grown_trans hG3 hg4
    go_wp2
    go_ret2
    exact ⟨_, ys, _, us, rfl, hyl, by omega, own_mono hown3' hb1.size, own_mono hown4 (Nat.le_trans hb1.size hG3.size), hb1.grown hG4 hb1.size (fun k e => by cases e; exact Nat.le_refl _)⟩
  | true =>
    have hE := ownsRow_empty w3 2 w3.heap.size (Nat.le_refl _)
    have hR := reads_own (hown3.alloc (.cells #[] 2))
    have h63 := own_lt hown3
    go_wp2_with (at_builtin; refine wpList_append_any _ rfl (.tmp 13) (.tmp 14) 24 rfl w3.heap.size 2 i0 (.int .i64 0) 1 8 Tryd.underlying24 hi0 hz0 hz1 hz2 rfl (by decide) _ _ _ rfl hE _ A2 ys.length cap2 (i64l ys) rfl hR (ints_oneCell _ _) (by simp only [maxLen]; omega) (by omega) (by simp) ?_; intro v5 w5 hown5 hg5 hat5; obtain ⟨A5, cap5, rfl⟩ := own_form hown5)
    simp only [Nat.zero_add, List.nil_append] at hown5
    have hr5 : ∀ r, (Value.slice (some ⟨w3.heap.size, 0, none⟩) 0 0).ownBlock = some r → w3.heap.size ≤ r := fun r e => by simp [Value.ownBlock] at e; omega
    have hc3 : w.heap.size < w3.heap.size := Nat.lt_of_lt_of_le hcl hG3.size
    have hC5 : Cur w5 w.heap.size := (hC3.below ((Below.refl _ _).alloc (Nat.le_refl _) _)).grown hg5 (fun r e => by have := hr5 r e; omega)
    have hown3' := own_other (hown3.alloc _) hg5 hr5 h63
    have hG5 : w1.grownBy w5 (some w.heap.size) := grown_own (grown_own hG3 (World.grownBy_alloc w3 _ none) (fun r e => by cases e)) hg5 (fun r e => by have := hr5 r e; have := hG3.size; omega)
    have hs5 : w3.heap.size ≤ w5.heap.size := by have := hg5.size; simp at this; omega
    clear hE hR hown3 hC3 hg5 hat5
    refine (l1Below_any _ 2 _ hC5 (by omega) (by omega)).mono ?_
    rintro e w6 ⟨x6, rfl, h60, h61, _, hC6, hg6⟩
    obtain ⟨n6, rfl⟩ := Int.eq_ofNat_of_zero_le h60
    have hn6 : n6 < 2 := by have := h61 (by omega); omega
    have hown3a := own_keep hown3' hg6 hcl
    have hown5a := own_keep hown5 hg6 hc3
    have hG6 : w1.grownBy w6 (some w.heap.size) := grown_trans hG5 hg6
    have hs6 : w3.heap.size ≤ w6.heap.size := Nat.le_trans hs5 hg6.size
    clear h60 h61 hC5 hown3' hown5 hG5 hg6
    go_wp2_with fail
    refine (l1DrawRow_any _ n6 _ hC6 (by omega)).mono ?_
    rintro e w7 ⟨v7, us, rfl, hul, hown7, hC7, hg7⟩
    obtain ⟨A7, cap7, rfl⟩ := own_form hown7
    have hown3b := own_keep hown3a hg7 hcl
    have hown5b := own_keep hown5a hg7 hc3
    have hG7 : w1.grownBy w7 (some w.heap.size) := grown_trans hG6 hg7
    have hs7 : w3.heap.size ≤ w7.heap.size := Nat.le_trans hs6 hg7.size
    have hR7 := reads_own hown7
    clear hC6 hown3a hown5a hG6 hg7 hs6 hs5
    go_wp2_with (at_builtin; refine wpList_append_any _ rfl (.tmp 15) (.tmp 19) 24 rfl w3.heap.size 2 i0 (.int .i64 0) 1 8 Tryd.underlying24 hi0 hz0 hz1 hz2 rfl (by decide) _ _ _ rfl hown5b _ A7 us.length cap7 (i64l us) rfl hR7 (ints_oneCell _ _) (by simp only [maxLen]; omega) (by omega) hs7 ?_; intro v8 w8 hown8 hg8 hat8)
    have hr8 : ∀ r, (Value.slice A5 ys.length cap5).ownBlock = some r → w3.heap.size ≤ r := fun r e => (hown5b.lt r e).1
    have hown3c := own_other hown3b hg8 hr8 h63
    have hG8 : w1.grownBy w8 (some w.heap.size) := grown_own hG7 hg8 (fun r e => by have := hr8 r e; have := hG3.size; omega)
    go_ret2
    exact ⟨_, ys, _, ys ++ us, rfl, hyl, by simp; omega, own_mono hown3c hb1.size, own_mono (by simpa [i64l] using hown8) (Nat.le_trans hb1.size hG3.size), hb1.grown hG8 hb1.size (fun k e => by cases e; exact Nat.le_refl _)⟩
end Go.Proofs.YthlniadodiomfaaDoor
