/- What is drawn for the law on conds, and laws.likeConds; nothing that lay has turned but the drawing's own place. -/
import Derived.Test.YtdpokfjempdchaaGreatDoorDrCnd
import Derived.Test.YtdpokfjempdchaaGreatDoorBend1
import Derived.Test.YtdpokfjempdchaaGreatDoorCndZ
import Derived.Test.YtdpokfjempdchaaGreatDoorDraw2
namespace Go.Proofs.YtdpokfjempdchaaGreatDoor
open Go.RowKit

/-- A row drawn, of small numbers. -/
def DrawnR (c most : Nat) (w : World) (e : Ending) (w' : World) : Prop :=
  ∃ v zs, e = .returned v ∧ zs.length ≤ most ∧ (∀ x ∈ zs, -1 ≤ x ∧ x ≤ 2) ∧ w'.ownsRow w.heap.size 2 1 v zs.length (i64l zs) ∧ Cur w' c ∧ w.grownBy w' (some c)
set_option maxRecDepth 100000 in
set_option maxHeartbeats 2000000 in
theorem l1DrawRow_in (c : Nat) (n : Nat) (w : World) (hC : Cur w c) (hn : n ≤ 1000) :
    Calls Tryz.prog 29 #[.pointer (some ⟨c, 0, none⟩), .int .i64 n] w (DrawnR c n w) := by
  obtain ⟨i0, hi0, hz0, hz1, hz2⟩ := info_parts info_i64
  have hcl := hC.lt
  have hE := ownsRow_empty w 2 w.heap.size (Nat.le_refl _)
  have hC0 : Cur (w.alloc (.cells #[] 2)) c := hC.below ((Below.refl _ _).alloc (Nat.le_refl _) _)
  have hG0 : w.grownBy (w.alloc (.cells #[] 2)) (some c) := World.grownBy_alloc w _ _
  go_enter Tryz.func29, Tryz.ntmps29
  go_wp2
  go_loopw [1, 5] (fun k v wr => ∃ (j : Nat) (zs : List Int), j ≤ n ∧ (zs.length + j ≤ n ∧ ∀ x ∈ zs, -1 ≤ x ∧ x ≤ 2) ∧ k = .int .i64 j ∧ wr.ownsRow w.heap.size 2 1 v zs.length (i64l zs) ∧ Cur wr c ∧ w.grownBy wr (some c)) (fun k _ _ => (intOf k).toNat)
  case atStart => exact ⟨n, [], Nat.le_refl _, ⟨by simp, fun x hx => by cases hx⟩, rfl, hE, hC0, hG0⟩
  case round =>
    obtain ⟨j, zs, hj, ⟨hjl, hzz⟩, rfl, hown, hCr, hGr⟩ := hrel
    have HZZ := Lib.hid hzz
    clear hzz
    clear hE hC0 hG0
    by_cases h0 : 0 < j
    · go_wp2_with fail
      refine (l1Below_any c 4 _ hCr (by omega) (by omega)).mono ?_
      rintro e w1 ⟨x, rfl, hx0, hx1, _, hC1, hg1⟩
      have hx2 := hx1 (by omega)
      have hown1 := own_keep hown hg1 hcl
      have hG1 : w.grownBy w1 (some c) := grown_trans hGr hg1
      clear hx1 hown hg1 hGr hCr
      go_wp2_with (at_builtin; refine wpList_append_own _ rfl _ _ 32 rfl w.heap.size 2 i0 (.int .i64 0) 1 8 Tryz.underlying32 hi0 hz0 hz1 hz2 rfl (by decide) _ _ _ rfl (hown1.alloc _) ⟨w1.heap.size, 0, none⟩ 1 1 [.int .i64 (x - 1)] rfl rfl (cell_one_new _ _ _) (by simp [Value.oneCell']) (by simp only [maxLen]; omega) (by omega) (by have := hG1.size; simp; omega) ?_; intro v' w2 hown2 hgrow2 _)
      have hG2 : w.grownBy w2 (some c) := grown_own (grown_own hG1 (World.grownBy_alloc w1 _ none) (fun r e => by cases e)) hgrow2 (fun r e => (hown1.lt r e).1)
      have hC2 : Cur w2 c := (hC1.below ((Below.refl _ _).alloc (Nat.le_refl _) _)).grown hgrow2 (fun r e => by have := (hown1.lt r e).1; omega)
      clear hgrow2 hown1 hC1 hG1
      go_roundw
      case rel => exact ⟨j - 1, zs ++ [x - 1], by omega, ⟨by simp; omega, fun y hy => by
        rcases List.mem_append.1 hy with hy | hy
        · exact HZZ.out y hy
        · obtain rfl : y = x - 1 := by simpa using hy
          omega⟩, by go_num, by simpa [i64l] using hown2, hC2, hG2⟩
      case measure => simp [intOf]; omega
    · have hd : decide (0 < j) = false := by simpa using h0
      go_wp2
      go_ret
      exact ⟨_, zs, rfl, by omega, HZZ.out, hown, hCr, hGr⟩

theorem own_cap {w : World} {base n c : Nat} {e : TypeId} {size : Nat} {A : Option Addr} {xs : List Value} (h : w.ownsRow base e size (.slice A n c) n xs) : n ≤ c := by
  rcases h.2 with ⟨h1, h0⟩ | ⟨g, cap, cur, hv, _, _, hnc, _⟩
  · omega
  · injection hv with _ _ e3
    omega
/-- Conds drawn from a code. -/
def DrawnCo (w : World) (e : Ending) (w' : World) : Prop :=
  ∃ A cap l, e = .returned (.slice A l.length cap) ∧ l.length ≤ 2 ∧ Cnds w' w'.heap.size A l ∧ Below w.heap.size w w'
set_option maxRecDepth 100000 in
set_option maxHeartbeats 2000000 in
theorem drawShowConds_any (A : Option Addr) (cap : Nat) (zs : List Int) (w : World) (hU : U8s w w.heap.size A zs) (hl : zs.length ≤ 1048576) :
    Calls Tryz.prog 5 #[.slice A zs.length cap] w (DrawnCo w) := by
  go_enter Tryz.func5, Tryz.ntmps5
  go_wp2_with fail
  refine (l1New_any A cap zs _ hU hl).mono ?_
  rintro e w1 ⟨rfl, hC1, hb1⟩
  go_wp2_with fail
  refine (l7DrawAny_any _ w1 hC1).mono ?_
  rintro e w2 ⟨Ac, cc, l, rfl, hll, hO2, hC2, hg2⟩
  have hb2 : Below w.heap.size w w2 := hb1.grown hg2 hb1.size (fun k e => by cases e; exact Nat.le_refl _)
  go_wp2
  go_ret
  exact ⟨Ac, cc, l, rfl, hll, cnds_own hO2, hb2⟩
set_option maxRecDepth 100000 in
set_option maxHeartbeats 2000000 in
theorem drawCondsOk_any (A : Option Addr) (cap : Nat) (zs : List Int) (w : World) (hU : U8s w w.heap.size A zs) (hl : zs.length ≤ 1048576) :
    Calls Tryz.prog 9 #[.slice A zs.length cap] w fun e w' => ∃ A' cap' l wd, e = .returned (.tuple #[.slice A' l.length cap', .int .i64 wd]) ∧ l.length ≤ 2 ∧ Cnds w' w'.heap.size A' l ∧ Below w.heap.size w w' := by
  go_enter Tryz.func9, Tryz.ntmps9
  go_wp2_with fail
  refine (l1New_any A cap zs _ hU hl).mono ?_
  rintro e w1 ⟨rfl, hC1, hb1⟩
  have hcl := hC1.lt
  go_wp2_with fail
  refine (l7DrawAny_any _ w1 hC1).mono ?_
  rintro e w2 ⟨Ac, cc, l, rfl, hll, hO2, hC2, hg2⟩
  have hb2 : Below w.heap.size w w2 := hb1.grown hg2 hb1.size (fun k e => by cases e; exact Nat.le_refl _)
  clear hC1 hU hg2
  go_wp2_with fail
  refine (l1From_any _ (-1) 6 w2 hC2 (by omega) (by omega) (by omega)).mono ?_
  rintro e w3 ⟨x, rfl, hx0, hx1, hC3, hg3⟩
  have hO3 := own_keep hO2 hg3 hcl
  have hb3 : Below w.heap.size w w3 := hb2.grown hg3 hb2.size (fun k e => by cases e; exact Nat.le_refl _)
  have HC := Lib.hid (cnds_own hO3)
  clear hO2 hC2 hg3 hb2 hO3
  go_wp2
  go_ret2
  exact ⟨Ac, cc, l, x, rfl, hll, HC.out, hb3⟩
set_option maxRecDepth 100000 in
set_option maxHeartbeats 2000000 in
theorem drawHolds_any (A : Option Addr) (cap : Nat) (zs : List Int) (w : World) (hU : U8s w w.heap.size A zs) (hl : zs.length ≤ 1048576) :
    Calls Tryz.prog 10 #[.slice A zs.length cap] w fun e w' => ∃ A' cap' l A2 cap2 row, e = .returned (.tuple #[.slice A' l.length cap', .slice A2 (row : List Int).length cap2]) ∧ (l.length ≤ 2 ∧ l.length ≤ cap') ∧ row.length ≤ 3 ∧ (∀ x ∈ row, -1 ≤ x ∧ x ≤ 2) ∧ Cnds w' w'.heap.size A' l ∧ Ints w' w'.heap.size A2 row ∧ Below w.heap.size w w' := by
  go_enter Tryz.func10, Tryz.ntmps10
  go_wp2_with fail
  refine (l1New_any A cap zs _ hU hl).mono ?_
  rintro e w1 ⟨rfl, hC1, hb1⟩
  have hcl := hC1.lt
  go_wp2_with fail
  refine (l7DrawAny_any _ w1 hC1).mono ?_
  rintro e w2 ⟨Ac, cc, l, rfl, hll, hO2, hC2, hg2⟩
  have hb2 : Below w.heap.size w w2 := hb1.grown hg2 hb1.size (fun k e => by cases e; exact Nat.le_refl _)
  clear hC1 hU hg2
  go_wp2_with fail
  refine (l1Below_any _ 2 w2 hC2 (by omega) (by omega)).mono ?_
  rintro e w3 ⟨x, rfl, hx0, hx1, _, hC3, hg3⟩
  have hx2 := hx1 (by omega)
  obtain ⟨n, rfl⟩ := Int.eq_ofNat_of_zero_le hx0
  obtain ⟨m, hm⟩ : ∃ m, n + 2 = m := ⟨_, rfl⟩
  have hcap := own_cap hO2
  have hwm : IntKind.i64.wrap (2 + (n : Int)) = (m : Int) := by rw [IntKind.wrap_i64]; omega
  have hm3 : m ≤ 3 := by omega
  have hO3 := own_keep hO2 hg3 hcl
  have hb3 : Below w.heap.size w w3 := hb2.grown hg3 hb2.size (fun k e => by cases e; exact Nat.le_refl _)
  clear hO2 hC2 hg3 hb2 hm hx1
  go_wp2_with fail
  refine (l1DrawRow_in _ m w3 hC3 (by omega)).mono ?_
  rintro e w4 ⟨v4, us, rfl, hul, hub, hown4, hC4, hg4⟩
  obtain ⟨A4, cap4, g4, rfl, hg4', RW⟩ := Row.of_own hown4
  have hO4 := own_keep hO3 hg4 hcl
  have hb4 : Below w.heap.size w w4 := hb3.grown hg4 hb3.size (fun k e => by cases e; exact Nat.le_refl _)
  have HC := Lib.hid (And.intro (cnds_own hO4) (And.intro RW.ints hub))
  clear hO3 hC3 hg4 hb3 hO4 hown4 RW hub
  go_wp2
  go_ret2
  exact ⟨Ac, cc, l, A4, cap4, us, rfl, ⟨hll, hcap⟩, by omega, HC.out.2.2, HC.out.1, HC.out.2.1, hb4⟩
theorem showCs_le (l : List Cnd) : (showCs l).length ≤ 141 := by
  unfold showCs
  split
  · rename_i h
    split
    · simp
    · exact showCs_len h
  · simp
set_option maxRecDepth 100000 in
set_option maxHeartbeats 2000000 in
theorem drawReadConds_any (A : Option Addr) (cap : Nat) (zs : List Int) (w : World) (hU : U8s w w.heap.size A zs) (hl : zs.length ≤ 1048576) :
    Calls Tryz.prog 7 #[.slice A zs.length cap] w fun e w' => ∃ t : ByteArray, e = .returned (.string t) ∧ t.size ≤ 1000 ∧ Below w.heap.size w w' := by
  go_enter Tryz.func7, Tryz.ntmps7
  go_wp2_with fail
  refine (l1New_any A cap zs _ hU hl).mono ?_
  rintro e w1 ⟨rfl, hC1, hb1⟩
  have hcl := hC1.lt
  go_wp2_with fail
  refine (l7Draw_any _ w1 hC1).mono ?_
  rintro e w2 ⟨Ac, cc, l, rfl, hll, hO2, hC2, hg2⟩
  have hb2 : Below w.heap.size w w2 := hb1.grown hg2 hb1.size (fun k e => by cases e; exact Nat.le_refl _)
  have hsl := showCs_le l
  have hCn := cnds_own hO2
  clear hC1 hU hg2 hO2
  go_wp2_with fail
  refine (specShowConds_any Ac cc l w2 hCn (by omega)).mono ?_
  rintro e w4 ⟨rfl, hb4⟩
  have hC4 := hC2.below hb4
  have hb04 := bel_step hb2 hb4
  have hsz : (mkB (showCs l)).size = (showCs l).length := by rw [← bl_length, bl_mkB]
  clear hC2 hb4 hCn hb2
  generalize mkB (showCs l) = ss at *
  go_wp2_with fail
  refine (l1Once_any _ 2 _ hC4 (by omega) (by omega)).mono ?_
  rintro e w5 ⟨b5, rfl, hC5, hg5⟩
  have hb05 : Below w.heap.size w w5 := hb04.grown hg5 hb04.size (fun k e => by cases e; exact Nat.le_refl _)
  clear hC4 hg5
  cases b5 with
  | false =>
    go_wp2
    go_ret
    exact ⟨_, rfl, by omega, hb05⟩
  | true =>
    go_wp2_with fail
    refine (l1Bend_any _ _ ⟨#[36, 48, 60, 61, 62, 44, 45, 49]⟩ _ hC5 (by omega) (by decide) (by decide)).mono ?_
    rintro e w6 ⟨t, rfl, hts, hC6, hg6⟩
    have hb06 : Below w.heap.size w w6 := hb05.grown hg6 hb05.size (fun k e => by cases e; exact Nat.le_refl _)
    go_wp2
    go_ret
    exact ⟨t, rfl, by omega, hb06⟩
set_option maxRecDepth 100000 in
set_option maxHeartbeats 2000000 in
theorem likeConds_same (A A' : Option Addr) (c c' : Nat) (l : List Cnd) (w : World) (hB : Cnds w w.heap.size A l) (hB' : Cnds w w.heap.size A' l) (hl : l.length ≤ 1099511627776) :
    Calls Tryz.prog 12 #[.slice A l.length c, .slice A' l.length c'] w fun e w' => e = .returned (.bool true) ∧ Below w.heap.size w w' := by
  have hb : ((l.length : Int) != (l.length : Int)) = false := by simp
  go_enter Tryz.func12, Tryz.ntmps12
  go_wp2
  go_loopw [5] (fun i wr => ∃ k : Nat, k ≤ l.length ∧ i = .int .i64 k ∧ Below w.heap.size w wr) (fun i _ => l.length - (intOf i).toNat)
  case atStart => exact ⟨0, Nat.zero_le _, rfl, Below.refl _ _⟩
  case round =>
    obtain ⟨k, hk, rfl, hW⟩ := hrel
    by_cases hlt : k < l.length
    · obtain ⟨b, off, rfl, _, h0, h1, h2, h3⟩ := (hB.on hW).here hlt
      obtain ⟨b', off', rfl, _, g0, g1, g2, g3⟩ := (hB'.on hW).here hlt
      go_wp2_with fail
      go_quiet (first | fail)
      have hWn := bel_drewN hW nq
      clear hW h0 h1 h2 h3 g0 g1 g2 g3
      go_wp2
      go_roundw
      case rel => exact ⟨k + 1, by omega, by go_num, hWn⟩
      case measure => simp [intOf]; omega
    · have hd : decide (k < l.length) = false := by simpa using hlt
      go_wp2
      go_ret
      exact ⟨rfl, hW⟩
end Go.Proofs.YtdpokfjempdchaaGreatDoor
