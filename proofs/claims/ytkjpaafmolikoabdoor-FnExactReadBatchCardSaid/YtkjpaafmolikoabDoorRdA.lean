/- Reading a deed: what is answered, in memory; strings.Cut at a blank; the program's ReadDeed out of what it calls. For texts of at most 2^30 bytes. -/
import Derived.Test.YtkjpaafmolikoabDoorShow5
import Derived.Test.YtkjpaafmolikoabDoorShow6
namespace Go.Proofs.YtkjpaafmolikoabDoor
open Go.RowKit

/-- The answer of a reader of deeds, in memory. -/
def DeedAns (p : RD) (w : World) (e : Ending) (w' : World) : Prop :=
  ∃ A c g, e = .returned (.tuple #[.agg #[.int .i64 p.k, .string p.n, .slice A p.z.length c], .bool p.ok]) ∧ w.heap.size ≤ g ∧ Row w' 2 A p.z g ∧ Below w.heap.size w w'
theorem deedAns_zero {w w' : World} {e : Ending} (he : e = .returned (.tuple #[.agg #[.int .i64 0, .string ⟨#[]⟩, .slice none 0 0], .bool false])) (hb : Below w.heap.size w w') : DeedAns zeroD w e w' :=
  ⟨none, 0, w.heap.size, he, Nat.le_refl _, fun h => absurd h (by simp [zeroD]), hb⟩
theorem cut_le (l : List UInt8) : (cutA l).length ≤ l.length ∧ (cutR l).length ≤ l.length := by
  unfold cutA cutR
  rcases has_cut 32 l with h | ⟨a, b, ha, rfl⟩
  · rw [cut_no h]; simp
  · rw [cut_at ha]; simp; omega
theorem mkB_size (l : List UInt8) : (mkB l).size = l.length := by rw [← bl_length, bl_mkB]
theorem cutS_any (s : ByteArray) (l : List UInt8) (h : bl s = l) (w : World) (hs : s.size ≤ 1073741824) (hL : LaidAll w) :
    Calls Tryd.prog 66 #[.string s, .string ⟨#[32]⟩] w fun e w' => e = .returned (.tuple #[.string (mkB (cutA l)), .string (mkB (cutR l)), .bool (cutM l)]) ∧ Below w.heap.size w w' := by
  obtain ⟨⟨m, hm⟩, _⟩ := hL w (Below.refl _ _)
  subst h
  exact (Tryd.strings_Cut s ⟨#[32]⟩ m w (by omega) hm).mono fun e w' ⟨he, n, hw⟩ => ⟨he, by rw [hw]; exact bel_drewN (Below.refl _ _) n⟩

theorem set3_row {w : World} {t : TypeId} {A : Option Addr} {zs : List Int} {g G : Nat} (h : Row w t A zs g) (hne : 0 < zs.length → g ≠ G) (x y z : Value) : Row (((w.setCell ⟨G, 0, none⟩ x).setCell ⟨G, 1, none⟩ y).setCell ⟨G, 2, none⟩ z) t A zs g :=
  h.kept (grown_trans (grown_trans (grown_setCell w G 0 x) (grown_setCell _ G 1 y)) (grown_setCell _ G 2 z)) (fun hn e => hne hn (Option.some.inj e))
theorem set3_bel {w w5 : World} {G : Nat} (h : Below w.heap.size w w5) (hG : w.heap.size ≤ G) (x y z : Value) : Below w.heap.size w (((w5.setCell ⟨G, 0, none⟩ x).setCell ⟨G, 1, none⟩ y).setCell ⟨G, 2, none⟩ z) :=
  ((h.setCell (p := ⟨G, 0, none⟩) hG _).setCell (p := ⟨G, 1, none⟩) hG _).setCell (p := ⟨G, 2, none⟩) hG _
theorem endD_no {s : List UInt8} {k : Int} {n : ByteArray} {zs : List Int} (h : deedB k n zs = false) : endD s k n zs = zeroD := by unfold endD; rw [if_neg (fun e => by rw [h] at e; exact absurd e.1 (by simp))]
theorem endD_other {s : List UInt8} {k : Int} {n : ByteArray} {zs : List Int} (h : ¬ showD k n zs = s) : endD s k n zs = zeroD := by unfold endD; rw [if_neg (fun e => h e.2)]
theorem endD_yes {s : List UInt8} {k : Int} {n : ByteArray} {zs : List Int} (h : deedB k n zs = true) (h2 : showD k n zs = s) : endD s k n zs = ⟨k, n, zs, true⟩ := by unfold endD; rw [if_pos ⟨h, h2⟩]
theorem tolist_ne {a b : ByteArray} (h : ¬ bl a = bl b) : (a.toList == b.toList) = false := by
  rw [toList_bl, toList_bl, beq_eq_false_iff_ne]; exact h

set_option maxRecDepth 100000 in
set_option maxHeartbeats 8000000 in
theorem readDeed_core (s a r n b : ByteArray) (cm mo : Bool) (K : Int) (zs : List Int) (ok : Bool) (P : RD) (w : World) (E : P = if mo = true then (if ok = true then endD (bl s) K n zs else zeroD) else endD (bl s) K n []) (hn : n.size ≤ 1073741824) (hz : zs.length ≤ 6) (hL : LaidAll w) (hWd : WordsAt w)
    (C1 : ∀ W, LaidAll W → Calls Tryd.prog 66 #[.string s, .string ⟨#[32]⟩] W fun e w' => e = .returned (.tuple #[.string a, .string r, .bool cm]) ∧ Below W.heap.size W w')
    (C2 : ∀ W, LaidAll W → Calls Tryd.prog 66 #[.string r, .string ⟨#[32]⟩] W fun e w' => e = .returned (.tuple #[.string n, .string b, .bool mo]) ∧ Below W.heap.size W w')
    (C3 : ∀ W, WordsAt W → Calls Tryd.prog 67 #[.string a] W fun e w' => e = .returned (.int .i64 K) ∧ W = w')
    (C4 : ∀ W, LaidAll W → Calls Tryd.prog 11 #[.string b] W (RowAns (zs, ok) W)) :
    Calls Tryd.prog 29 #[.string s] w (DeedAns P w) := by
  have HE := Lib.hid E
  clear E
  have HC1 := Lib.hid C1
  have HC2 := Lib.hid C2
  have HC3 := Lib.hid C3
  have HC4 := Lib.hid C4
  have HL := Lib.hid (show ∀ W, Below w.heap.size w W → LaidAll W ∧ WordsAt W ∧ TabAt W from fun W h => ⟨hL.on h, hWd.on h, (hL.on h).tab⟩)
  have bc := (Below.refl w.heap.size w).alloc (Nat.le_refl _) (.cells #[.int .i64 0, .string ⟨#[]⟩, .slice none 0 0] 39)
  have R := Blk.new w 39 #[.int .i64 0, .string ⟨#[]⟩, .slice none 0 0]
  clear C1 C2 C3 C4 hL hWd
  go_enter Tryd.func29, Tryd.ntmps29
  go_wp2_with fail
  generalize w.alloc (.cells #[.int .i64 0, .string ⟨#[]⟩, .slice none 0 0] 39) = w0 at *
  refine (HC1.out w0 (HL.out w0 bc).1).mono ?_
  rintro e w1 ⟨rfl, hb1⟩
  replace bc := bel_step bc hb1
  replace R := R.on hb1
  clear hb1
  go_wp2_with fail
  refine (HC2.out w1 (HL.out w1 bc).1).mono ?_
  rintro e w2 ⟨rfl, hb2⟩
  replace bc := bel_step bc hb2
  replace R := R.on hb2
  clear hb2
  go_wp2_with fail
  refine (HC3.out w2 (HL.out w2 bc).2.1).mono ?_
  rintro e w2' ⟨rfl, hw2⟩
  cases hw2
  have bd := (Below.refl w2.heap.size w2).alloc (Nat.le_refl _) (.cells #[.int .i64 K, .string n, .slice none 0 0] 39)
  replace bc := bel_step bc bd
  have hgd : w.heap.size < w2.heap.size := R.lt
  replace R := R.on bd
  have D := Blk.new w2 39 #[.int .i64 K, .string n, .slice none 0 0]
  clear bd
  cases mo with
  | false =>
    have HP := Lib.hid (show P = endD (bl s) K n [] by rw [HE.out]; simp)
    clear HE
    cases hd : deedB K n [] with
    | false =>
      have HD := Lib.hid hd
      clear hd
      obtain ⟨D0, D1, D2⟩ := D.c3
      go_wp2_with fail
      generalize w2.alloc (.cells #[.int .i64 K, .string n, .slice none 0 0] 39) = wD at *
      refine (implDeedOk_any K n none 0 [] wD (Ints.nil _ _ _) (by omega) (by simp)).mono ?_
      rintro e w4 ⟨rfl, hb4⟩
      rw [HD.out]
      replace bc := bel_step bc hb4
      replace R := R.on hb4
      clear hb4 D0 D1 D2
      obtain ⟨r0, r1, r2⟩ := R.c3
      have fr0 := R.frozen 0
      have fr1 := R.frozen 1
      have fr2 := R.frozen 2
      go_wp2
      refine bodyPost_ret (v := .tuple #[.agg #[.int .i64 0, .string ⟨#[]⟩, .slice none 0 0], .bool false]) (by simp [results, Tryd.f29, go_sem, *]) rfl ?_
      rw [HP.out, endD_no HD.out]
      exact deedAns_zero rfl (set3_bel bc (Nat.le_refl _) _ _ _)
    | true =>
      have HD := Lib.hid hd
      clear hd
      obtain ⟨D0, D1, D2⟩ := D.c3
      go_wp2_with fail
      generalize w2.alloc (.cells #[.int .i64 K, .string n, .slice none 0 0] 39) = wD at *
      refine (implDeedOk_any K n none 0 [] wD (Ints.nil _ _ _) (by omega) (by simp)).mono ?_
      rintro e w4 ⟨rfl, hb4⟩
      rw [HD.out]
      replace bc := bel_step bc hb4
      replace R := R.on hb4
      replace D := D.on hb4
      clear hb4 D0 D1 D2
      obtain ⟨D0, D1, D2⟩ := D.c3
      go_wp2_with fail
      refine (implShowDeed_any K n none 0 [] w4 (Ints.nil _ _ _) (by omega) (by simp) (HL.out w4 bc).2.2 (HL.out w4 bc).2.1).mono ?_
      rintro e w5 ⟨rfl, hb5⟩
      replace bc := bel_step bc hb5
      replace R := R.on hb5
      replace D := D.on hb5
      clear hb5 D0 D1 D2
      by_cases hsh : showD K n [] = bl s
      · have HSH := Lib.hid hsh
        rw [show (⟨(showD K n []).toArray⟩ : ByteArray) = s from by rw [hsh]; rfl]
        clear hsh
        obtain ⟨D0, D1, D2⟩ := D.c3
        obtain ⟨r0, r1, r2⟩ := R.c3
        have fr0 := R.frozen 0
        have fr1 := R.frozen 1
        have fr2 := R.frozen 2
        go_wp2
        refine bodyPost_ret (v := .tuple #[.agg #[.int .i64 K, .string n, .slice none 0 0], .bool true]) (by simp [results, Tryd.f29, go_sem, *]) rfl ?_
        rw [HP.out, endD_yes HD.out HSH.out]
        exact ⟨_, _, w.heap.size, rfl, Nat.le_refl _, fun h => absurd h (by simp), set3_bel bc (Nat.le_refl _) _ _ _⟩
      · have HSH := Lib.hid hsh
        obtain ⟨T, hT⟩ : ∃ T : ByteArray, (⟨(showD K n []).toArray⟩ : ByteArray) = T := ⟨_, rfl⟩
        have hne : (T.toList == s.toList) = false := tolist_ne (by rw [← hT, bl_mk]; exact hsh)
        have hne2 : (T.toList != s.toList) = true := by rw [bne, hne]; rfl
        rw [hT]
        clear hsh hT
        obtain ⟨r0, r1, r2⟩ := R.c3
        have fr0 := R.frozen 0
        have fr1 := R.frozen 1
        have fr2 := R.frozen 2
        go_wp2
        refine bodyPost_ret (v := .tuple #[.agg #[.int .i64 0, .string ⟨#[]⟩, .slice none 0 0], .bool false]) (by simp [results, Tryd.f29, go_sem, *]) rfl ?_
        rw [HP.out, endD_other HSH.out]
        exact deedAns_zero rfl (set3_bel bc (Nat.le_refl _) _ _ _)
  | true =>
    cases ok with
    | false =>
      have HP := Lib.hid (show P = zeroD by rw [HE.out]; simp)
      clear HE
      go_wp2_with fail
      generalize w2.alloc (.cells #[.int .i64 K, .string n, .slice none 0 0] 39) = wD at *
      refine (HC4.out wD (HL.out wD bc).1).mono ?_
      rintro e w3 ⟨v3, rfl, hown, hb3⟩
      replace bc := bel_step bc hb3
      replace R := R.on hb3
      clear hb3 hown D
      obtain ⟨r0, r1, r2⟩ := R.c3
      have fr0 := R.frozen 0
      have fr1 := R.frozen 1
      have fr2 := R.frozen 2
      go_wp2
      refine bodyPost_ret (v := .tuple #[.agg #[.int .i64 0, .string ⟨#[]⟩, .slice none 0 0], .bool false]) (by simp [results, Tryd.f29, go_sem, *]) rfl ?_
      rw [HP.out]
      exact deedAns_zero rfl (set3_bel bc (Nat.le_refl _) _ _ _)
    | true =>
      have HP := Lib.hid (show P = endD (bl s) K n zs by rw [HE.out]; simp)
      clear HE
      go_wp2_with fail
      have hgD : w2.heap.size < (w2.alloc (.cells #[.int .i64 K, .string n, .slice none 0 0] 39)).heap.size := by rw [World.size_alloc]; omega
      generalize w2.alloc (.cells #[.int .i64 K, .string n, .slice none 0 0] 39) = wD at *
      refine (HC4.out wD (HL.out wD bc).1).mono ?_
      rintro e w3 ⟨v3, rfl, hown, hb3⟩
      obtain ⟨A3, c3, g3, hv3, hg3, hR3⟩ := Row.of_own (zs := zs) hown
      subst hv3
      replace bc := (bel_step bc hb3).setCell (p := ⟨w2.heap.size, 2, none⟩) (by show w.heap.size ≤ w2.heap.size; omega) (.slice A3 zs.length c3)
      replace R := (R.on hb3).far (p := ⟨w2.heap.size, 2, none⟩) (by show w.heap.size ≠ w2.heap.size; omega) (.slice A3 zs.length c3)
      have D3 := D.on hb3
      have fd2 := D3.frozen 2
      obtain ⟨d0, d1, d2⟩ := D3.c3
      replace D : Blk (w3.setCell ⟨w2.heap.size, 2, none⟩ (.slice A3 zs.length c3)) w2.heap.size 39 #[.int .i64 K, .string n, .slice A3 zs.length c3] := D3.set_ 2 (.slice A3 zs.length c3)
      replace hR3 := hR3.kept (grown_setCell w3 w2.heap.size 2 (.slice A3 zs.length c3)) (fun _ e => by have e' : g3 = w2.heap.size := Option.some.inj e; omega)
      clear hb3 hown D3
      cases hd : deedB K n zs with
      | false =>
        have HD := Lib.hid hd
        clear hd
        obtain ⟨D0, D1, D2⟩ := D.c3
        go_wp2_with fail
        generalize w3.setCell ⟨w2.heap.size, 2, none⟩ (.slice A3 zs.length c3) = w3x at *
        refine (implDeedOk_any K n A3 c3 zs w3x hR3.ints (by omega) (by omega)).mono ?_
        rintro e w4 ⟨rfl, hb4⟩
        rw [HD.out]
        replace bc := bel_step bc hb4
        replace R := R.on hb4
        clear hb4 D0 D1 D2
        obtain ⟨r0, r1, r2⟩ := R.c3
        have fr0 := R.frozen 0
        have fr1 := R.frozen 1
        have fr2 := R.frozen 2
        go_wp2
        refine bodyPost_ret (v := .tuple #[.agg #[.int .i64 0, .string ⟨#[]⟩, .slice none 0 0], .bool false]) (by simp [results, Tryd.f29, go_sem, *]) rfl ?_
        rw [HP.out, endD_no HD.out]
        exact deedAns_zero rfl (set3_bel bc (Nat.le_refl _) _ _ _)
      | true =>
        have HD := Lib.hid hd
        clear hd
        obtain ⟨D0, D1, D2⟩ := D.c3
        go_wp2_with fail
        generalize w3.setCell ⟨w2.heap.size, 2, none⟩ (.slice A3 zs.length c3) = w3x at *
        refine (implDeedOk_any K n A3 c3 zs w3x hR3.ints (by omega) (by omega)).mono ?_
        rintro e w4 ⟨rfl, hb4⟩
        rw [HD.out]
        replace bc := bel_step bc hb4
        replace R := R.on hb4
        replace D := D.on hb4
        replace hR3 := hR3.on hb4
        clear hb4 D0 D1 D2
        obtain ⟨D0, D1, D2⟩ := D.c3
        go_wp2_with fail
        refine (implShowDeed_any K n A3 c3 zs w4 hR3.ints (by omega) (by omega) (HL.out w4 bc).2.2 (HL.out w4 bc).2.1).mono ?_
        rintro e w5 ⟨rfl, hb5⟩
        replace bc := bel_step bc hb5
        replace R := R.on hb5
        replace D := D.on hb5
        replace hR3 := hR3.on hb5
        clear hb5 D0 D1 D2
        by_cases hsh : showD K n zs = bl s
        · have HSH := Lib.hid hsh
          rw [show (⟨(showD K n zs).toArray⟩ : ByteArray) = s from by rw [hsh]; rfl]
          clear hsh
          obtain ⟨D0, D1, D2⟩ := D.c3
          obtain ⟨r0, r1, r2⟩ := R.c3
          have fr0 := R.frozen 0
          have fr1 := R.frozen 1
          have fr2 := R.frozen 2
          go_wp2
          refine bodyPost_ret (v := .tuple #[.agg #[.int .i64 K, .string n, .slice A3 zs.length c3], .bool true]) (by simp [results, Tryd.f29, go_sem, *]) rfl ?_
          rw [HP.out, endD_yes HD.out HSH.out]
          exact ⟨_, _, g3, rfl, by omega, set3_row hR3 (fun _ => by omega) _ _ _, set3_bel bc (Nat.le_refl _) _ _ _⟩
        · have HSH := Lib.hid hsh
          obtain ⟨T, hT⟩ : ∃ T : ByteArray, (⟨(showD K n zs).toArray⟩ : ByteArray) = T := ⟨_, rfl⟩
          have hne : (T.toList == s.toList) = false := tolist_ne (by rw [← hT, bl_mk]; exact hsh)
          have hne2 : (T.toList != s.toList) = true := by rw [bne, hne]; rfl
          rw [hT]
          clear hsh hT
          obtain ⟨r0, r1, r2⟩ := R.c3
          have fr0 := R.frozen 0
          have fr1 := R.frozen 1
          have fr2 := R.frozen 2
          go_wp2
          refine bodyPost_ret (v := .tuple #[.agg #[.int .i64 0, .string ⟨#[]⟩, .slice none 0 0], .bool false]) (by simp [results, Tryd.f29, go_sem, *]) rfl ?_
          rw [HP.out, endD_other HSH.out]
          exact deedAns_zero rfl (set3_bel bc (Nat.le_refl _) _ _ _)
theorem implReadDeed_any (s : ByteArray) (w : World) (hs : s.size ≤ 1073741824) (hL : LaidAll w) (hWd : WordsAt w) :
    Calls Tryd.prog 29 #[.string s] w (DeedAns (specReadD (bl s)) w) := by
  have hl : (bl s).length ≤ 1073741824 := by rw [bl_length]; exact hs
  have c1 := cut_le (bl s)
  have c2 := cut_le (cutR (bl s))
  exact readDeed_core s (mkB (cutA (bl s))) (mkB (cutR (bl s))) (mkB (cutA (cutR (bl s)))) (mkB (cutR (cutR (bl s)))) (cutM (bl s)) (cutM (cutR (bl s))) (kindL (cutA (bl s))) (specRead (cutR (cutR (bl s)))).1 (specRead (cutR (cutR (bl s)))).2 _ w
    (readD_same (bl s)).symm (by rw [mkB_size]; omega) (specRead_len _) hL hWd
    (fun W h => cutS_any s _ rfl W hs h) (fun W h => cutS_any _ _ (bl_mkB _) W (by rw [mkB_size]; omega) h) (fun W h => by have := kindOf_any (mkB (cutA (bl s))) W h; rw [bl_mkB] at this; exact this)
    (fun W h => by have := implReadRow_any (mkB (cutR (cutR (bl s)))) W (by rw [mkB_size]; omega) h; rw [bl_mkB] at this; exact this)
end Go.Proofs.YtkjpaafmolikoabDoor
