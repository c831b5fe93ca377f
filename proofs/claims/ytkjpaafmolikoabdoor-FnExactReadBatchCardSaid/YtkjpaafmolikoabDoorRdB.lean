/- The model's way of reading a deed: l1At over the words; ReadDeed; nothing that lay has turned. For texts of at most 2^20 bytes. -/
import Derived.Test.YtkjpaafmolikoabDoorRdA
import Derived.Deep.RegionHeld3
namespace Go.Proofs.YtkjpaafmolikoabDoor
open Go.RowKit

set_option maxRecDepth 100000 in
set_option maxHeartbeats 2000000 in
theorem l1At_words (bk : Nat) (s : ByteArray) (w : World) (hB : Blk w bk 9 #[.string ⟨#[112, 117, 116]⟩, .string ⟨#[99, 117, 116]⟩, .string ⟨#[115, 101, 116]⟩, .string ⟨#[109, 117, 115, 116]⟩, .string ⟨#[109, 97, 107, 101]⟩, .string ⟨#[100, 114, 111, 112]⟩]) :
    Calls Tryd.prog 63 #[.slice (some ⟨bk, 0, none⟩) 6 6, .string s] w fun e w' => e = .returned (.int .i64 (kindL (bl s) - 1)) ∧ w = w' := by
  go_enter Tryd.func63, Tryd.ntmps63
  go_wp2
  go_loop [5] (fun i => ∃ k : Nat, k ≤ 6 ∧ i = .int .i64 k ∧ ∀ j, j < k → bl (sx wordsB (j + 1)) ≠ bl s) (fun i => 6 - (intOf i).toNat)
  case atStart => exact ⟨0, Nat.zero_le _, rfl, fun j hj => absurd hj (by omega)⟩
  case round =>
    obtain ⟨k, hk, rfl, ht⟩ := hrel
    have HT := Lib.hid ht
    clear ht
    by_cases hlt : k < 6
    · obtain rfl | rfl | rfl | rfl | rfl | rfl : k = 0 ∨ k = 1 ∨ k = 2 ∨ k = 3 ∨ k = 4 ∨ k = 5 := by omega
      · have hck : w.cell? ⟨bk, 0, none⟩ = some (.string ⟨#[112, 117, 116]⟩) := hB.cell 0
        go_wp2
        · go_ret
          rename_i hh hwt
          have HK := kind_at (k := 1) (l := bl s) (by omega) (by rw [← toList_bl s]; exact eq_of_beq hh)
          exact ⟨by rw [HK]; rfl, rfl⟩
        · rename_i hh
          refine ⟨⟨0 + 1, by omega, rfl, fun j hj => ?_⟩, by simp [intOf]⟩
          by_cases e : j = 0
          · subst e
            intro he
            exact absurd (by rw [← toList_bl s] at he; rw [← he] at hh; exact absurd hh (by decide) : False) id
          · exact HT.out j (by omega)
      · have hck : w.cell? ⟨bk, 1, none⟩ = some (.string ⟨#[99, 117, 116]⟩) := hB.cell 1
        go_wp2
        · go_ret
          rename_i hh hwt
          have HK := kind_at (k := 2) (l := bl s) (by omega) (by rw [← toList_bl s]; exact eq_of_beq hh)
          exact ⟨by rw [HK]; rfl, rfl⟩
        · rename_i hh
          refine ⟨⟨1 + 1, by omega, rfl, fun j hj => ?_⟩, by simp [intOf]⟩
          by_cases e : j = 1
          · subst e
            intro he
            exact absurd (by rw [← toList_bl s] at he; rw [← he] at hh; exact absurd hh (by decide) : False) id
          · exact HT.out j (by omega)
      · have hck : w.cell? ⟨bk, 2, none⟩ = some (.string ⟨#[115, 101, 116]⟩) := hB.cell 2
        go_wp2
        · go_ret
          rename_i hh hwt
          have HK := kind_at (k := 3) (l := bl s) (by omega) (by rw [← toList_bl s]; exact eq_of_beq hh)
          exact ⟨by rw [HK]; rfl, rfl⟩
        · rename_i hh
          refine ⟨⟨2 + 1, by omega, rfl, fun j hj => ?_⟩, by simp [intOf]⟩
          by_cases e : j = 2
          · subst e
            intro he
            exact absurd (by rw [← toList_bl s] at he; rw [← he] at hh; exact absurd hh (by decide) : False) id
          · exact HT.out j (by omega)
      · have hck : w.cell? ⟨bk, 3, none⟩ = some (.string ⟨#[109, 117, 115, 116]⟩) := hB.cell 3
        go_wp2
        · go_ret
          rename_i hh hwt
          have HK := kind_at (k := 4) (l := bl s) (by omega) (by rw [← toList_bl s]; exact eq_of_beq hh)
          exact ⟨by rw [HK]; rfl, rfl⟩
        · rename_i hh
          refine ⟨⟨3 + 1, by omega, rfl, fun j hj => ?_⟩, by simp [intOf]⟩
          by_cases e : j = 3
          · subst e
            intro he
            exact absurd (by rw [← toList_bl s] at he; rw [← he] at hh; exact absurd hh (by decide) : False) id
          · exact HT.out j (by omega)
      · have hck : w.cell? ⟨bk, 4, none⟩ = some (.string ⟨#[109, 97, 107, 101]⟩) := hB.cell 4
        go_wp2
        · go_ret
          rename_i hh hwt
          have HK := kind_at (k := 5) (l := bl s) (by omega) (by rw [← toList_bl s]; exact eq_of_beq hh)
          exact ⟨by rw [HK]; rfl, rfl⟩
        · rename_i hh
          refine ⟨⟨4 + 1, by omega, rfl, fun j hj => ?_⟩, by simp [intOf]⟩
          by_cases e : j = 4
          · subst e
            intro he
            exact absurd (by rw [← toList_bl s] at he; rw [← he] at hh; exact absurd hh (by decide) : False) id
          · exact HT.out j (by omega)
      · have hck : w.cell? ⟨bk, 5, none⟩ = some (.string ⟨#[100, 114, 111, 112]⟩) := hB.cell 5
        go_wp2
        · go_ret
          rename_i hh hwt
          have HK := kind_at (k := 6) (l := bl s) (by omega) (by rw [← toList_bl s]; exact eq_of_beq hh)
          exact ⟨by rw [HK]; rfl, rfl⟩
        · rename_i hh
          refine ⟨⟨5 + 1, by omega, rfl, fun j hj => ?_⟩, by simp [intOf]⟩
          by_cases e : j = 5
          · subst e
            intro he
            exact absurd (by rw [← toList_bl s] at he; rw [← he] at hh; exact absurd hh (by decide) : False) id
          · exact HT.out j (by omega)
    · obtain rfl : k = 6 := by omega
      have HS := Lib.hid (show kindL (bl s) = 0 by
        unfold kindL
        rw [if_neg (fun e => HT.out 0 (by omega) e.symm), if_neg (fun e => HT.out 1 (by omega) e.symm), if_neg (fun e => HT.out 2 (by omega) e.symm), if_neg (fun e => HT.out 3 (by omega) e.symm), if_neg (fun e => HT.out 4 (by omega) e.symm), if_neg (fun e => HT.out 5 (by omega) e.symm)])
      go_wp2
      go_ret
      exact ⟨by rw [HS.out]; rfl, rfl⟩
theorem cat_tail_le (by_ : List UInt8) : ∀ ws : List (List UInt8), (cat by_ ws.tail).length ≤ (cat by_ ws).length
  | [] => Nat.le_refl _
  | [w] => by simp [cat]
  | w :: v :: r => by rw [cat_cons _ _ _ (by simp)]; simp; omega
theorem cat_drop2_le (by_ : List UInt8) (ws : List (List UInt8)) : (cat by_ (ws.drop 2)).length ≤ (cat by_ ws).length := by
  have e : ws.drop 2 = ws.tail.tail := by cases ws with | nil => rfl | cons a t => cases t <;> rfl
  rw [e]
  exact Nat.le_trans (cat_tail_le by_ _) (cat_tail_le by_ ws)
theorem finD_no {k : Int} {n : ByteArray} {zs : List Int} (h : deedB k n zs = false) : finD k n zs = zeroD := by unfold finD; rw [if_neg (by rw [h]; simp)]
theorem finD_yes {k : Int} {n : ByteArray} {zs : List Int} (h : deedB k n zs = true) : finD k n zs = ⟨k, n, zs, true⟩ := by unfold finD; rw [if_pos h]
theorem word_get (ts : List ByteArray) (k : Nat) (h : k < ts.length) : (ts.map bl)[k]?.getD [] = bl (sx ts k) := by rw [sx_eq ts k h]; simp [h]
theorem specReadD_len (s : List UInt8) : (specReadD s).z.length ≤ 6 := by
  have hf : ∀ k n zs, zs.length ≤ 6 → (finD k n zs).z.length ≤ 6 := fun k n zs h => by
    unfold finD
    split
    · exact h
    · simp [zeroD]
  unfold specReadD
  repeat' split
  · simp [zeroD]
  · exact hf _ _ _ (by simp)
  · simp [zeroD]
  · exact hf _ _ _ (specRead_len _)
/-- A slice of texts of two or more: where it lies. -/
theorem strs_two {w : World} {base : Nat} {v : Value} {ts : List ByteArray} (h : w.ownsRow base 9 1 v ts.length (strl ts)) (h2 : 2 ≤ ts.length) : ∃ g cap, v = .slice (some ⟨g, 0, none⟩) ts.length cap ∧ ts.length ≤ cap ∧ g < w.heap.size ∧ ∀ j, j < ts.length → w.cell? ⟨g, j, none⟩ = some (.string (sx ts j)) := by
  rcases h.2 with ⟨rfl, h0⟩ | ⟨g, cap, cur, rfl, hg, hh, hnc, _, hs, ht⟩
  · omega
  · refine ⟨g, cap, rfl, hnc, Blk.lt (t := 9) (cs := cur) hh, fun j hj => ?_⟩
    obtain ⟨A', cap', e, hS⟩ := strs_of_own h
    obtain ⟨b, off, e', _, hc⟩ := hS (by omega)
    cases e
    cases e'
    have := hc j hj
    rwa [Nat.zero_add] at this
set_option maxRecDepth 100000 in
set_option maxHeartbeats 8000000 in
theorem specReadDeed_any (s : ByteArray) (w : World) (hs : s.size ≤ 1048576) :
    Calls Tryd.prog 28 #[.string s] w (DeedAns (specReadD (bl s)) w) := by
  obtain ⟨P, hP⟩ : ∃ P, specReadD (bl s) = P := ⟨_, rfl⟩
  have HP := Lib.hid hP
  rw [hP]
  clear hP
  have bc := (Below.refl w.heap.size w).alloc (Nat.le_refl _) (.cells #[.int .i64 0, .string ⟨#[]⟩, .slice none 0 0] 39)
  have R := Blk.new w 39 #[.int .i64 0, .string ⟨#[]⟩, .slice none 0 0]
  go_enter Tryd.func28, Tryd.ntmps28
  go_wp2_with fail
  generalize w.alloc (.cells #[.int .i64 0, .string ⟨#[]⟩, .slice none 0 0] 39) = w0 at *
  refine (l1Split_any s 32 w0 (by omega)).mono ?_
  rintro e w1 ⟨v1, ts, rfl, hts, hown1, hb1⟩
  replace bc := bel_step bc hb1
  replace R := R.on hb1
  have HTS := Lib.hid hts
  have hlen : ts.length ≤ 1048577 := by
    have h1 := spl_length 32 (bl s)
    have h2 : (bl s).count 32 ≤ (bl s).length := List.count_le_length
    rw [← hts, List.length_map] at h1
    rw [bl_length] at h2
    omega
  have HLN := Lib.hid (show (spl 32 (bl s)).length = ts.length by rw [← hts, List.length_map])
  clear hb1 hts
  by_cases hN : ts.length < 2
  · obtain ⟨A1, cap1, rfl⟩ := own_form hown1
    have hNi : (ts.length : Int) < 2 := by omega
    have HZ := Lib.hid (show P = zeroD by rw [← HP.out]; unfold specReadD; rw [if_pos (by rw [HLN.out]; exact hN)])
    clear hown1 hN
    obtain ⟨r0, r1, r2⟩ := R.c3
    have fr0 := R.frozen 0
    have fr1 := R.frozen 1
    have fr2 := R.frozen 2
    go_wp2
    refine bodyPost_ret (v := .tuple #[.agg #[.int .i64 0, .string ⟨#[]⟩, .slice none 0 0], .bool false]) (by simp [results, Tryd.f28, go_sem, *]) rfl ?_
    rw [HZ.out]
    exact deedAns_zero rfl (set3_bel bc (Nat.le_refl _) _ _ _)
  obtain ⟨g, cap, rfl, hcap, hgl, hcells⟩ := strs_two hown1 (by omega)
  have hNi : decide ((ts.length : Int) < 2) = false := by simp; omega
  have hN2 : 2 ≤ ts.length := by omega
  obtain ⟨t0, ht0⟩ : ∃ t0, sx ts 0 = t0 := ⟨_, rfl⟩
  obtain ⟨t1, ht1⟩ : ∃ t1, sx ts 1 = t1 := ⟨_, rfl⟩
  have x0 := hcells 0 (by omega)
  have x1 := hcells 1 (by omega)
  rw [ht0] at x0
  rw [ht1] at x1
  obtain ⟨K, hK⟩ : ∃ K, kindL (bl t0) = K := ⟨_, rfl⟩
  have hwK : IntKind.i64.wrap K = K := by
    have : 0 ≤ K ∧ K ≤ 6 := by rw [← hK]; unfold kindL; repeat' split <;> omega
    rw [IntKind.wrap_i64]; omega
  have HC3 := Lib.hid (show ∀ W bk, Blk W bk 9 #[.string ⟨#[112, 117, 116]⟩, .string ⟨#[99, 117, 116]⟩, .string ⟨#[115, 101, 116]⟩, .string ⟨#[109, 117, 115, 116]⟩, .string ⟨#[109, 97, 107, 101]⟩, .string ⟨#[100, 114, 111, 112]⟩] → Calls Tryd.prog 63 #[.slice (some ⟨bk, 0, none⟩) 6 6, .string t0] W fun e w' => e = .returned (.int .i64 (K - 1)) ∧ W = w' from fun W bk h => by rw [← hK]; exact l1At_words bk t0 W h)
  have HX := Lib.hid (And.intro x0 x1)
  have HCE := Lib.hid hcells
  have hi0 : 0 < ts.length := by omega
  have hi1 : (1 : Int) < (ts.length : Int) := by omega
  have m0 := World.new_ne w1 _ x0
  have m1 := World.new_ne w1 _ x1
  clear hcells hown1 hN
  go_wp2_with fail
  go_region_held3 (fun w' => w'.cell? ⟨g, 0, none⟩ = some (.string t0) ∧ w'.cell? ⟨g, 1, none⟩ = some (.string t1))
    (first | go_keep | exact ⟨k0, k1⟩)
    (first
      | (go_at_call 64; refine (l5Words_any _).mono ?_; rintro e w2 ⟨rfl, hB2, hb2⟩; (first | (have hx : Below w1.heap.size w1 w2 := (bel_drewN ((Below.refl w1.heap.size w1).alloc (Nat.le_refl _) (.cells #[.int .i64 0, .string ⟨#[]⟩, .slice none 0 0] 39)) 1).trans (hb2.mono (by simp)); have B3 : Blk w2 w1.heap.size 39 #[.int .i64 0, .string ⟨#[]⟩, .slice none 0 0] := ((Blk.new w1 39 #[.int .i64 0, .string ⟨#[]⟩, .slice none 0 0]).drewN 1).below hb2 (by simp); obtain ⟨z0, z1, z2⟩ := B3.c3; have fz0 := B3.frozen 0; have fz1 := B3.frozen 1; have fz2 := B3.frozen 2; have hq2 : Blk w2 (w1.alloc (.cells #[.int .i64 0, .string ⟨#[]⟩, .slice none 0 0] 39)).heap.size 9 #[.string ⟨#[112, 117, 116]⟩, .string ⟨#[99, 117, 116]⟩, .string ⟨#[115, 101, 116]⟩, .string ⟨#[109, 117, 115, 116]⟩, .string ⟨#[109, 97, 107, 101]⟩, .string ⟨#[100, 114, 111, 112]⟩] := hB2; rw [World.size_alloc] at hq2) | (have hx : Below w1.heap.size w1 w2 := (bel_drewN (Below.refl _ _) 1).trans hb2)); have k0 : w2.cell? ⟨g, 0, none⟩ = some (.string t0) := (hx.cell hgl).trans HX.out.1; have k1 : w2.cell? ⟨g, 1, none⟩ = some (.string t1) := (hx.cell hgl).trans HX.out.2; have n0 := World.new_ne w2 _ k0; have n1 := World.new_ne w2 _ k1)
      | (go_at_call 63; refine (HC3.out _ _ (by first | exact hq2 | exact hB2 | exact hB2.alloc _)).mono ?_; rintro e w3 ⟨rfl, hw3⟩; cases hw3))
  all_goals
    have hgw := R.lt
    first
    | (have hbF : Below w1.heap.size w1 (((w2.setCell ⟨w1.heap.size, 0, none⟩ (.int .i64 K)).setCell ⟨w1.heap.size, 1, none⟩ (.string t1)).setCell ⟨w1.heap.size, 2, none⟩ (.slice none 0 0)) := set3_bel hx (Nat.le_refl _) _ _ _
       have D : Blk (((w2.setCell ⟨w1.heap.size, 0, none⟩ (.int .i64 K)).setCell ⟨w1.heap.size, 1, none⟩ (.string t1)).setCell ⟨w1.heap.size, 2, none⟩ (.slice none 0 0)) w1.heap.size 39 #[.int .i64 K, .string t1, .slice none 0 0] := ((B3.set_ 0 (.int .i64 K)).set_ 1 (.string t1)).set_ 2 (.slice none 0 0)
       have hgd := hgw
       clear B3 z0 z1 z2 fz0 fz1 fz2 hq2
       generalize (((w2.setCell ⟨w1.heap.size, 0, none⟩ (.int .i64 K)).setCell ⟨w1.heap.size, 1, none⟩ (.string t1)).setCell ⟨w1.heap.size, 2, none⟩ (.slice none 0 0)) = wD at *
       have hgl2 : w1.heap.size < wD.heap.size := D.lt
       generalize w1.heap.size = gd at D hgd hgl2 ⊢)
    | (have hbF : Below w1.heap.size w1 (w2.alloc (.cells #[.int .i64 K, .string t1, .slice none 0 0] 39)) := hx.alloc hx.size _
       have D := Blk.new w2 39 #[.int .i64 K, .string t1, .slice none 0 0]
       have hgd : w.heap.size < w2.heap.size := Nat.lt_of_lt_of_le hgw hx.size
       clear hx hb2 hB2
       generalize w2.alloc (.cells #[.int .i64 K, .string t1, .slice none 0 0] 39) = wD at *
       have hgl2 : w2.heap.size < wD.heap.size := D.lt
       generalize w2.heap.size = gd at D hgd hgl2 ⊢)
    replace bc := bel_step bc hbF
    replace R := R.on hbF
    have HCD := Lib.hid (show ∀ j, j < ts.length → wD.cell? ⟨g, j, none⟩ = some (.string (sx ts j)) from fun j hj => (hbF.cell hgl).trans (HCE.out j hj))
    have hgD : g < wD.heap.size := Nat.lt_of_lt_of_le hgl hbF.size
    have ht1s : t1.size ≤ 1048576 := by have := word_le HTS.out (k := 1) (by omega); rw [ht1] at this; omega
    clear hbF HCE HX x0 x1 m0 m1 k0 k1 n0 n1 hgl hgw HC3
    by_cases h3 : 2 < ts.length
    · have h3i : decide ((2 : Int) < (ts.length : Int)) = true := by simp; omega
      have hi2 : (2 : Int) ≤ (ts.length : Int) := by omega
      have hc2 : ¬ cap = 2 := by omega
      have hcI : (ts.length : Int) ≤ (cap : Int) := by omega
      obtain ⟨b, hbb⟩ : ∃ b : ByteArray, (⟨(catT ⟨#[32]⟩ (ts.drop 2)).toArray⟩ : ByteArray) = b := ⟨_, rfl⟩
      have hblb : bl b = cat [32] ((spl 32 (bl s)).drop 2) := by
        rw [← hbb, bl_mk, ← HTS.out, ← List.map_drop]
        rfl
      have hble : (bl b).length ≤ 1048576 := by
        have h1 := cat_drop2_le [32] (spl 32 (bl s))
        rw [cat_spl, bl_length] at h1
        rw [hblb]; omega
      have HCW := Lib.hid (show Calls Tryd.prog 65 #[.slice (some ⟨g, 2, none⟩) (ts.length - 2) (cap - 2), .string ⟨#[32]⟩] wD fun e w' => e = .returned (.string b) ∧ wD = w' by
        have := l1Words_any (some ⟨g, 2, none⟩) (cap - 2) (ts.drop 2) ⟨#[32]⟩ wD wD.heap.size (fun hn => ⟨g, 2, rfl, hgD, fun j hj => by
          have hj2 : 2 + j < ts.length := by rw [List.length_drop] at hj; omega
          have e : sx (ts.drop 2) j = sx ts (2 + j) := by unfold sx; rw [List.getElem?_drop]
          rw [e]; exact HCD.out (2 + j) hj2⟩) (by rw [List.length_drop]; omega) (by decide) (by have := hble; rw [← hbb, bl_mk] at this; omega)
        rw [List.length_drop, hbb] at this
        exact this)
      obtain ⟨zs, ok, hzo⟩ : ∃ zs ok, specRead (bl b) = (zs, ok) := ⟨_, _, rfl⟩
      have hz6 : zs.length ≤ 6 := by have := specRead_len (bl b); rw [hzo] at this; exact this
      have HCR := Lib.hid (show Calls Tryd.prog 15 #[.string b] wD (RowAns (zs, ok) wD) by
        have := specReadRow_any b wD (by rw [← bl_length]; omega)
        rw [hzo] at this
        exact this)
      have HG := Lib.hid (show P = if ok = false ∨ zs = [] then zeroD else finD K t1 zs by
        rw [← HP.out]
        unfold specReadD
        rw [if_neg (by rw [HLN.out]; omega), if_neg (by rw [HLN.out]; omega), ← hblb, hzo, ← HTS.out, word_get ts 0 (by omega), word_get ts 1 (by omega), ht0, ht1, hK]
        rfl)
      clear hbb hblb hble hzo HP HCD h3
      go_wp2_with fail
      refine HCW.out.mono ?_
      rintro e wD' ⟨rfl, hwd⟩
      cases hwd
      go_wp2_with fail
      refine HCR.out.mono ?_
      rintro e w3 ⟨v3, rfl, hown, hb3⟩
      obtain ⟨A3, c3, g3, hv3, hg3, hR3⟩ := Row.of_own (zs := zs) hown
      subst hv3
      replace bc := bel_step bc hb3
      replace R := R.on hb3
      replace D := D.on hb3
      clear hb3 hown HCW HCR
      cases ok with
      | false =>
        have HF := Lib.hid (show P = zeroD by rw [HG.out]; simp)
        clear HG
        obtain ⟨r0, r1, r2⟩ := R.c3
        have fr0 := R.frozen 0
        have fr1 := R.frozen 1
        have fr2 := R.frozen 2
        go_wp2
        refine bodyPost_ret (v := .tuple #[.agg #[.int .i64 0, .string ⟨#[]⟩, .slice none 0 0], .bool false]) (by simp [results, Tryd.f28, go_sem, *]) rfl ?_
        rw [HF.out]
        exact deedAns_zero rfl (set3_bel bc (Nat.le_refl _) _ _ _)
      | true =>
        by_cases hz0 : zs = []
        · subst hz0
          have HF := Lib.hid (show P = zeroD by rw [HG.out]; simp)
          clear HG
          obtain ⟨r0, r1, r2⟩ := R.c3
          have fr0 := R.frozen 0
          have fr1 := R.frozen 1
          have fr2 := R.frozen 2
          go_wp2
          refine bodyPost_ret (v := .tuple #[.agg #[.int .i64 0, .string ⟨#[]⟩, .slice none 0 0], .bool false]) (by simp [results, Tryd.f28, go_sem, *]) rfl ?_
          rw [HF.out]
          exact deedAns_zero rfl (set3_bel bc (Nat.le_refl _) _ _ _)
        · have hzb : ((zs.length : Int) == 0) = false := by
            have : zs.length ≠ 0 := fun e => hz0 (List.length_eq_zero_iff.1 e)
            rw [beq_eq_false_iff_ne]; omega
          have HF := Lib.hid (show P = finD K t1 zs by rw [HG.out]; simp [hz0])
          have fd2 := D.frozen 2
          obtain ⟨d0, d1, d2⟩ := D.c3
          replace bc := bc.setCell (p := ⟨gd, 2, none⟩) (by show w.heap.size ≤ gd; omega) (.slice A3 zs.length c3)
          replace R := R.far (p := ⟨gd, 2, none⟩) (by show w.heap.size ≠ gd; omega) (.slice A3 zs.length c3)
          replace hR3 := hR3.kept (grown_setCell w3 gd 2 (.slice A3 zs.length c3)) (fun _ e => by have e' : g3 = gd := Option.some.inj e; omega)
          have D' : Blk (w3.setCell ⟨gd, 2, none⟩ (.slice A3 zs.length c3)) gd 39 #[.int .i64 K, .string t1, .slice A3 zs.length c3] := D.set_ 2 (.slice A3 zs.length c3)
          replace D := D'
          clear HG hz0 D'
          cases hd : deedB K t1 zs with
          | false =>
            have HD := Lib.hid hd
            clear hd
            obtain ⟨D0, D1, D2⟩ := D.c3
            go_wp2_with fail
            generalize (w3.setCell ⟨gd, 2, none⟩ (.slice A3 zs.length c3)) = w3x at *
            refine (specDeedOk_any K t1 A3 c3 zs w3x hR3.ints (by omega) (by omega)).mono ?_
            rintro e w4 ⟨rfl, hb4⟩
            rw [HD.out]
            replace bc := bel_step bc hb4
            replace R := R.on hb4
            clear hb4 D0 D1 D2
            obtain ⟨r0, r1, r2⟩ := R.c3
            have fr0 := R.frozen 0
            have fr1 := R.frozen 1
            have fr2 := R.frozen 2
            go_wp2
            refine bodyPost_ret (v := .tuple #[.agg #[.int .i64 0, .string ⟨#[]⟩, .slice none 0 0], .bool false]) (by simp [results, Tryd.f28, go_sem, *]) rfl ?_
            rw [HF.out, finD_no HD.out]
            exact deedAns_zero rfl (set3_bel bc (Nat.le_refl _) _ _ _)
          | true =>
            have HD := Lib.hid hd
            clear hd
            obtain ⟨D0, D1, D2⟩ := D.c3
            go_wp2_with fail
            generalize (w3.setCell ⟨gd, 2, none⟩ (.slice A3 zs.length c3)) = w3x at *
            refine (specDeedOk_any K t1 A3 c3 zs w3x hR3.ints (by omega) (by omega)).mono ?_
            rintro e w4 ⟨rfl, hb4⟩
            rw [HD.out]
            replace bc := bel_step bc hb4
            replace R := R.on hb4
            replace D := D.on hb4
            replace hR3 := hR3.on hb4
            clear hb4 D0 D1 D2
            obtain ⟨D0, D1, D2⟩ := D.c3
            obtain ⟨r0, r1, r2⟩ := R.c3
            have fr0 := R.frozen 0
            have fr1 := R.frozen 1
            have fr2 := R.frozen 2
            go_wp2
            refine bodyPost_ret (v := .tuple #[.agg #[.int .i64 K, .string t1, .slice A3 zs.length c3], .bool true]) (by simp [results, Tryd.f28, go_sem, *]) rfl ?_
            rw [HF.out, finD_yes HD.out]
            exact ⟨_, _, g3, rfl, by omega, set3_row hR3 (fun _ => by omega) _ _ _, set3_bel bc (Nat.le_refl _) _ _ _⟩
    · have h3i : decide ((2 : Int) < (ts.length : Int)) = false := by simp; omega
      have h3n : decide (2 < ts.length) = false := by simp; omega
      have HF := Lib.hid (show P = finD K t1 [] by
        rw [← HP.out]
        unfold specReadD
        rw [if_neg (by rw [HLN.out]; omega), if_pos (by rw [HLN.out]; omega), ← HTS.out, word_get ts 0 (by omega), word_get ts 1 (by omega), ht0, ht1, hK]
        rfl)
      clear h3 HP
      cases hd : deedB K t1 [] with
      | false =>
        have HD := Lib.hid hd
        clear hd
        obtain ⟨D0, D1, D2⟩ := D.c3
        go_wp2_with fail
        refine (specDeedOk_any K t1 none 0 [] wD (Ints.nil _ _ _) (by omega) (by simp)).mono ?_
        rintro e w4 ⟨rfl, hb4⟩
        rw [HD.out]
        replace bc := bel_step bc hb4
        replace R := R.on hb4
        clear hb4 D0 D1 D2
        obtain ⟨r0, r1, r2⟩ := R.c3
        have fr0 := R.frozen 0
        have fr1 := R.frozen 1
        have fr2 := R.frozen 2
        go_wp2
        refine bodyPost_ret (v := .tuple #[.agg #[.int .i64 0, .string ⟨#[]⟩, .slice none 0 0], .bool false]) (by simp [results, Tryd.f28, go_sem, *]) rfl ?_
        rw [HF.out, finD_no HD.out]
        exact deedAns_zero rfl (set3_bel bc (Nat.le_refl _) _ _ _)
      | true =>
        have HD := Lib.hid hd
        clear hd
        obtain ⟨D0, D1, D2⟩ := D.c3
        go_wp2_with fail
        refine (specDeedOk_any K t1 none 0 [] wD (Ints.nil _ _ _) (by omega) (by simp)).mono ?_
        rintro e w4 ⟨rfl, hb4⟩
        rw [HD.out]
        replace bc := bel_step bc hb4
        replace R := R.on hb4
        replace D := D.on hb4
        clear hb4 D0 D1 D2
        obtain ⟨D0, D1, D2⟩ := D.c3
        obtain ⟨r0, r1, r2⟩ := R.c3
        have fr0 := R.frozen 0
        have fr1 := R.frozen 1
        have fr2 := R.frozen 2
        go_wp2
        refine bodyPost_ret (v := .tuple #[.agg #[.int .i64 K, .string t1, .slice none 0 0], .bool true]) (by simp [results, Tryd.f28, go_sem, *]) rfl ?_
        rw [HF.out, finD_yes HD.out]
        exact ⟨_, _, w.heap.size, rfl, Nat.le_refl _, fun h => absurd h (by simp), set3_bel bc (Nat.le_refl _) _ _ _⟩
end Go.Proofs.YtkjpaafmolikoabDoor
