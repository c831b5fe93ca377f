/- The model's ShowDeed: the text of a right deed, else the empty one; nothing that lay has turned. -/
import Derived.Test.YtkjpaafmolikoabDoorWord1
import Derived.Test.YtkjpaafmolikoabDoorDeed2
import Derived.Deep.RegionLaw
namespace Go.Proofs.YtkjpaafmolikoabDoor
open Go.RowKit

theorem l5Words_any (w : World) :
    Calls Tryd.prog 64 #[] w fun e w' => e = .returned (.slice (some ⟨w.heap.size, 0, none⟩) 6 6) ∧ Blk w' w.heap.size 9 #[.string ⟨#[112, 117, 116]⟩, .string ⟨#[99, 117, 116]⟩, .string ⟨#[115, 101, 116]⟩, .string ⟨#[109, 117, 115, 116]⟩, .string ⟨#[109, 97, 107, 101]⟩, .string ⟨#[100, 114, 111, 112]⟩] ∧ Below w.heap.size w w' := by
  go_enter Tryd.func64, Tryd.ntmps64
  go_wp2
  go_ret
  exact ⟨rfl, Blk.new w _ _, (Below.refl _ _).alloc (Nat.le_refl _) _⟩
theorem text_name {k : Nat} (hk : k < 7) (s : ByteArray) : (sx wordsB k ++ (⟨#[32]⟩ : ByteArray)) ++ s = ⟨(wordL k ++ 32 :: bl s).toArray⟩ := by
  refine bl_eta _ _ ?_
  rw [bl_append, bl_append, wordsB_at hk]
  simp [bl]
theorem text_row {k : Nat} (hk : k < 7) (s n : ByteArray) : ((sx wordsB k ++ (⟨#[32]⟩ : ByteArray)) ++ s ++ (⟨#[32]⟩ : ByteArray)) ++ n = ⟨(wordL k ++ 32 :: (bl s ++ 32 :: bl n)).toArray⟩ := by
  refine bl_eta _ _ ?_
  rw [bl_append, bl_append, bl_append, bl_append, wordsB_at hk]
  simp [bl]
theorem name_size {s : ByteArray} (h : nameB s = true) : s.size ≤ 6 := by
  unfold nameB inB at h
  rw [Bool.and_eq_true, Bool.and_eq_true] at h
  have := of_decide_eq_true h.2.2
  omega
set_option maxRecDepth 100000 in
set_option maxHeartbeats 4000000 in
theorem l5Show_any (k : Int) (s : ByteArray) (A : Option Addr) (c : Nat) (zs : List Int) (w : World) (hI : Ints w w.heap.size A zs) (hd : deedB k s zs = true) :
    Calls Tryd.prog 57 #[.agg #[.int .i64 k, .string s, .slice A zs.length c]] w fun e w' => e = .returned (.string ⟨(deedL k (bl s) zs).toArray⟩) ∧ Below w.heap.size w w' := by
  obtain ⟨hn, hr, hk⟩ := deedB_all hd
  obtain ⟨k1, k6, kz⟩ := kindB_kind hk
  have hs6 := name_size hn
  obtain ⟨hall, hz6⟩ := rowOkB_all hr
  have hlen := (numbersL_len zs hall).1
  have HALL := Lib.hid hall
  have hI1 := hI.on ((Below.refl w.heap.size w).alloc (Nat.le_refl _) (.cells #[.int .i64 k, .string s, .slice A zs.length c] 39))
  have bc := (Below.refl w.heap.size w).alloc (Nat.le_refl _) (.cells #[.int .i64 k, .string s, .slice A zs.length c] 39)
  have BD := Blk.new w 39 #[.int .i64 k, .string s, .slice A zs.length c]
  obtain ⟨D0, D1, D2⟩ := BD.c3
  obtain ⟨Nb, hNb⟩ : ∃ Nb : ByteArray, (⟨(numbersL zs).toArray⟩ : ByteArray) = Nb := ⟨_, rfl⟩
  have hns : Nb.size ≤ 1000 := by rw [← hNb, ← bl_length, bl_mk]; omega
  have HN := Lib.hid hNb
  have HS := Lib.hid (show (numbersL zs).length ≤ 1000 by omega)
  have HZ := Lib.hid kz
  have HBN := Lib.hid (show bl Nb = numbersL zs by rw [← hNb, bl_mk])
  have q4 : ¬ 9223372036854775807 < 4 + s.size := by omega
  have q5 : ¬ 9223372036854775807 < 5 + s.size := by omega
  clear hn hr hk hall hNb hlen hd kz hI
  obtain rfl | rfl | rfl | rfl | rfl | rfl : k = 1 ∨ k = 2 ∨ k = 3 ∨ k = 4 ∨ k = 5 ∨ k = 6 := by omega
  · have HZ0 := Lib.hid (show (zs = []) = False from eq_false (fun e => by have := HZ.out.1 (by rw [e]; rfl); omega))
    clear HZ
    have hwk : IntKind.i64.wrap 0 = 0 := by decide
    go_enter Tryd.func57, Tryd.ntmps57
    go_wp2_with fail
    generalize w.alloc (.cells #[.int .i64 1, .string s, .slice A zs.length c] 39) = wb at *
    go_region_law (first | (go_simp; refine (l5Words_any _).mono ?_; rintro e w1 ⟨rfl, hB1, hb1⟩; have qc : w1.cell? ⟨wb.heap.size, 0, none⟩ = some (.string ⟨#[112, 117, 116]⟩) := hB1.cell 0; have BD1 := (BD.drewN 1).on hb1; have hI2 := (hI1.drewN 1).on hb1; have hW1 : Below w.heap.size w w1 := bel_step bc ((bel_drewN (Below.refl _ _) 1).trans hb1); obtain ⟨d0, d1, d2⟩ := BD1.c3))
    all_goals
      clear hb1 hB1 qc BD BD1 D0 D1 D2 q4 q5
      have hts : (((⟨#[112, 117, 116]⟩ : ByteArray) ++ (⟨#[32]⟩ : ByteArray)) ++ s).size ≤ 100 := by rw [ByteArray.size_append, ByteArray.size_append]; show 4 + s.size ≤ 100; omega
      generalize hT : ((⟨#[112, 117, 116]⟩ : ByteArray) ++ (⟨#[32]⟩ : ByteArray)) ++ s = T at *
      have HT := Lib.hid hT
      clear hT
      have hts2 : (T ++ (⟨#[32]⟩ : ByteArray)).size ≤ 200 := by rw [ByteArray.size_append]; show T.size + 1 ≤ 200; omega
      go_wp2_with fail
      refine (l1Numbers_any A c zs w1 hI2 (by omega) HALL.out (by have := HS.out; omega)).mono ?_
      rintro e w2 ⟨rfl, hb2⟩
      rw [HN.out]
      have hW2 := bel_step hW1 hb2
      go_wp2
      go_ret
      refine ⟨congrArg (fun s => Ending.returned (.string s)) ?_, hW2⟩
      unfold deedL
      rw [if_neg (by rw [HZ0.out]; trivial), ← HT.out, ← HBN.out]
      exact text_row (k := 1) (by omega) s Nb
  · have HZ0 := Lib.hid (show (zs = []) = False from eq_false (fun e => by have := HZ.out.1 (by rw [e]; rfl); omega))
    clear HZ
    have hwk : IntKind.i64.wrap 1 = 1 := by decide
    go_enter Tryd.func57, Tryd.ntmps57
    go_wp2_with fail
    generalize w.alloc (.cells #[.int .i64 2, .string s, .slice A zs.length c] 39) = wb at *
    go_region_law (first | (go_simp; refine (l5Words_any _).mono ?_; rintro e w1 ⟨rfl, hB1, hb1⟩; have qc : w1.cell? ⟨wb.heap.size, 1, none⟩ = some (.string ⟨#[99, 117, 116]⟩) := hB1.cell 1; have BD1 := (BD.drewN 1).on hb1; have hI2 := (hI1.drewN 1).on hb1; have hW1 : Below w.heap.size w w1 := bel_step bc ((bel_drewN (Below.refl _ _) 1).trans hb1); obtain ⟨d0, d1, d2⟩ := BD1.c3))
    all_goals
      clear hb1 hB1 qc BD BD1 D0 D1 D2 q4 q5
      have hts : (((⟨#[99, 117, 116]⟩ : ByteArray) ++ (⟨#[32]⟩ : ByteArray)) ++ s).size ≤ 100 := by rw [ByteArray.size_append, ByteArray.size_append]; show 4 + s.size ≤ 100; omega
      generalize hT : ((⟨#[99, 117, 116]⟩ : ByteArray) ++ (⟨#[32]⟩ : ByteArray)) ++ s = T at *
      have HT := Lib.hid hT
      clear hT
      have hts2 : (T ++ (⟨#[32]⟩ : ByteArray)).size ≤ 200 := by rw [ByteArray.size_append]; show T.size + 1 ≤ 200; omega
      go_wp2_with fail
      refine (l1Numbers_any A c zs w1 hI2 (by omega) HALL.out (by have := HS.out; omega)).mono ?_
      rintro e w2 ⟨rfl, hb2⟩
      rw [HN.out]
      have hW2 := bel_step hW1 hb2
      go_wp2
      go_ret
      refine ⟨congrArg (fun s => Ending.returned (.string s)) ?_, hW2⟩
      unfold deedL
      rw [if_neg (by rw [HZ0.out]; trivial), ← HT.out, ← HBN.out]
      exact text_row (k := 2) (by omega) s Nb
  · have HZ0 := Lib.hid (show (zs = []) = False from eq_false (fun e => by have := HZ.out.1 (by rw [e]; rfl); omega))
    clear HZ
    have hwk : IntKind.i64.wrap 2 = 2 := by decide
    go_enter Tryd.func57, Tryd.ntmps57
    go_wp2_with fail
    generalize w.alloc (.cells #[.int .i64 3, .string s, .slice A zs.length c] 39) = wb at *
    go_region_law (first | (go_simp; refine (l5Words_any _).mono ?_; rintro e w1 ⟨rfl, hB1, hb1⟩; have qc : w1.cell? ⟨wb.heap.size, 2, none⟩ = some (.string ⟨#[115, 101, 116]⟩) := hB1.cell 2; have BD1 := (BD.drewN 1).on hb1; have hI2 := (hI1.drewN 1).on hb1; have hW1 : Below w.heap.size w w1 := bel_step bc ((bel_drewN (Below.refl _ _) 1).trans hb1); obtain ⟨d0, d1, d2⟩ := BD1.c3))
    all_goals
      clear hb1 hB1 qc BD BD1 D0 D1 D2 q4 q5
      have hts : (((⟨#[115, 101, 116]⟩ : ByteArray) ++ (⟨#[32]⟩ : ByteArray)) ++ s).size ≤ 100 := by rw [ByteArray.size_append, ByteArray.size_append]; show 4 + s.size ≤ 100; omega
      generalize hT : ((⟨#[115, 101, 116]⟩ : ByteArray) ++ (⟨#[32]⟩ : ByteArray)) ++ s = T at *
      have HT := Lib.hid hT
      clear hT
      have hts2 : (T ++ (⟨#[32]⟩ : ByteArray)).size ≤ 200 := by rw [ByteArray.size_append]; show T.size + 1 ≤ 200; omega
      go_wp2_with fail
      refine (l1Numbers_any A c zs w1 hI2 (by omega) HALL.out (by have := HS.out; omega)).mono ?_
      rintro e w2 ⟨rfl, hb2⟩
      rw [HN.out]
      have hW2 := bel_step hW1 hb2
      go_wp2
      go_ret
      refine ⟨congrArg (fun s => Ending.returned (.string s)) ?_, hW2⟩
      unfold deedL
      rw [if_neg (by rw [HZ0.out]; trivial), ← HT.out, ← HBN.out]
      exact text_row (k := 3) (by omega) s Nb
  · have HZ0 := Lib.hid (show (zs = []) = False from eq_false (fun e => by have := HZ.out.1 (by rw [e]; rfl); omega))
    clear HZ
    have hwk : IntKind.i64.wrap 3 = 3 := by decide
    go_enter Tryd.func57, Tryd.ntmps57
    go_wp2_with fail
    generalize w.alloc (.cells #[.int .i64 4, .string s, .slice A zs.length c] 39) = wb at *
    go_region_law (first | (go_simp; refine (l5Words_any _).mono ?_; rintro e w1 ⟨rfl, hB1, hb1⟩; have qc : w1.cell? ⟨wb.heap.size, 3, none⟩ = some (.string ⟨#[109, 117, 115, 116]⟩) := hB1.cell 3; have BD1 := (BD.drewN 1).on hb1; have hI2 := (hI1.drewN 1).on hb1; have hW1 : Below w.heap.size w w1 := bel_step bc ((bel_drewN (Below.refl _ _) 1).trans hb1); obtain ⟨d0, d1, d2⟩ := BD1.c3))
    all_goals
      clear hb1 hB1 qc BD BD1 D0 D1 D2 q4 q5
      have hts : (((⟨#[109, 117, 115, 116]⟩ : ByteArray) ++ (⟨#[32]⟩ : ByteArray)) ++ s).size ≤ 100 := by rw [ByteArray.size_append, ByteArray.size_append]; show 5 + s.size ≤ 100; omega
      generalize hT : ((⟨#[109, 117, 115, 116]⟩ : ByteArray) ++ (⟨#[32]⟩ : ByteArray)) ++ s = T at *
      have HT := Lib.hid hT
      clear hT
      have hts2 : (T ++ (⟨#[32]⟩ : ByteArray)).size ≤ 200 := by rw [ByteArray.size_append]; show T.size + 1 ≤ 200; omega
      go_wp2_with fail
      refine (l1Numbers_any A c zs w1 hI2 (by omega) HALL.out (by have := HS.out; omega)).mono ?_
      rintro e w2 ⟨rfl, hb2⟩
      rw [HN.out]
      have hW2 := bel_step hW1 hb2
      go_wp2
      go_ret
      refine ⟨congrArg (fun s => Ending.returned (.string s)) ?_, hW2⟩
      unfold deedL
      rw [if_neg (by rw [HZ0.out]; trivial), ← HT.out, ← HBN.out]
      exact text_row (k := 4) (by omega) s Nb
  · have HZ0 := Lib.hid (show (zs = []) = False from eq_false (fun e => by have := HZ.out.1 (by rw [e]; rfl); omega))
    clear HZ
    have hwk : IntKind.i64.wrap 4 = 4 := by decide
    go_enter Tryd.func57, Tryd.ntmps57
    go_wp2_with fail
    generalize w.alloc (.cells #[.int .i64 5, .string s, .slice A zs.length c] 39) = wb at *
    go_region_law (first | (go_simp; refine (l5Words_any _).mono ?_; rintro e w1 ⟨rfl, hB1, hb1⟩; have qc : w1.cell? ⟨wb.heap.size, 4, none⟩ = some (.string ⟨#[109, 97, 107, 101]⟩) := hB1.cell 4; have BD1 := (BD.drewN 1).on hb1; have hI2 := (hI1.drewN 1).on hb1; have hW1 : Below w.heap.size w w1 := bel_step bc ((bel_drewN (Below.refl _ _) 1).trans hb1); obtain ⟨d0, d1, d2⟩ := BD1.c3))
    all_goals
      clear hb1 hB1 qc BD BD1 D0 D1 D2 q4 q5
      have hts : (((⟨#[109, 97, 107, 101]⟩ : ByteArray) ++ (⟨#[32]⟩ : ByteArray)) ++ s).size ≤ 100 := by rw [ByteArray.size_append, ByteArray.size_append]; show 5 + s.size ≤ 100; omega
      generalize hT : ((⟨#[109, 97, 107, 101]⟩ : ByteArray) ++ (⟨#[32]⟩ : ByteArray)) ++ s = T at *
      have HT := Lib.hid hT
      clear hT
      have hts2 : (T ++ (⟨#[32]⟩ : ByteArray)).size ≤ 200 := by rw [ByteArray.size_append]; show T.size + 1 ≤ 200; omega
      go_wp2_with fail
      refine (l1Numbers_any A c zs w1 hI2 (by omega) HALL.out (by have := HS.out; omega)).mono ?_
      rintro e w2 ⟨rfl, hb2⟩
      rw [HN.out]
      have hW2 := bel_step hW1 hb2
      go_wp2
      go_ret
      refine ⟨congrArg (fun s => Ending.returned (.string s)) ?_, hW2⟩
      unfold deedL
      rw [if_neg (by rw [HZ0.out]; trivial), ← HT.out, ← HBN.out]
      exact text_row (k := 5) (by omega) s Nb
  · have HZ0 := Lib.hid (show (zs = []) = True from eq_true (List.length_eq_zero_iff.1 (HZ.out.2 rfl)))
    clear HZ
    have hwk : IntKind.i64.wrap 5 = 5 := by decide
    go_enter Tryd.func57, Tryd.ntmps57
    go_wp2_with fail
    generalize w.alloc (.cells #[.int .i64 6, .string s, .slice A zs.length c] 39) = wb at *
    go_region_law (first | (go_simp; refine (l5Words_any _).mono ?_; rintro e w1 ⟨rfl, hB1, hb1⟩; have qc : w1.cell? ⟨wb.heap.size, 5, none⟩ = some (.string ⟨#[100, 114, 111, 112]⟩) := hB1.cell 5; have BD1 := (BD.drewN 1).on hb1; have hI2 := (hI1.drewN 1).on hb1; have hW1 : Below w.heap.size w w1 := bel_step bc ((bel_drewN (Below.refl _ _) 1).trans hb1); obtain ⟨d0, d1, d2⟩ := BD1.c3))
    all_goals
      clear hb1 hB1 qc BD BD1 D0 D1 D2 q4 q5
      have hts : (((⟨#[100, 114, 111, 112]⟩ : ByteArray) ++ (⟨#[32]⟩ : ByteArray)) ++ s).size ≤ 100 := by rw [ByteArray.size_append, ByteArray.size_append]; show 5 + s.size ≤ 100; omega
      generalize hT : ((⟨#[100, 114, 111, 112]⟩ : ByteArray) ++ (⟨#[32]⟩ : ByteArray)) ++ s = T at *
      have HT := Lib.hid hT
      clear hT
      go_wp2
      go_ret
      refine ⟨congrArg (fun s => Ending.returned (.string s)) ?_, hW1⟩
      unfold deedL
      rw [if_pos (by rw [HZ0.out]; trivial), List.append_nil, ← HT.out]
      exact text_name (k := 6) (by omega) s
set_option maxRecDepth 100000 in
set_option maxHeartbeats 2000000 in
theorem specShowDeed_any (k : Int) (s : ByteArray) (A : Option Addr) (c : Nat) (zs : List Int) (w : World) (hI : Ints w w.heap.size A zs) (hs : s.size ≤ 1099511627776) (hl : zs.length ≤ 1099511627776) :
    Calls Tryd.prog 24 #[.agg #[.int .i64 k, .string s, .slice A zs.length c]] w fun e w' => e = .returned (.string ⟨(showD k s zs).toArray⟩) ∧ Below w.heap.size w w' := by
  have bc := (Below.refl w.heap.size w).alloc (Nat.le_refl _) (.cells #[.int .i64 k, .string s, .slice A zs.length c] 39)
  have hIb := hI.on bc
  have BD := Blk.new w 39 #[.int .i64 k, .string s, .slice A zs.length c]
  obtain ⟨D0, D1, D2⟩ := BD.c3
  cases hd : deedB k s zs with
  | false =>
    have HD := Lib.hid hd
    clear hd
    go_enter Tryd.func24, Tryd.ntmps24
    go_wp2_with fail
    generalize w.alloc (.cells #[.int .i64 k, .string s, .slice A zs.length c] 39) = wb at *
    refine (specDeedOk_any k s A c zs wb hIb hs hl).mono ?_
    rintro e w1 ⟨rfl, hb1⟩
    rw [HD.out]
    have hW := bel_step bc hb1
    go_wp2
    go_ret
    exact ⟨by unfold showD; rw [HD.out]; rfl, hW⟩
  | true =>
    have HD := Lib.hid hd
    clear hd
    go_enter Tryd.func24, Tryd.ntmps24
    go_wp2_with fail
    generalize w.alloc (.cells #[.int .i64 k, .string s, .slice A zs.length c] 39) = wb at *
    refine (specDeedOk_any k s A c zs wb hIb hs hl).mono ?_
    rintro e w1 ⟨rfl, hb1⟩
    rw [HD.out]
    have hW := bel_step bc hb1
    have BD1 := BD.on hb1
    have hI1 := hIb.on hb1
    clear D0 D1 D2
    obtain ⟨D0, D1, D2⟩ := BD1.c3
    clear hb1 bc hIb BD
    go_wp2_with fail
    refine (l5Show_any k s A c zs w1 hI1 HD.out).mono ?_
    rintro e w2 ⟨rfl, hb2⟩
    have hW2 := bel_step hW hb2
    go_wp2
    go_ret
    exact ⟨by unfold showD; rw [HD.out]; rfl, hW2⟩
end Go.Proofs.YtkjpaafmolikoabDoor
