/- The program's ShowDeed: the text of a right deed, else the empty one; nothing that lay has turned. The variables lie as the text lays them. -/
import Derived.Test.YtkjpaafmolikoabDoorShowA
namespace Go.Proofs.YtkjpaafmolikoabDoor
open Go.RowKit

set_option maxRecDepth 100000 in
set_option maxHeartbeats 8000000 in
theorem implShowDeed_any (k : Int) (s : ByteArray) (A : Option Addr) (c : Nat) (zs : List Int) (w : World) (hI : Ints w w.heap.size A zs) (hs : s.size ≤ 1099511627776) (hl : zs.length ≤ 1099511627776) (hT : TabAt w) (hWd : WordsAt w) :
    Calls Tryd.prog 26 #[.agg #[.int .i64 k, .string s, .slice A zs.length c]] w fun e w' => e = .returned (.string ⟨(showD k s zs).toArray⟩) ∧ Below w.heap.size w w' := by
  have bc := (Below.refl w.heap.size w).alloc (Nat.le_refl _) (.cells #[.int .i64 k, .string s, .slice A zs.length c] 39)
  have hIb := hI.on bc
  have HT := Lib.hid hT
  have HWd := Lib.hid hWd
  clear hT hWd
  cases hd : deedB k s zs with
  | false =>
    have hn1 := nil1
    have hn2 := nil2
    have hn3 := nil3
    have hn4 := nil4
    have hn5 := nil5
    have hn6 := nil6
    have HS := Lib.hid (shapeV_no (A := A) (c := c) hd)
    have HD := Lib.hid hd
    clear hd
    go_enter Tryd.func26, Tryd.ntmps26
    go_wp2_with fail
    generalize w.alloc (.cells #[.int .i64 k, .string s, .slice A zs.length c] 39) = wb at *
    refine (shapeOf_any k s A c zs wb hIb hs hl).mono ?_
    rintro e w1 ⟨rfl, hb1⟩
    rw [HS.out]
    have hW := bel_step bc hb1
    go_wp2
    go_ret
    exact ⟨by unfold showD; rw [HD.out]; rfl, hW⟩
  | true =>
    obtain ⟨hn, hr, hk⟩ := deedB_all hd
    obtain ⟨k1, k6, kz⟩ := kindB_kind hk
    have hs6 := Nat.le_trans (name_size6 hn) (show 6 ≤ 1000 by omega)
    obtain ⟨hall, hz6⟩ := rowOkB_all hr
    have hlen := (numbersL_len zs hall).1
    obtain ⟨Nb, hNb⟩ : ∃ Nb : ByteArray, (⟨(numbersL zs).toArray⟩ : ByteArray) = Nb := ⟨_, rfl⟩
    have hns : Nb.size ≤ 1000 := by rw [← hNb, ← bl_length, bl_mk]; omega
    have HN := Lib.hid hNb
    have HBN := Lib.hid (show bl Nb = numbersL zs by rw [← hNb, bl_mk])
    have HD := Lib.hid hd
    have HZ := Lib.hid kz
    have HK := Lib.hid hk
    have HR := Lib.hid hr
    have HALL := Lib.hid hall
    clear hn hr hk hall hNb hlen hd kz hI
    obtain rfl | rfl | rfl | rfl | rfl | rfl : k = 1 ∨ k = 2 ∨ k = 3 ∨ k = 4 ∨ k = 5 ∨ k = 6 := by omega
    · have hy := yes1
      have HS := Lib.hid (show shapeV 1 s A c zs = .iface 82 (.agg #[.string s, .slice A zs.length c]) by rw [shapeV_at HD.out]; simp)
      have hne : zs ≠ [] := fun e => by have := HZ.out.1 (by rw [e]; rfl); omega
      have HNe := Lib.hid hne
      clear hne
      have HSh := Lib.hid (show showL zs = numbersL zs by unfold showL; rw [if_pos HR.out, if_neg HNe.out])
      go_enter Tryd.func26, Tryd.ntmps26
      go_wp2_with fail
      generalize w.alloc (.cells #[.int .i64 1, .string s, .slice A zs.length c] 39) = wb at *
      refine (shapeOf_any 1 s A c zs wb hIb hs hl).mono ?_
      rintro e w1 ⟨rfl, hb1⟩
      rw [HS.out]
      have b2 := (Below.refl w1.heap.size w1).alloc (Nat.le_refl _) (.cells #[.string s, .slice A zs.length c] 82)
      have hW2 : Below w.heap.size w (w1.alloc (.cells #[.string s, .slice A zs.length c] 82)) := bel_step (bel_step bc hb1) b2
      have BS := Blk.new w1 82 #[.string s, .slice A zs.length c]
      have hI2 := (hIb.on hb1).on b2
      have HT2 := Lib.hid (tab_on HT.out (bel_drewN hW2 1))
      have HW2 := Lib.hid (HWd.out.on hW2)
      obtain ⟨g0, g1⟩ := BS.c2
      clear b2 bc hb1 hIb HS
      go_wp2_with fail
      generalize w1.alloc (.cells #[.string s, .slice A zs.length c] 82) = w2 at *
      generalize w1.heap.size = G at *
      go_region_law (first
        | (go_simp; refine (implShowRow_any A c zs _ (by exact hI2) (by omega) (by exact HT2.out)).mono ?_; rintro e w3 ⟨rfl, hb3⟩; rw [HSh.out, HN.out]; have hW3 : Below w.heap.size w w3 := bel_step hW2 ((bel_drewN (Below.refl _ _) 1).trans hb3); obtain ⟨e0, e1⟩ := ((BS.drewN 1).on hb3).c2; have HW3 := Lib.hid (show ∀ o, WordsAt (w3.alloc o) from fun o => ((HW2.out.drewN 1).on hb3).on ((Below.refl _ _).alloc (Nat.le_refl _) o)))
        | (go_simp; refine (deedText_two 1 (by omega) (by omega) _ s Nb _ (by exact Blk.new w3 _ _) hs6 hns (by exact HW3.out _)).mono ?_; rintro e w4 ⟨rfl, hb4⟩; have hW4 : Below w.heap.size w w4 := bel_step (hW3.alloc hW3.size (.cells #[.string s, .string Nb] 9)) hb4))
      all_goals
        clear hb3 hb4 hW3 hW2 BS g0 g1
        go_wp2
        go_ret
        refine ⟨congrArg (fun s => Ending.returned (.string s)) ?_, hW4⟩
        unfold showD deedL
        rw [if_pos HD.out, if_neg HNe.out, HBN.out]
    · have hy := yes2
      have HS := Lib.hid (show shapeV 2 s A c zs = .iface 85 (.agg #[.string s, .int .i64 (ix zs 0)]) by rw [shapeV_at HD.out]; simp)
      have hn1 := no21
      have HL1 := Lib.hid (show zs.length = 1 by have := HK.out; simpa [kindB] using this)
      have HNe := Lib.hid (show zs ≠ [] from fun e => by have := HL1.out; rw [e] at this; cases this)
      have hx0 := cell_of_B (all_ix HALL.out 0 (by have := HL1.out; omega))
      have HIt := Lib.hid (show Lib.itoa (ix zs 0) = numbersL zs from (numbersL_single HL1.out).symm)
      go_enter Tryd.func26, Tryd.ntmps26
      go_wp2_with fail
      generalize w.alloc (.cells #[.int .i64 2, .string s, .slice A zs.length c] 39) = wb at *
      refine (shapeOf_any 2 s A c zs wb hIb hs hl).mono ?_
      rintro e w1 ⟨rfl, hb1⟩
      rw [HS.out]
      have b2 := (Below.refl w1.heap.size w1).alloc (Nat.le_refl _) (.cells #[.string s, .int .i64 (ix zs 0)] 85)
      have hW2 : Below w.heap.size w (w1.alloc (.cells #[.string s, .int .i64 (ix zs 0)] 85)) := bel_step (bel_step bc hb1) b2
      have BS := Blk.new w1 85 #[.string s, .int .i64 (ix zs 0)]
      have hI2 := (hIb.on hb1).on b2
      have HT2 := Lib.hid (tab_on HT.out (bel_drewN hW2 1))
      have HW2 := Lib.hid (HWd.out.on hW2)
      obtain ⟨g0, g1⟩ := BS.c2
      clear b2 bc hb1 hIb HS
      go_wp2_with fail
      generalize w1.alloc (.cells #[.string s, .int .i64 (ix zs 0)] 85) = w2 at *
      generalize w1.heap.size = G at *
      go_region_law (first
        | (go_simp; refine (showNumber_any (ix zs 0) _ (by omega) (by omega) (by exact HT2.out)).mono ?_; rintro e w3 ⟨rfl, hb3⟩; rw [HIt.out, HN.out]; have hW3 : Below w.heap.size w w3 := bel_step hW2 ((bel_drewN (Below.refl _ _) 1).trans hb3); obtain ⟨e0, e1⟩ := ((BS.drewN 1).on hb3).c2; have HW3 := Lib.hid (show ∀ o, WordsAt (w3.alloc o) from fun o => ((HW2.out.drewN 1).on hb3).on ((Below.refl _ _).alloc (Nat.le_refl _) o)))
        | (go_simp; refine (deedText_two 2 (by omega) (by omega) _ s Nb _ (by exact Blk.new w3 _ _) hs6 hns (by exact HW3.out _)).mono ?_; rintro e w4 ⟨rfl, hb4⟩; have hW4 : Below w.heap.size w w4 := bel_step (hW3.alloc hW3.size (.cells #[.string s, .string Nb] 9)) hb4))
      all_goals
        clear hb3 hb4 hW3 hW2 BS g0 g1
        go_wp2
        go_ret
        refine ⟨congrArg (fun s => Ending.returned (.string s)) ?_, hW4⟩
        unfold showD deedL
        rw [if_pos HD.out, if_neg HNe.out, HBN.out]
    · have hy := yes3
      have HS := Lib.hid (show shapeV 3 s A c zs = .iface 87 (.agg #[.string s, .slice A zs.length c]) by rw [shapeV_at HD.out]; simp)
      have hn1 := no31
      have hn2 := no32
      have hne : zs ≠ [] := fun e => by have := HZ.out.1 (by rw [e]; rfl); omega
      have HNe := Lib.hid hne
      clear hne
      have HSh := Lib.hid (show showL zs = numbersL zs by unfold showL; rw [if_pos HR.out, if_neg HNe.out])
      go_enter Tryd.func26, Tryd.ntmps26
      go_wp2_with fail
      generalize w.alloc (.cells #[.int .i64 3, .string s, .slice A zs.length c] 39) = wb at *
      refine (shapeOf_any 3 s A c zs wb hIb hs hl).mono ?_
      rintro e w1 ⟨rfl, hb1⟩
      rw [HS.out]
      have b2 := (Below.refl w1.heap.size w1).alloc (Nat.le_refl _) (.cells #[.string s, .slice A zs.length c] 87)
      have hW2 : Below w.heap.size w (w1.alloc (.cells #[.string s, .slice A zs.length c] 87)) := bel_step (bel_step bc hb1) b2
      have BS := Blk.new w1 87 #[.string s, .slice A zs.length c]
      have hI2 := (hIb.on hb1).on b2
      have HT2 := Lib.hid (tab_on HT.out (bel_drewN hW2 1))
      have HW2 := Lib.hid (HWd.out.on hW2)
      obtain ⟨g0, g1⟩ := BS.c2
      clear b2 bc hb1 hIb HS
      go_wp2_with fail
      generalize w1.alloc (.cells #[.string s, .slice A zs.length c] 87) = w2 at *
      generalize w1.heap.size = G at *
      go_region_law (first
        | (go_simp; refine (implShowRow_any A c zs _ (by exact hI2) (by omega) (by exact HT2.out)).mono ?_; rintro e w3 ⟨rfl, hb3⟩; rw [HSh.out, HN.out]; have hW3 : Below w.heap.size w w3 := bel_step hW2 ((bel_drewN (Below.refl _ _) 1).trans hb3); obtain ⟨e0, e1⟩ := ((BS.drewN 1).on hb3).c2; have HW3 := Lib.hid (show ∀ o, WordsAt (w3.alloc o) from fun o => ((HW2.out.drewN 1).on hb3).on ((Below.refl _ _).alloc (Nat.le_refl _) o)))
        | (go_simp; refine (deedText_two 3 (by omega) (by omega) _ s Nb _ (by exact Blk.new w3 _ _) hs6 hns (by exact HW3.out _)).mono ?_; rintro e w4 ⟨rfl, hb4⟩; have hW4 : Below w.heap.size w w4 := bel_step (hW3.alloc hW3.size (.cells #[.string s, .string Nb] 9)) hb4))
      all_goals
        clear hb3 hb4 hW3 hW2 BS g0 g1
        go_wp2
        go_ret
        refine ⟨congrArg (fun s => Ending.returned (.string s)) ?_, hW4⟩
        unfold showD deedL
        rw [if_pos HD.out, if_neg HNe.out, HBN.out]
    · have hy := yes4
      have HS := Lib.hid (show shapeV 4 s A c zs = .iface 88 (.agg #[.string s, .int .i64 (ix zs 0)]) by rw [shapeV_at HD.out]; simp)
      have hn1 := no41
      have hn2 := no42
      have hn3 := no43
      have HL1 := Lib.hid (show zs.length = 1 by have := HK.out; simpa [kindB] using this)
      have HNe := Lib.hid (show zs ≠ [] from fun e => by have := HL1.out; rw [e] at this; cases this)
      have hx0 := cell_of_B (all_ix HALL.out 0 (by have := HL1.out; omega))
      have HIt := Lib.hid (show Lib.itoa (ix zs 0) = numbersL zs from (numbersL_single HL1.out).symm)
      go_enter Tryd.func26, Tryd.ntmps26
      go_wp2_with fail
      generalize w.alloc (.cells #[.int .i64 4, .string s, .slice A zs.length c] 39) = wb at *
      refine (shapeOf_any 4 s A c zs wb hIb hs hl).mono ?_
      rintro e w1 ⟨rfl, hb1⟩
      rw [HS.out]
      have b2 := (Below.refl w1.heap.size w1).alloc (Nat.le_refl _) (.cells #[.string s, .int .i64 (ix zs 0)] 88)
      have hW2 : Below w.heap.size w (w1.alloc (.cells #[.string s, .int .i64 (ix zs 0)] 88)) := bel_step (bel_step bc hb1) b2
      have BS := Blk.new w1 88 #[.string s, .int .i64 (ix zs 0)]
      have hI2 := (hIb.on hb1).on b2
      have HT2 := Lib.hid (tab_on HT.out (bel_drewN hW2 1))
      have HW2 := Lib.hid (HWd.out.on hW2)
      obtain ⟨g0, g1⟩ := BS.c2
      clear b2 bc hb1 hIb HS
      go_wp2_with fail
      generalize w1.alloc (.cells #[.string s, .int .i64 (ix zs 0)] 88) = w2 at *
      generalize w1.heap.size = G at *
      go_region_law (first
        | (go_simp; refine (showNumber_any (ix zs 0) _ (by omega) (by omega) (by exact HT2.out)).mono ?_; rintro e w3 ⟨rfl, hb3⟩; rw [HIt.out, HN.out]; have hW3 : Below w.heap.size w w3 := bel_step hW2 ((bel_drewN (Below.refl _ _) 1).trans hb3); obtain ⟨e0, e1⟩ := ((BS.drewN 1).on hb3).c2; have HW3 := Lib.hid (show ∀ o, WordsAt (w3.alloc o) from fun o => ((HW2.out.drewN 1).on hb3).on ((Below.refl _ _).alloc (Nat.le_refl _) o)))
        | (go_simp; refine (deedText_two 4 (by omega) (by omega) _ s Nb _ (by exact Blk.new w3 _ _) hs6 hns (by exact HW3.out _)).mono ?_; rintro e w4 ⟨rfl, hb4⟩; have hW4 : Below w.heap.size w w4 := bel_step (hW3.alloc hW3.size (.cells #[.string s, .string Nb] 9)) hb4))
      all_goals
        clear hb3 hb4 hW3 hW2 BS g0 g1
        go_wp2
        go_ret
        refine ⟨congrArg (fun s => Ending.returned (.string s)) ?_, hW4⟩
        unfold showD deedL
        rw [if_pos HD.out, if_neg HNe.out, HBN.out]
    · have hy := yes5
      have HS := Lib.hid (show shapeV 5 s A c zs = .iface 90 (.agg #[.string s, .int .i64 (ix zs 0)]) by rw [shapeV_at HD.out]; simp)
      have hn1 := no51
      have hn2 := no52
      have hn3 := no53
      have hn4 := no54
      have HL1 := Lib.hid (show zs.length = 1 by have := HK.out; simpa [kindB] using this)
      have HNe := Lib.hid (show zs ≠ [] from fun e => by have := HL1.out; rw [e] at this; cases this)
      have hx0 := cell_of_B (all_ix HALL.out 0 (by have := HL1.out; omega))
      have HIt := Lib.hid (show Lib.itoa (ix zs 0) = numbersL zs from (numbersL_single HL1.out).symm)
      go_enter Tryd.func26, Tryd.ntmps26
      go_wp2_with fail
      generalize w.alloc (.cells #[.int .i64 5, .string s, .slice A zs.length c] 39) = wb at *
      refine (shapeOf_any 5 s A c zs wb hIb hs hl).mono ?_
      rintro e w1 ⟨rfl, hb1⟩
      rw [HS.out]
      have b2 := (Below.refl w1.heap.size w1).alloc (Nat.le_refl _) (.cells #[.string s, .int .i64 (ix zs 0)] 90)
      have hW2 : Below w.heap.size w (w1.alloc (.cells #[.string s, .int .i64 (ix zs 0)] 90)) := bel_step (bel_step bc hb1) b2
      have BS := Blk.new w1 90 #[.string s, .int .i64 (ix zs 0)]
      have hI2 := (hIb.on hb1).on b2
      have HT2 := Lib.hid (tab_on HT.out (bel_drewN hW2 1))
      have HW2 := Lib.hid (HWd.out.on hW2)
      obtain ⟨g0, g1⟩ := BS.c2
      clear b2 bc hb1 hIb HS
      go_wp2_with fail
      generalize w1.alloc (.cells #[.string s, .int .i64 (ix zs 0)] 90) = w2 at *
      generalize w1.heap.size = G at *
      go_region_law (first
        | (go_simp; refine (showNumber_any (ix zs 0) _ (by omega) (by omega) (by exact HT2.out)).mono ?_; rintro e w3 ⟨rfl, hb3⟩; rw [HIt.out, HN.out]; have hW3 : Below w.heap.size w w3 := bel_step hW2 ((bel_drewN (Below.refl _ _) 1).trans hb3); obtain ⟨e0, e1⟩ := ((BS.drewN 1).on hb3).c2; have HW3 := Lib.hid (show ∀ o, WordsAt (w3.alloc o) from fun o => ((HW2.out.drewN 1).on hb3).on ((Below.refl _ _).alloc (Nat.le_refl _) o)))
        | (go_simp; refine (deedText_two 5 (by omega) (by omega) _ s Nb _ (by exact Blk.new w3 _ _) hs6 hns (by exact HW3.out _)).mono ?_; rintro e w4 ⟨rfl, hb4⟩; have hW4 : Below w.heap.size w w4 := bel_step (hW3.alloc hW3.size (.cells #[.string s, .string Nb] 9)) hb4))
      all_goals
        clear hb3 hb4 hW3 hW2 BS g0 g1
        go_wp2
        go_ret
        refine ⟨congrArg (fun s => Ending.returned (.string s)) ?_, hW4⟩
        unfold showD deedL
        rw [if_pos HD.out, if_neg HNe.out, HBN.out]
    · have hy := yes6
      have HS := Lib.hid (show shapeV 6 s A c zs = .iface 92 (.agg #[.string s]) by rw [shapeV_at HD.out]; simp)
      have hn1 := no61
      have hn2 := no62
      have hn3 := no63
      have hn4 := no64
      have hn5 := no65
      go_enter Tryd.func26, Tryd.ntmps26
      go_wp2_with fail
      generalize w.alloc (.cells #[.int .i64 6, .string s, .slice A zs.length c] 39) = wb at *
      refine (shapeOf_any 6 s A c zs wb hIb hs hl).mono ?_
      rintro e w1 ⟨rfl, hb1⟩
      rw [HS.out]
      have b2 := (Below.refl w1.heap.size w1).alloc (Nat.le_refl _) (.cells #[.string s] 92)
      have hW2 : Below w.heap.size w (w1.alloc (.cells #[.string s] 92)) := bel_step (bel_step bc hb1) b2
      have BS := Blk.new w1 92 #[.string s]
      have hI2 := (hIb.on hb1).on b2
      have HT2 := Lib.hid (tab_on HT.out (bel_drewN hW2 1))
      have HW2 := Lib.hid (HWd.out.on hW2)
      have g0 : (w1.alloc (.cells #[.string s] 92)).cell? ⟨w1.heap.size, 0, none⟩ = some (.string s) := BS.cell 0
      have BL : Blk ((w1.alloc (.cells #[.string s] 92)).alloc (.cells #[.string s] 9)) (w1.heap.size + 1) 9 #[.string s] := by have hh := Blk.new (w1.alloc (.cells #[.string s] 92)) 9 #[.string s]; rwa [World.size_alloc] at hh
      clear b2 bc hb1 hIb HS
      go_wp2_with fail
      generalize w1.alloc (.cells #[.string s] 92) = w2 at *
      generalize w1.heap.size = G at *
      have HW3 := HW2.out.on ((Below.refl w2.heap.size w2).alloc (Nat.le_refl _) (.cells #[.string s] 9))
      have hW3 := hW2.alloc hW2.size (.cells #[.string s] 9)
      generalize w2.alloc (.cells #[.string s] 9) = w3 at *
      refine (deedText_one 6 (by omega) (by omega) (G + 1) s w3 BL hs6 HW3).mono ?_
      rintro e w4 ⟨rfl, hb4⟩
      have hW4 := bel_step hW3 hb4
      go_wp2
      go_ret
      refine ⟨congrArg (fun s => Ending.returned (.string s)) ?_, hW4⟩
      unfold showD deedL
      rw [if_pos HD.out, if_pos (List.length_eq_zero_iff.1 (HZ.out.2 (by first | trivial | rfl))), List.append_nil]
end Go.Proofs.YtkjpaafmolikoabDoor
