/- Contracts of the program's does, fill and doesAll upon the map of tables; all else stays. -/
import Derived.Test.YtdjoiehknpfigaaGreatSh5
import Derived.Test.YtdjoiehknpfigaaGreatSwi
import Derived.Test.YtdjoiehknpfigaaGreatDeed3
namespace Go.Proofs.YtdjoiehknpfigaaGreat
open Go.RowKit

theorem kind_pos {k : Int} {n : Nat} (h : kindB k n = true) (h1 : k = 1 ∨ k = 3) : 0 < n := by
  unfold kindB at h
  rw [if_pos h1] at h
  exact of_decide_eq_true h
theorem kind_six {k : Int} {n : Nat} (h : kindB k n = true) (h1 : k ≠ 1) (h2 : k ≠ 2) (h3 : k ≠ 3) (h4 : k ≠ 4) (h5 : k ≠ 5) : k = 6 := by
  unfold kindB at h
  rw [if_neg (by omega), if_neg (by omega), Bool.and_eq_true] at h
  exact of_decide_eq_true h.1
theorem doR_1 (ts : List TB) (s : ByteArray) (z : List Int) : doR ts ⟨1, s, z⟩ = putB ts s z := by
  unfold doR putB atB
  simp
theorem doR_2 (ts : List TB) (s : ByteArray) (z : List Int) : doR ts ⟨2, s, z⟩ = cutB ts s (ky z) := by
  unfold doR cutB atB
  simp only [show ¬ ((2 : Int) = 5) by decide, show ¬ ((2 : Int) = 6) by decide, show ¬ ((2 : Int) = 1) by decide, show ¬ ((2 : Int) = 4) by decide, if_false, if_true]
  split
  · split
    · rename_i h; first | rfl | rw [if_neg h]
    · rename_i h; first | rfl | rw [if_pos (by omega)]
  · rfl
theorem doR_3 (ts : List TB) (s : ByteArray) (z : List Int) : doR ts ⟨3, s, z⟩ = setB ts s z := by
  unfold doR setB atB
  simp only [show ¬ ((3 : Int) = 5) by decide, show ¬ ((3 : Int) = 6) by decide, show ¬ ((3 : Int) = 1) by decide, show ¬ ((3 : Int) = 4) by decide, show ¬ ((3 : Int) = 2) by decide, if_false]
  split
  · split
    · rename_i h; first | rfl | rw [if_neg h]
    · rename_i h; first | rfl | rw [if_pos (show idxK _ _ < _ by omega)]
  · rfl
theorem doR_4 (ts : List TB) (s : ByteArray) (z : List Int) : doR ts ⟨4, s, z⟩ = (ts, mustB ts s (ky z)) := by
  unfold doR atB
  simp only [show ¬ ((4 : Int) = 5) by decide, show ¬ ((4 : Int) = 6) by decide, show ¬ ((4 : Int) = 1) by decide, if_false, if_true]
  split
  · rename_i hi
    split
    · rename_i h; rw [must_key hi h]
    · rename_i h; rw [must_yes hi (by omega)]
  · rename_i hi; rw [must_no hi]
theorem doR_5 (ts : List TB) (s : ByteArray) (z : List Int) : doR ts ⟨5, s, z⟩ = makeB ts s (ix z 0) := by
  unfold doR
  simp
theorem doR_6 (ts : List TB) (s : ByteArray) (z : List Int) : doR ts ⟨6, s, z⟩ = dropB ts s := by
  unfold doR dropB atB
  simp
theorem MapAns.from_ {P : List TB × Int} {m : Nat} {w w1 w2 : World} {e : Ending} (h : MapAns P m w1 e w2) (hb : Below w.heap.size w w1) : MapAns P m w e w2 := ⟨h.1, h.2.1, grown_trans (grown_any hb _) h.2.2⟩
set_option maxRecDepth 100000 in
set_option maxHeartbeats 8000000 in
theorem does_any (m : Nat) (ts : List TB) (k : Int) (s : ByteArray) (Az : Option Addr) (cz : Nat) (z : List Int) (w : World) (hS : Sh w m ts) (hb : baseB ts = true) (hI : Ints w w.heap.size Az z) (hs : s.size ≤ 1048576) (hl : z.length ≤ 1048576) :
    Calls Tryz.prog 53 #[.map (some m), .agg #[.int .i64 k, .string s, .slice Az z.length cz]] w (MapAns (doB ts ⟨k, s, z⟩) m w) := by
  have bc := (Below.refl w.heap.size w).alloc (Nat.le_refl _) (.cells #[.int .i64 k, .string s, .slice Az z.length cz] 32)
  have BD := Blk.new w 32 #[.int .i64 k, .string s, .slice Az z.length cz]
  obtain ⟨D0, D1, D2⟩ := BD.c3
  have hS1 := hS.on bc
  have hI1 := hI.on bc
  obtain ⟨P, hP⟩ : ∃ P, doB ts ⟨k, s, z⟩ = P := ⟨_, rfl⟩
  have HPQ := Lib.hid hP
  rw [hP]
  have y1 := yes1
  have n1 := nil1
  have y2 := yes2
  have n2 := nil2
  have o21 := no21
  have y3 := yes3
  have n3 := nil3
  have o31 := no31
  have o32 := no32
  have y4 := yes4
  have n4 := nil4
  have o41 := no41
  have o42 := no42
  have o43 := no43
  have y5 := yes5
  have n5 := nil5
  have o51 := no51
  have o52 := no52
  have o53 := no53
  have o54 := no54
  have y6 := yes6
  have n6 := nil6
  have o61 := no61
  have o62 := no62
  have o63 := no63
  have o64 := no64
  have o65 := no65
  clear hS hI hP
  go_enter Tryz.func53, Tryz.ntmps53
  go_wp2_with fail
  generalize w.alloc (.cells #[.int .i64 k, .string s, .slice Az z.length cz] 32) = wb at *
  refine (shapeOf_any k s Az cz z wb hI1 (by omega) (by omega)).mono ?_
  rintro e w1 ⟨rfl, hb1⟩
  have hS2 := hS1.on hb1
  have hI2 := hI1.on hb1
  have hW := bel_step bc hb1
  clear D0 D1 D2 BD hS1 hI1 hb1 bc
  cases hd : deedB k s z with
  | false =>
    have HPE := Lib.hid (show P = (ts, 4) by rw [← HPQ.out]; unfold doB; rw [if_neg (by show ¬ deedB k s z = true; rw [hd]; simp)])
    rw [shapeV_no hd]
    clear hd
    go_wp2
    go_ret
    exact MapAns.none_ HPE.out rfl hS2 hW
  | true =>
    obtain ⟨hnb, hrow, hkind⟩ := deedB_all hd
    have hn6 := name_six hnb
    have hz6 := rowOkB_six hrow
    rw [shapeV_at hd]
    have HPE := Lib.hid (show P = doR ts ⟨k, s, z⟩ by rw [← HPQ.out]; unfold doB; rw [if_pos (show deedB k s z = true from hd)])
    clear hd hrow
    have hk6 : k = 1 ∨ k = 2 ∨ k = 3 ∨ k = 4 ∨ k = 5 ∨ k = 6 := by
      rcases kind_cases k with h | h | h | h | h | h | ⟨h1, h2, h3, h4, h5, h6⟩
      · exact .inl h
      · exact .inr (.inl h)
      · exact .inr (.inr (.inl h))
      · exact .inr (.inr (.inr (.inl h)))
      · exact .inr (.inr (.inr (.inr (.inl h))))
      · exact .inr (.inr (.inr (.inr (.inr h))))
      · exact absurd (kind_six hkind h1 h2 h3 h4 h5) h6
    rcases hk6 with rfl | rfl | rfl | rfl | rfl | rfl
    · rw [if_pos rfl]
      have HPX := Lib.hid (show P = putB ts s z by rw [HPE.out, doR_1])
      have b3 := (Below.refl w1.heap.size w1).alloc (Nat.le_refl _) (.cells #[.string s, .slice Az z.length cz] 92)
      have hS3 := hS2.on b3
      have hI3 := hI2.on b3
      have hW3 := bel_step hW b3
      clear hS2 hI2 hW HPE
      go_wp2_with fail
      clear y1 n1 y2 n2 o21 y3 n3 o31 o32 y4 n4 o41 o42 o43 y5 n5 o51 o52 o53 o54 y6 n6 o61 o62 o63 o64 o65
      generalize w1.alloc (.cells #[.string s, .slice Az z.length cz] 92) = wc at *
      refine (putRow_any m ts s Az cz z wc hS3 hb hn6 hI3 (kind_pos hkind (.inl rfl)) hz6).mono ?_
      rintro e w4 hq
      obtain ⟨rfl, hS4, hg4⟩ := hq.from_ hW3
      have HS4 := Lib.hid hS4
      have HG4 := Lib.hid hg4
      rw [← HPX.out] at HS4 ⊢
      clear hS4 hg4 hq hS3 hI3 hW3
      go_wp2
      go_ret
      exact ⟨rfl, HS4.out, HG4.out⟩
    · rw [if_neg (by decide), if_pos rfl]
      have HPX := Lib.hid (show P = cutB ts s (ix z 0) by rw [HPE.out, doR_2]; rfl)
      have b3 := (Below.refl w1.heap.size w1).alloc (Nat.le_refl _) (.cells #[.string s, .int .i64 (ix z 0)] 95)
      have hS3 := hS2.on b3
      have hI3 := hI2.on b3
      have hW3 := bel_step hW b3
      clear hS2 hI2 hW HPE
      go_wp2_with fail
      clear y1 n1 y2 n2 o21 y3 n3 o31 o32 y4 n4 o41 o42 o43 y5 n5 o51 o52 o53 o54 y6 n6 o61 o62 o63 o64 o65
      generalize w1.alloc (.cells #[.string s, .int .i64 (ix z 0)] 95) = wc at *
      refine (cutRow_any m ts s (ix z 0) wc hS3 hb hn6).mono ?_
      rintro e w4 hq
      obtain ⟨rfl, hS4, hg4⟩ := hq.from_ hW3
      have HS4 := Lib.hid hS4
      have HG4 := Lib.hid hg4
      rw [← HPX.out] at HS4 ⊢
      clear hS4 hg4 hq hS3 hI3 hW3
      go_wp2
      go_ret
      exact ⟨rfl, HS4.out, HG4.out⟩
    · rw [if_neg (by decide), if_neg (by decide), if_pos rfl]
      have HPX := Lib.hid (show P = setB ts s z by rw [HPE.out, doR_3])
      have b3 := (Below.refl w1.heap.size w1).alloc (Nat.le_refl _) (.cells #[.string s, .slice Az z.length cz] 97)
      have hS3 := hS2.on b3
      have hI3 := hI2.on b3
      have hW3 := bel_step hW b3
      clear hS2 hI2 hW HPE
      go_wp2_with fail
      clear y1 n1 y2 n2 o21 y3 n3 o31 o32 y4 n4 o41 o42 o43 y5 n5 o51 o52 o53 o54 y6 n6 o61 o62 o63 o64 o65
      generalize w1.alloc (.cells #[.string s, .slice Az z.length cz] 97) = wc at *
      refine (setRow_any m ts s Az cz z wc hS3 hb hn6 hI3 (kind_pos hkind (.inr rfl)) hz6).mono ?_
      rintro e w4 hq
      obtain ⟨rfl, hS4, hg4⟩ := hq.from_ hW3
      have HS4 := Lib.hid hS4
      have HG4 := Lib.hid hg4
      rw [← HPX.out] at HS4 ⊢
      clear hS4 hg4 hq hS3 hI3 hW3
      go_wp2
      go_ret
      exact ⟨rfl, HS4.out, HG4.out⟩
    · rw [if_neg (by decide), if_neg (by decide), if_neg (by decide), if_pos rfl]
      have HPX := Lib.hid (show P = (ts, mustB ts s (ix z 0)) by rw [HPE.out, doR_4]; rfl)
      have b3 := (Below.refl w1.heap.size w1).alloc (Nat.le_refl _) (.cells #[.string s, .int .i64 (ix z 0)] 98)
      have hS3 := hS2.on b3
      have hI3 := hI2.on b3
      have hW3 := bel_step hW b3
      clear hS2 hI2 hW HPE
      go_wp2_with fail
      clear y1 n1 y2 n2 o21 y3 n3 o31 o32 y4 n4 o41 o42 o43 y5 n5 o51 o52 o53 o54 y6 n6 o61 o62 o63 o64 o65
      generalize w1.alloc (.cells #[.string s, .int .i64 (ix z 0)] 98) = wc at *
      refine (mustHave_any m ts s (ix z 0) wc hS3 hb hn6).mono ?_
      rintro e w4 ⟨rfl, hb4⟩
      have hS4 := hS3.on hb4
      have hW4 := bel_step hW3 hb4
      clear hS3 hI3 hW3 hb4
      go_wp2
      go_ret
      exact MapAns.none_ HPX.out rfl hS4 hW4
    · rw [if_neg (by decide), if_neg (by decide), if_neg (by decide), if_neg (by decide), if_pos rfl]
      have HPX := Lib.hid (show P = makeB ts s (ix z 0) by rw [HPE.out, doR_5])
      have b3 := (Below.refl w1.heap.size w1).alloc (Nat.le_refl _) (.cells #[.string s, .int .i64 (ix z 0)] 100)
      have hS3 := hS2.on b3
      have hI3 := hI2.on b3
      have hW3 := bel_step hW b3
      clear hS2 hI2 hW HPE
      go_wp2_with fail
      clear y1 n1 y2 n2 o21 y3 n3 o31 o32 y4 n4 o41 o42 o43 y5 n5 o51 o52 o53 o54 y6 n6 o61 o62 o63 o64 o65
      generalize w1.alloc (.cells #[.string s, .int .i64 (ix z 0)] 100) = wc at *
      refine (makeTable_any m ts s (ix z 0) wc hS3 hb hnb).mono ?_
      rintro e w4 hq
      obtain ⟨rfl, hS4, hg4⟩ := hq.from_ hW3
      have HS4 := Lib.hid hS4
      have HG4 := Lib.hid hg4
      rw [← HPX.out] at HS4 ⊢
      clear hS4 hg4 hq hS3 hI3 hW3
      go_wp2
      go_ret
      exact ⟨rfl, HS4.out, HG4.out⟩
    · rw [if_neg (by decide), if_neg (by decide), if_neg (by decide), if_neg (by decide), if_neg (by decide)]
      have HPX := Lib.hid (show P = dropB ts s by rw [HPE.out, doR_6])
      have b3 := (Below.refl w1.heap.size w1).alloc (Nat.le_refl _) (.cells #[.string s] 102)
      have hS3 := hS2.on b3
      have hI3 := hI2.on b3
      have hW3 := bel_step hW b3
      clear hS2 hI2 hW HPE
      go_wp2_with fail
      clear y1 n1 y2 n2 o21 y3 n3 o31 o32 y4 n4 o41 o42 o43 y5 n5 o51 o52 o53 o54 y6 n6 o61 o62 o63 o64 o65
      generalize w1.alloc (.cells #[.string s] 102) = wc at *
      refine (dropTable_any m ts s wc hS3 hb hn6).mono ?_
      rintro e w4 hq
      obtain ⟨rfl, hS4, hg4⟩ := hq.from_ hW3
      have HS4 := Lib.hid hS4
      have HG4 := Lib.hid hg4
      rw [← HPX.out] at HS4 ⊢
      clear hS4 hg4 hq hS3 hI3 hW3
      go_wp2
      go_ret
      exact ⟨rfl, HS4.out, HG4.out⟩
end Go.Proofs.YtdjoiehknpfigaaGreat
