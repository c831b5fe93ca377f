/- The program's words of the deeds, where they lie; kindOf, deedText, showNumber: what each returns; nothing that lay has turned. The variables lie as the text lays them. -/
import Derived.Test.YtkjpaafmolikoabDoorRead4
import Derived.Test.YtkjpaafmolikoabDoorDeedThy
import Derived.Test.YtkjpaafmolikoabDoorShelfD
import Derived.Deep.RegionHeld3
import Derived.Deep.RegionLaw
namespace Go.Proofs.YtkjpaafmolikoabDoor
open Go.RowKit

def wordsB : List ByteArray := [⟨#[]⟩, ⟨#[112, 117, 116]⟩, ⟨#[99, 117, 116]⟩, ⟨#[115, 101, 116]⟩, ⟨#[109, 117, 115, 116]⟩, ⟨#[109, 97, 107, 101]⟩, ⟨#[100, 114, 111, 112]⟩]
/-- The program's own variable holds the words. -/
def WordsAt (w : World) : Prop := ∀ j, j < 7 → w.cell? ⟨0, j, none⟩ = some (.string (sx wordsB j))
theorem WordsAt.on {w w' : World} (h : WordsAt w) (hb : Below w.heap.size w w') : WordsAt w' := fun j hj => (hb.cell (cell_lt (h j hj))).trans (h j hj)
theorem WordsAt.drewN {w : World} (h : WordsAt w) (n : Nat) : WordsAt (w.drewN n) := h
theorem kind_at {l : List UInt8} {k : Nat} (hk : k < 7) (h : bl (sx wordsB k) = l) : kindL l = k := by
  subst h
  obtain rfl | rfl | rfl | rfl | rfl | rfl | rfl : k = 0 ∨ k = 1 ∨ k = 2 ∨ k = 3 ∨ k = 4 ∨ k = 5 ∨ k = 6 := by omega
  all_goals decide
theorem kind_none {l : List UInt8} (h : ∀ k, k < 7 → bl (sx wordsB k) ≠ l) : kindL l = 0 := by
  unfold kindL
  rw [if_neg (fun e => h 1 (by omega) e.symm), if_neg (fun e => h 2 (by omega) e.symm), if_neg (fun e => h 3 (by omega) e.symm), if_neg (fun e => h 4 (by omega) e.symm), if_neg (fun e => h 5 (by omega) e.symm), if_neg (fun e => h 6 (by omega) e.symm)]
theorem wordsB_at {k : Nat} (hk : k < 7) : bl (sx wordsB k) = wordL k := by
  obtain rfl | rfl | rfl | rfl | rfl | rfl | rfl : k = 0 ∨ k = 1 ∨ k = 2 ∨ k = 3 ∨ k = 4 ∨ k = 5 ∨ k = 6 := by omega
  all_goals decide
theorem WordsAt.all {w : World} (h : WordsAt w) : w.cell? ⟨0, 0, none⟩ = some (.string ⟨#[]⟩) ∧ w.cell? ⟨0, 1, none⟩ = some (.string ⟨#[112, 117, 116]⟩) ∧ w.cell? ⟨0, 2, none⟩ = some (.string ⟨#[99, 117, 116]⟩) ∧ w.cell? ⟨0, 3, none⟩ = some (.string ⟨#[115, 101, 116]⟩) ∧ w.cell? ⟨0, 4, none⟩ = some (.string ⟨#[109, 117, 115, 116]⟩) ∧ w.cell? ⟨0, 5, none⟩ = some (.string ⟨#[109, 97, 107, 101]⟩) ∧ w.cell? ⟨0, 6, none⟩ = some (.string ⟨#[100, 114, 111, 112]⟩) :=
  ⟨h 0 (by omega), h 1 (by omega), h 2 (by omega), h 3 (by omega), h 4 (by omega), h 5 (by omega), h 6 (by omega)⟩
set_option maxRecDepth 100000 in
set_option maxHeartbeats 2000000 in
theorem kindOf_any (s : ByteArray) (w : World) (hW : WordsAt w) :
    Calls Tryd.prog 67 #[.string s] w fun e w' => e = .returned (.int .i64 (kindL (bl s))) ∧ w = w' := by
  obtain ⟨c0, c1, c2, c3, c4, c5, c6⟩ := hW.all
  have i0 : ∀ w, (Instr.index 109 (.agg #[.string ⟨#[]⟩, .string ⟨#[112, 117, 116]⟩, .string ⟨#[99, 117, 116]⟩, .string ⟨#[115, 101, 116]⟩, .string ⟨#[109, 117, 115, 116]⟩, .string ⟨#[109, 97, 107, 101]⟩, .string ⟨#[100, 114, 111, 112]⟩]) (.int .i64 0)).run Tryd.prog w = .ok (.string ⟨#[]⟩) w := fun _ => by kernel_rfl
  have i1 : ∀ w, (Instr.index 109 (.agg #[.string ⟨#[]⟩, .string ⟨#[112, 117, 116]⟩, .string ⟨#[99, 117, 116]⟩, .string ⟨#[115, 101, 116]⟩, .string ⟨#[109, 117, 115, 116]⟩, .string ⟨#[109, 97, 107, 101]⟩, .string ⟨#[100, 114, 111, 112]⟩]) (.int .i64 1)).run Tryd.prog w = .ok (.string ⟨#[112, 117, 116]⟩) w := fun _ => by kernel_rfl
  have i2 : ∀ w, (Instr.index 109 (.agg #[.string ⟨#[]⟩, .string ⟨#[112, 117, 116]⟩, .string ⟨#[99, 117, 116]⟩, .string ⟨#[115, 101, 116]⟩, .string ⟨#[109, 117, 115, 116]⟩, .string ⟨#[109, 97, 107, 101]⟩, .string ⟨#[100, 114, 111, 112]⟩]) (.int .i64 2)).run Tryd.prog w = .ok (.string ⟨#[99, 117, 116]⟩) w := fun _ => by kernel_rfl
  have i3 : ∀ w, (Instr.index 109 (.agg #[.string ⟨#[]⟩, .string ⟨#[112, 117, 116]⟩, .string ⟨#[99, 117, 116]⟩, .string ⟨#[115, 101, 116]⟩, .string ⟨#[109, 117, 115, 116]⟩, .string ⟨#[109, 97, 107, 101]⟩, .string ⟨#[100, 114, 111, 112]⟩]) (.int .i64 3)).run Tryd.prog w = .ok (.string ⟨#[115, 101, 116]⟩) w := fun _ => by kernel_rfl
  have i4 : ∀ w, (Instr.index 109 (.agg #[.string ⟨#[]⟩, .string ⟨#[112, 117, 116]⟩, .string ⟨#[99, 117, 116]⟩, .string ⟨#[115, 101, 116]⟩, .string ⟨#[109, 117, 115, 116]⟩, .string ⟨#[109, 97, 107, 101]⟩, .string ⟨#[100, 114, 111, 112]⟩]) (.int .i64 4)).run Tryd.prog w = .ok (.string ⟨#[109, 117, 115, 116]⟩) w := fun _ => by kernel_rfl
  have i5 : ∀ w, (Instr.index 109 (.agg #[.string ⟨#[]⟩, .string ⟨#[112, 117, 116]⟩, .string ⟨#[99, 117, 116]⟩, .string ⟨#[115, 101, 116]⟩, .string ⟨#[109, 117, 115, 116]⟩, .string ⟨#[109, 97, 107, 101]⟩, .string ⟨#[100, 114, 111, 112]⟩]) (.int .i64 5)).run Tryd.prog w = .ok (.string ⟨#[109, 97, 107, 101]⟩) w := fun _ => by kernel_rfl
  have i6 : ∀ w, (Instr.index 109 (.agg #[.string ⟨#[]⟩, .string ⟨#[112, 117, 116]⟩, .string ⟨#[99, 117, 116]⟩, .string ⟨#[115, 101, 116]⟩, .string ⟨#[109, 117, 115, 116]⟩, .string ⟨#[109, 97, 107, 101]⟩, .string ⟨#[100, 114, 111, 112]⟩]) (.int .i64 6)).run Tryd.prog w = .ok (.string ⟨#[100, 114, 111, 112]⟩) w := fun _ => by kernel_rfl
  go_enter Tryd.func67, Tryd.ntmps67
  go_wp2
  go_loop [6] (fun i => ∃ k : Nat, k ≤ 7 ∧ i = .int .i64 k ∧ ∀ j, j < k → bl (sx wordsB j) ≠ bl s) (fun i => 7 - (intOf i).toNat)
  case atStart => exact ⟨0, Nat.zero_le _, rfl, fun j hj => absurd hj (by omega)⟩
  case round =>
    obtain ⟨k, hk, rfl, ht⟩ := hrel
    have HT := Lib.hid ht
    clear ht
    by_cases hlt : k < 7
    · obtain rfl | rfl | rfl | rfl | rfl | rfl | rfl : k = 0 ∨ k = 1 ∨ k = 2 ∨ k = 3 ∨ k = 4 ∨ k = 5 ∨ k = 6 := by omega
      · go_wp2
        · go_ret
          rename_i hh hwt
          have HK := kind_at (k := 0) (l := bl s) (by omega) (by rw [← toList_bl s, List.isEmpty_iff.1 hh]; rfl)
          exact ⟨by rw [HK]; rfl, rfl⟩
        · rename_i hh
          refine ⟨⟨0 + 1, by omega, rfl, fun j hj => ?_⟩, by simp [intOf]⟩
          by_cases e : j = 0
          · subst e
            intro he
            exact absurd (by rw [← toList_bl s] at he; rw [← he] at hh; exact absurd hh (by decide) : False) id
          · exact HT.out j (by omega)
      · go_wp2
        · go_ret
          rename_i hh hwt
          have HK := kind_at (k := 1) (l := bl s) (by omega) (by rw [← toList_bl s]; exact eq_of_beq hh)
          exact ⟨by rw [HK]; rfl, rfl⟩
        · rename_i hh
          refine ⟨⟨1 + 1, by omega, rfl, fun j hj => ?_⟩, by simp [intOf]⟩
          by_cases e : j = 1
          · subst e
            intro he
            exact absurd (by rw [← toList_bl s] at he; rw [← he] at hh; exact absurd hh (by decide) : False) id
          · exact HT.out j (by omega)
      · go_wp2
        · go_ret
          rename_i hh hwt
          have HK := kind_at (k := 2) (l := bl s) (by omega) (by rw [← toList_bl s]; exact eq_of_beq hh)
          exact ⟨by rw [HK]; rfl, rfl⟩
        · rename_i hh
          refine ⟨⟨2 + 1, by omega, rfl, fun j hj => ?_⟩, by simp [intOf]⟩
          by_cases e : j = 2
          · subst e
            intro he
            exact absurd (by rw [← toList_bl s] at he; rw [← he] at hh; exact absurd hh (by decide) : False) id
          · exact HT.out j (by omega)
      · go_wp2
        · go_ret
          rename_i hh hwt
          have HK := kind_at (k := 3) (l := bl s) (by omega) (by rw [← toList_bl s]; exact eq_of_beq hh)
          exact ⟨by rw [HK]; rfl, rfl⟩
        · rename_i hh
          refine ⟨⟨3 + 1, by omega, rfl, fun j hj => ?_⟩, by simp [intOf]⟩
          by_cases e : j = 3
          · subst e
            intro he
            exact absurd (by rw [← toList_bl s] at he; rw [← he] at hh; exact absurd hh (by decide) : False) id
          · exact HT.out j (by omega)
      · go_wp2
        · go_ret
          rename_i hh hwt
          have HK := kind_at (k := 4) (l := bl s) (by omega) (by rw [← toList_bl s]; exact eq_of_beq hh)
          exact ⟨by rw [HK]; rfl, rfl⟩
        · rename_i hh
          refine ⟨⟨4 + 1, by omega, rfl, fun j hj => ?_⟩, by simp [intOf]⟩
          by_cases e : j = 4
          · subst e
            intro he
            exact absurd (by rw [← toList_bl s] at he; rw [← he] at hh; exact absurd hh (by decide) : False) id
          · exact HT.out j (by omega)
      · go_wp2
        · go_ret
          rename_i hh hwt
          have HK := kind_at (k := 5) (l := bl s) (by omega) (by rw [← toList_bl s]; exact eq_of_beq hh)
          exact ⟨by rw [HK]; rfl, rfl⟩
        · rename_i hh
          refine ⟨⟨5 + 1, by omega, rfl, fun j hj => ?_⟩, by simp [intOf]⟩
          by_cases e : j = 5
          · subst e
            intro he
            exact absurd (by rw [← toList_bl s] at he; rw [← he] at hh; exact absurd hh (by decide) : False) id
          · exact HT.out j (by omega)
      · go_wp2
        · go_ret
          rename_i hh hwt
          have HK := kind_at (k := 6) (l := bl s) (by omega) (by rw [← toList_bl s]; exact eq_of_beq hh)
          exact ⟨by rw [HK]; rfl, rfl⟩
        · rename_i hh
          refine ⟨⟨6 + 1, by omega, rfl, fun j hj => ?_⟩, by simp [intOf]⟩
          by_cases e : j = 6
          · subst e
            intro he
            exact absurd (by rw [← toList_bl s] at he; rw [← he] at hh; exact absurd hh (by decide) : False) id
          · exact HT.out j (by omega)
    · obtain rfl : k = 7 := by omega
      have HS := Lib.hid (kind_none HT.out)
      go_wp2
      go_ret
      exact ⟨by rw [HS.out]; rfl, rfl⟩
theorem below_grow_drewN (w : World) (k : Nat) (os : Array Obj) : Below w.heap.size w (Go.Sort.grow (w.drewN k) os) :=
  ⟨rfl, rfl, rfl, by show w.heap.size ≤ (w.heap ++ os).size; rw [Array.size_append]; omega, fun j hj => by show (w.heap ++ os)[j]? = w.heap[j]?; exact Array.getElem?_append_left hj⟩
theorem showNumber_any (n : Int) (w : World) (h0 : -9223372036854775808 ≤ n) (h1 : n ≤ 9223372036854775807) (htab : Lib.TabBelow Tryd.prog w.heap.size w "internal/strconv.uint64pow10" .u64 Lib.pow10Tab) :
    Calls Tryd.prog 61 #[.int .i64 n] w fun e w' => e = .returned (.string ⟨(Lib.itoa n).toArray⟩) ∧ Below w.heap.size w w' := by
  go_enter Tryd.func61, Tryd.ntmps61
  go_wp2_with fail
  refine (Tryd.strconv_FormatInt_10 n h0 h1 w (htab w (Below.refl _ _))).mono ?_
  rintro e w1 ⟨rfl, k, os, hw1⟩
  have hb : Below w.heap.size w w1 := by rw [hw1]; exact below_grow_drewN w k os
  clear hw1
  go_wp2
  go_ret
  exact ⟨rfl, hb⟩
theorem word_bytes {k : Nat} (hk : k < 7) (J : List UInt8) : (sx wordsB k ++ (⟨#[32]⟩ : ByteArray)) ++ (⟨J.toArray⟩ : ByteArray) = ⟨(wordL k ++ 32 :: J).toArray⟩ := by
  refine bl_eta _ _ ?_
  rw [bl_append, bl_append, wordsB_at hk, bl_mk]
  simp [bl]
set_option maxRecDepth 100000 in
set_option maxHeartbeats 2000000 in
theorem deedText_any (k : Int) (h1 : 1 ≤ k) (h6 : k ≤ 6) (bk c : Nat) (xs : List ByteArray) (w : World) (hcells : ∀ (j : Nat) x, xs[j]? = some x → w.cell? ⟨bk, 0 + j, none⟩ = some (.string x)) (hbk : bk < w.heap.size) (hN : xs.length ≤ 2) (hcap : xs.length ≤ c)
    (hlen : (Lib.join (xs.map (·.data.toList)) [32]).length ≤ 1099511627776) (hW : WordsAt w) :
    Calls Tryd.prog 60 #[.int .i64 k, .slice (some ⟨bk, 0, none⟩) xs.length c] w fun e w' => e = .returned (.string ⟨(wordL k ++ 32 :: Lib.join (xs.map (·.data.toList)) [32]).toArray⟩) ∧ Below w.heap.size w w' := by
  have HC := Lib.hid hcells
  have HL := Lib.hid (show (Lib.join (xs.map (·.data.toList)) (bl ⟨#[32]⟩)).length ≤ 140737488355328 from Nat.le_trans hlen (by omega))
  obtain ⟨c0, c1, c2, c3, c4, c5, c6⟩ := hW.all
  have HLn := Lib.hid hlen
  clear hcells hlen
  obtain ⟨J, hJ⟩ : ∃ J, Lib.join (xs.map (·.data.toList)) [32] = J := ⟨_, rfl⟩
  have HE := Lib.hid (show ∀ k, k < 7 → (sx wordsB k ++ (⟨#[32]⟩ : ByteArray)) ++ (⟨(Lib.join (xs.map (·.data.toList)) (bl ⟨#[32]⟩)).toArray⟩ : ByteArray) = ⟨(wordL k ++ 32 :: J).toArray⟩ from fun k hk => by rw [← hJ]; exact word_bytes hk _)
  rw [hJ]
  clear hJ
  obtain ⟨Jb, hJb⟩ : ∃ Jb : ByteArray, (⟨(Lib.join (xs.map (·.data.toList)) (bl ⟨#[32]⟩)).toArray⟩ : ByteArray) = Jb := ⟨_, rfl⟩
  have hjs : Jb.size ≤ 1099511627776 := by rw [← hJb, ← bl_length, bl_mk]; exact HLn.out
  rw [hJb] at HE
  have HJB := Lib.hid hJb
  clear hJb
  obtain rfl | rfl | rfl | rfl | rfl | rfl : k = 1 ∨ k = 2 ∨ k = 3 ∨ k = 4 ∨ k = 5 ∨ k = 6 := by omega
  · go_enter Tryd.func60, Tryd.ntmps60
    go_wp2_with fail
    have hq4 : ¬ 9223372036854775807 < 4 + Jb.size := by omega
    have hq5 : ¬ 9223372036854775807 < 5 + Jb.size := by omega
    go_region_law (first | (go_simp; refine (Tryd.strings_Join bk 0 c xs ⟨#[32]⟩ _ (by exact HC.out) (by exact hbk) (by omega) hcap HL.out).mono ?_; rintro e w1 ⟨rfl, hb1⟩; have hk1 : w1.cell? ⟨0, 1, none⟩ = some (.string ⟨#[112, 117, 116]⟩) := (hb1.cell (cell_lt c1)).trans c1; rw [show (⟨(Lib.join (xs.map (·.data.toList)) (ByteArray.data ⟨#[32]⟩).toList).toArray⟩ : ByteArray) = Jb from HJB.out]))
    all_goals go_wp2
    all_goals go_ret
    all_goals exact ⟨congrArg (fun s => Ending.returned (.string s)) (HE.out 1 (by omega)), (bel_drewN (Below.refl _ _) _).trans hb1⟩
  · go_enter Tryd.func60, Tryd.ntmps60
    go_wp2_with fail
    have hq4 : ¬ 9223372036854775807 < 4 + Jb.size := by omega
    have hq5 : ¬ 9223372036854775807 < 5 + Jb.size := by omega
    go_region_law (first | (go_simp; refine (Tryd.strings_Join bk 0 c xs ⟨#[32]⟩ _ (by exact HC.out) (by exact hbk) (by omega) hcap HL.out).mono ?_; rintro e w1 ⟨rfl, hb1⟩; have hk1 : w1.cell? ⟨0, 2, none⟩ = some (.string ⟨#[99, 117, 116]⟩) := (hb1.cell (cell_lt c2)).trans c2; rw [show (⟨(Lib.join (xs.map (·.data.toList)) (ByteArray.data ⟨#[32]⟩).toList).toArray⟩ : ByteArray) = Jb from HJB.out]))
    all_goals go_wp2
    all_goals go_ret
    all_goals exact ⟨congrArg (fun s => Ending.returned (.string s)) (HE.out 2 (by omega)), (bel_drewN (Below.refl _ _) _).trans hb1⟩
  · go_enter Tryd.func60, Tryd.ntmps60
    go_wp2_with fail
    have hq4 : ¬ 9223372036854775807 < 4 + Jb.size := by omega
    have hq5 : ¬ 9223372036854775807 < 5 + Jb.size := by omega
    go_region_law (first | (go_simp; refine (Tryd.strings_Join bk 0 c xs ⟨#[32]⟩ _ (by exact HC.out) (by exact hbk) (by omega) hcap HL.out).mono ?_; rintro e w1 ⟨rfl, hb1⟩; have hk1 : w1.cell? ⟨0, 3, none⟩ = some (.string ⟨#[115, 101, 116]⟩) := (hb1.cell (cell_lt c3)).trans c3; rw [show (⟨(Lib.join (xs.map (·.data.toList)) (ByteArray.data ⟨#[32]⟩).toList).toArray⟩ : ByteArray) = Jb from HJB.out]))
    all_goals go_wp2
    all_goals go_ret
    all_goals exact ⟨congrArg (fun s => Ending.returned (.string s)) (HE.out 3 (by omega)), (bel_drewN (Below.refl _ _) _).trans hb1⟩
  · go_enter Tryd.func60, Tryd.ntmps60
    go_wp2_with fail
    have hq4 : ¬ 9223372036854775807 < 4 + Jb.size := by omega
    have hq5 : ¬ 9223372036854775807 < 5 + Jb.size := by omega
    go_region_law (first | (go_simp; refine (Tryd.strings_Join bk 0 c xs ⟨#[32]⟩ _ (by exact HC.out) (by exact hbk) (by omega) hcap HL.out).mono ?_; rintro e w1 ⟨rfl, hb1⟩; have hk1 : w1.cell? ⟨0, 4, none⟩ = some (.string ⟨#[109, 117, 115, 116]⟩) := (hb1.cell (cell_lt c4)).trans c4; rw [show (⟨(Lib.join (xs.map (·.data.toList)) (ByteArray.data ⟨#[32]⟩).toList).toArray⟩ : ByteArray) = Jb from HJB.out]))
    all_goals go_wp2
    all_goals go_ret
    all_goals exact ⟨congrArg (fun s => Ending.returned (.string s)) (HE.out 4 (by omega)), (bel_drewN (Below.refl _ _) _).trans hb1⟩
  · go_enter Tryd.func60, Tryd.ntmps60
    go_wp2_with fail
    have hq4 : ¬ 9223372036854775807 < 4 + Jb.size := by omega
    have hq5 : ¬ 9223372036854775807 < 5 + Jb.size := by omega
    go_region_law (first | (go_simp; refine (Tryd.strings_Join bk 0 c xs ⟨#[32]⟩ _ (by exact HC.out) (by exact hbk) (by omega) hcap HL.out).mono ?_; rintro e w1 ⟨rfl, hb1⟩; have hk1 : w1.cell? ⟨0, 5, none⟩ = some (.string ⟨#[109, 97, 107, 101]⟩) := (hb1.cell (cell_lt c5)).trans c5; rw [show (⟨(Lib.join (xs.map (·.data.toList)) (ByteArray.data ⟨#[32]⟩).toList).toArray⟩ : ByteArray) = Jb from HJB.out]))
    all_goals go_wp2
    all_goals go_ret
    all_goals exact ⟨congrArg (fun s => Ending.returned (.string s)) (HE.out 5 (by omega)), (bel_drewN (Below.refl _ _) _).trans hb1⟩
  · go_enter Tryd.func60, Tryd.ntmps60
    go_wp2_with fail
    have hq4 : ¬ 9223372036854775807 < 4 + Jb.size := by omega
    have hq5 : ¬ 9223372036854775807 < 5 + Jb.size := by omega
    go_region_law (first | (go_simp; refine (Tryd.strings_Join bk 0 c xs ⟨#[32]⟩ _ (by exact HC.out) (by exact hbk) (by omega) hcap HL.out).mono ?_; rintro e w1 ⟨rfl, hb1⟩; have hk1 : w1.cell? ⟨0, 6, none⟩ = some (.string ⟨#[100, 114, 111, 112]⟩) := (hb1.cell (cell_lt c6)).trans c6; rw [show (⟨(Lib.join (xs.map (·.data.toList)) (ByteArray.data ⟨#[32]⟩).toList).toArray⟩ : ByteArray) = Jb from HJB.out]))
    all_goals go_wp2
    all_goals go_ret
    all_goals exact ⟨congrArg (fun s => Ending.returned (.string s)) (HE.out 6 (by omega)), (bel_drewN (Below.refl _ _) _).trans hb1⟩
end Go.Proofs.YtkjpaafmolikoabDoor
