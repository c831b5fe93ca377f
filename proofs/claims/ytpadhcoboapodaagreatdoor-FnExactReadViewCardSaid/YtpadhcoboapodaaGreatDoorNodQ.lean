/- Which kind of node a word names: the program's nodeKindOf; the variable lies as the text lays it. -/
import Derived.Test.YtpadhcoboapodaaGreatDoorNodK
import Derived.Deep.MidRow
namespace Go.Proofs.YtpadhcoboapodaaGreatDoor
open Go.RowKit Go.Deep

def formsV : List Value := [.string ⟨#[]⟩, .int .i64 0, .int .i64 0, .int .i64 0, .string ⟨#[116, 97, 98, 108, 101]⟩, .int .i64 0, .int .i64 0, .int .i64 0, .string ⟨#[119, 104, 101, 114, 101]⟩, .int .i64 1, .int .i64 0, .int .i64 0, .string ⟨#[107, 101, 101, 112]⟩, .int .i64 1, .int .i64 1, .int .i64 6, .string ⟨#[106, 111, 105, 110]⟩, .int .i64 2, .int .i64 2, .int .i64 2, .string ⟨#[98, 111, 116, 104]⟩, .int .i64 2, .int .i64 0, .int .i64 0, .string ⟨#[111, 110, 99, 101]⟩, .int .i64 1, .int .i64 0, .int .i64 0, .string ⟨#[103, 114, 111, 117, 112]⟩, .int .i64 1, .int .i64 0, .int .i64 3]
set_option maxRecDepth 100000 in
theorem forms_range (w : World) (hF : FormsAt w) : w.rangeAt 0 0 formsV := by
  intro j v h
  have hj : j < 32 := by
    have := List.getElem?_eq_some_iff.1 h
    exact this.1
  obtain rfl | rfl | rfl | rfl | rfl | rfl | rfl | rfl | rfl | rfl | rfl | rfl | rfl | rfl | rfl | rfl | rfl | rfl | rfl | rfl | rfl | rfl | rfl | rfl | rfl | rfl | rfl | rfl | rfl | rfl | rfl | rfl : j = 0 ∨ j = 1 ∨ j = 2 ∨ j = 3 ∨ j = 4 ∨ j = 5 ∨ j = 6 ∨ j = 7 ∨ j = 8 ∨ j = 9 ∨ j = 10 ∨ j = 11 ∨ j = 12 ∨ j = 13 ∨ j = 14 ∨ j = 15 ∨ j = 16 ∨ j = 17 ∨ j = 18 ∨ j = 19 ∨ j = 20 ∨ j = 21 ∨ j = 22 ∨ j = 23 ∨ j = 24 ∨ j = 25 ∨ j = 26 ∨ j = 27 ∨ j = 28 ∨ j = 29 ∨ j = 30 ∨ j = 31 := by omega
  · have h2 : some (.string ⟨#[]⟩ : Value) = some v := h
    cases h2
    exact (hF 0 (by omega)).1
  · have h2 : some (.int .i64 0 : Value) = some v := h
    cases h2
    exact (hF 0 (by omega)).2.1
  · have h2 : some (.int .i64 0 : Value) = some v := h
    cases h2
    exact (hF 0 (by omega)).2.2.1
  · have h2 : some (.int .i64 0 : Value) = some v := h
    cases h2
    exact (hF 0 (by omega)).2.2.2
  · have h2 : some (.string ⟨#[116, 97, 98, 108, 101]⟩ : Value) = some v := h
    cases h2
    exact (hF 1 (by omega)).1
  · have h2 : some (.int .i64 0 : Value) = some v := h
    cases h2
    exact (hF 1 (by omega)).2.1
  · have h2 : some (.int .i64 0 : Value) = some v := h
    cases h2
    exact (hF 1 (by omega)).2.2.1
  · have h2 : some (.int .i64 0 : Value) = some v := h
    cases h2
    exact (hF 1 (by omega)).2.2.2
  · have h2 : some (.string ⟨#[119, 104, 101, 114, 101]⟩ : Value) = some v := h
    cases h2
    exact (hF 2 (by omega)).1
  · have h2 : some (.int .i64 1 : Value) = some v := h
    cases h2
    exact (hF 2 (by omega)).2.1
  · have h2 : some (.int .i64 0 : Value) = some v := h
    cases h2
    exact (hF 2 (by omega)).2.2.1
  · have h2 : some (.int .i64 0 : Value) = some v := h
    cases h2
    exact (hF 2 (by omega)).2.2.2
  · have h2 : some (.string ⟨#[107, 101, 101, 112]⟩ : Value) = some v := h
    cases h2
    exact (hF 3 (by omega)).1
  · have h2 : some (.int .i64 1 : Value) = some v := h
    cases h2
    exact (hF 3 (by omega)).2.1
  · have h2 : some (.int .i64 1 : Value) = some v := h
    cases h2
    exact (hF 3 (by omega)).2.2.1
  · have h2 : some (.int .i64 6 : Value) = some v := h
    cases h2
    exact (hF 3 (by omega)).2.2.2
  · have h2 : some (.string ⟨#[106, 111, 105, 110]⟩ : Value) = some v := h
    cases h2
    exact (hF 4 (by omega)).1
  · have h2 : some (.int .i64 2 : Value) = some v := h
    cases h2
    exact (hF 4 (by omega)).2.1
  · have h2 : some (.int .i64 2 : Value) = some v := h
    cases h2
    exact (hF 4 (by omega)).2.2.1
  · have h2 : some (.int .i64 2 : Value) = some v := h
    cases h2
    exact (hF 4 (by omega)).2.2.2
  · have h2 : some (.string ⟨#[98, 111, 116, 104]⟩ : Value) = some v := h
    cases h2
    exact (hF 5 (by omega)).1
  · have h2 : some (.int .i64 2 : Value) = some v := h
    cases h2
    exact (hF 5 (by omega)).2.1
  · have h2 : some (.int .i64 0 : Value) = some v := h
    cases h2
    exact (hF 5 (by omega)).2.2.1
  · have h2 : some (.int .i64 0 : Value) = some v := h
    cases h2
    exact (hF 5 (by omega)).2.2.2
  · have h2 : some (.string ⟨#[111, 110, 99, 101]⟩ : Value) = some v := h
    cases h2
    exact (hF 6 (by omega)).1
  · have h2 : some (.int .i64 1 : Value) = some v := h
    cases h2
    exact (hF 6 (by omega)).2.1
  · have h2 : some (.int .i64 0 : Value) = some v := h
    cases h2
    exact (hF 6 (by omega)).2.2.1
  · have h2 : some (.int .i64 0 : Value) = some v := h
    cases h2
    exact (hF 6 (by omega)).2.2.2
  · have h2 : some (.string ⟨#[103, 114, 111, 117, 112]⟩ : Value) = some v := h
    cases h2
    exact (hF 7 (by omega)).1
  · have h2 : some (.int .i64 1 : Value) = some v := h
    cases h2
    exact (hF 7 (by omega)).2.1
  · have h2 : some (.int .i64 0 : Value) = some v := h
    cases h2
    exact (hF 7 (by omega)).2.2.1
  · have h2 : some (.int .i64 3 : Value) = some v := h
    cases h2
    exact (hF 7 (by omega)).2.2.2
theorem forms_at0 (w : World) : (Instr.index 72 (.agg formsV.toArray) (.int .i64 0)).run Tryz.prog w = .ok (.agg #[.string ⟨#[]⟩, .int .i64 0, .int .i64 0, .int .i64 0]) w := by kernel_rfl
theorem forms_at1 (w : World) : (Instr.index 72 (.agg formsV.toArray) (.int .i64 1)).run Tryz.prog w = .ok (.agg #[.string ⟨#[116, 97, 98, 108, 101]⟩, .int .i64 0, .int .i64 0, .int .i64 0]) w := by kernel_rfl
theorem forms_at2 (w : World) : (Instr.index 72 (.agg formsV.toArray) (.int .i64 2)).run Tryz.prog w = .ok (.agg #[.string ⟨#[119, 104, 101, 114, 101]⟩, .int .i64 1, .int .i64 0, .int .i64 0]) w := by kernel_rfl
theorem forms_at3 (w : World) : (Instr.index 72 (.agg formsV.toArray) (.int .i64 3)).run Tryz.prog w = .ok (.agg #[.string ⟨#[107, 101, 101, 112]⟩, .int .i64 1, .int .i64 1, .int .i64 6]) w := by kernel_rfl
theorem forms_at4 (w : World) : (Instr.index 72 (.agg formsV.toArray) (.int .i64 4)).run Tryz.prog w = .ok (.agg #[.string ⟨#[106, 111, 105, 110]⟩, .int .i64 2, .int .i64 2, .int .i64 2]) w := by kernel_rfl
theorem forms_at5 (w : World) : (Instr.index 72 (.agg formsV.toArray) (.int .i64 5)).run Tryz.prog w = .ok (.agg #[.string ⟨#[98, 111, 116, 104]⟩, .int .i64 2, .int .i64 0, .int .i64 0]) w := by kernel_rfl
theorem forms_at6 (w : World) : (Instr.index 72 (.agg formsV.toArray) (.int .i64 6)).run Tryz.prog w = .ok (.agg #[.string ⟨#[111, 110, 99, 101]⟩, .int .i64 1, .int .i64 0, .int .i64 0]) w := by kernel_rfl
theorem forms_at7 (w : World) : (Instr.index 72 (.agg formsV.toArray) (.int .i64 7)).run Tryz.prog w = .ok (.agg #[.string ⟨#[103, 114, 111, 117, 112]⟩, .int .i64 1, .int .i64 0, .int .i64 3]) w := by kernel_rfl
theorem kindW_none {l : List UInt8} (h : ∀ k, k < 8 → l ≠ bl (wnx k)) : kindW l = 0 := by
  unfold kindW
  rw [if_neg (h 1 (by omega)), if_neg (h 2 (by omega)), if_neg (h 3 (by omega)), if_neg (h 4 (by omega)), if_neg (h 5 (by omega)), if_neg (h 6 (by omega)), if_neg (h 7 (by omega))]
set_option maxRecDepth 100000 in
set_option maxHeartbeats 1500000 in
theorem nodeKindOf_any (s : ByteArray) (w : World) (hF : FormsAt w) :
    Calls Tryz.prog 27 #[.string s] w fun e w' => e = .returned (.int .i64 (kindW (bl s))) ∧ Below w.heap.size w w' := by
  obtain ⟨R, hR⟩ : ∃ R : Nat, kindW (bl s) = R := ⟨_, rfl⟩
  have HR := Lib.hid hR
  rw [hR]
  clear hR
  have hld := forms_range w hF
  have i0 := forms_at0
  have i1 := forms_at1
  have i2 := forms_at2
  have i3 := forms_at3
  have i4 := forms_at4
  have i5 := forms_at5
  have i6 := forms_at6
  have i7 := forms_at7
  clear hF
  go_enter Tryz.func27, Tryz.ntmps27
  go_wp2_with (refine wpList_load_mid (by rfl) 72 _ (by rfl) 0 0 (by rfl) formsV _ hld Tryz.underlying72 rfl (by kernel_rfl) ?_; generalize (Value.agg formsV.toArray) = V at *)
  clear hld
  go_loopw [6] (fun i wr => ∃ k : Nat, k ≤ 8 ∧ i = .int .i64 k ∧ (∀ j, j < k → bl s ≠ bl (wnx j)) ∧ Below w.heap.size w wr) (fun i _ => 8 - (intOf i).toNat)
  case atStart => exact ⟨0, Nat.zero_le _, rfl, (fun j hj => absurd hj (by omega)), Below.refl _ _⟩
  case round =>
    obtain ⟨k, hk, rfl, ht, hW⟩ := hrel
    have HT := Lib.hid ht
    clear ht
    by_cases hlt : k < 8
    · obtain rfl | rfl | rfl | rfl | rfl | rfl | rfl | rfl : k = 0 ∨ k = 1 ∨ k = 2 ∨ k = 3 ∨ k = 4 ∨ k = 5 ∨ k = 6 ∨ k = 7 := by omega
      · as_aux_lemma =>
        have hb2 := (hW.alloc hW.size (.cells #[.string ⟨#[]⟩, .int .i64 0, .int .i64 0, .int .i64 0] 71))
        by_cases hy : bl s = bl (wnx 0)
        · have HD := Lib.hid (show R = 0 by rw [← HR.out, hy]; decide)
          have hbe : s.toList.isEmpty = true := by rw [toList_bl, hy]; decide
          clear hy
          go_wp2
          go_ret
          exact ⟨by rw [HD.out]; rfl, hb2⟩
        · have HN := Lib.hid (show ∀ j, j < 0 + 1 → bl s ≠ bl (wnx j) from fun j hj => by
            by_cases e : j = 0
            · subst e; exact hy
            · exact HT.out j (by omega))
          have hbe : s.toList.isEmpty = false := by rw [toList_bl]; cases h : bl s with | nil => exact absurd (by rw [h]; rfl) hy | cons a r => rfl
          clear hy
          go_wp2
          go_roundw
          case rel => exact ⟨0 + 1, by omega, by go_num, HN.out, hb2⟩
          case measure => simp [intOf]
      · as_aux_lemma =>
        have hb2 := (hW.alloc hW.size (.cells #[.string ⟨#[116, 97, 98, 108, 101]⟩, .int .i64 0, .int .i64 0, .int .i64 0] 71))
        by_cases hy : bl s = bl (wnx 1)
        · have HD := Lib.hid (show R = 1 by rw [← HR.out, hy]; decide)
          have hbe : (([116, 97, 98, 108, 101] : List UInt8) == s.toList) = true := by rw [toList_bl, hy]; decide
          clear hy
          go_wp2
          go_ret
          exact ⟨by rw [HD.out]; rfl, hb2⟩
        · have HN := Lib.hid (show ∀ j, j < 1 + 1 → bl s ≠ bl (wnx j) from fun j hj => by
            by_cases e : j = 1
            · subst e; exact hy
            · exact HT.out j (by omega))
          have hbe : (([116, 97, 98, 108, 101] : List UInt8) == s.toList) = false := by rw [toList_bl]; exact beq_eq_false_iff_ne.2 (fun e => hy (by rw [← e]; rfl))
          clear hy
          go_wp2
          go_roundw
          case rel => exact ⟨1 + 1, by omega, by go_num, HN.out, hb2⟩
          case measure => simp [intOf]
      · as_aux_lemma =>
        have hb2 := (hW.alloc hW.size (.cells #[.string ⟨#[119, 104, 101, 114, 101]⟩, .int .i64 1, .int .i64 0, .int .i64 0] 71))
        by_cases hy : bl s = bl (wnx 2)
        · have HD := Lib.hid (show R = 2 by rw [← HR.out, hy]; decide)
          have hbe : (([119, 104, 101, 114, 101] : List UInt8) == s.toList) = true := by rw [toList_bl, hy]; decide
          clear hy
          go_wp2
          go_ret
          exact ⟨by rw [HD.out]; rfl, hb2⟩
        · have HN := Lib.hid (show ∀ j, j < 2 + 1 → bl s ≠ bl (wnx j) from fun j hj => by
            by_cases e : j = 2
            · subst e; exact hy
            · exact HT.out j (by omega))
          have hbe : (([119, 104, 101, 114, 101] : List UInt8) == s.toList) = false := by rw [toList_bl]; exact beq_eq_false_iff_ne.2 (fun e => hy (by rw [← e]; rfl))
          clear hy
          go_wp2
          go_roundw
          case rel => exact ⟨2 + 1, by omega, by go_num, HN.out, hb2⟩
          case measure => simp [intOf]
      · as_aux_lemma =>
        have hb2 := (hW.alloc hW.size (.cells #[.string ⟨#[107, 101, 101, 112]⟩, .int .i64 1, .int .i64 1, .int .i64 6] 71))
        by_cases hy : bl s = bl (wnx 3)
        · have HD := Lib.hid (show R = 3 by rw [← HR.out, hy]; decide)
          have hbe : (([107, 101, 101, 112] : List UInt8) == s.toList) = true := by rw [toList_bl, hy]; decide
          clear hy
          go_wp2
          go_ret
          exact ⟨by rw [HD.out]; rfl, hb2⟩
        · have HN := Lib.hid (show ∀ j, j < 3 + 1 → bl s ≠ bl (wnx j) from fun j hj => by
            by_cases e : j = 3
            · subst e; exact hy
            · exact HT.out j (by omega))
          have hbe : (([107, 101, 101, 112] : List UInt8) == s.toList) = false := by rw [toList_bl]; exact beq_eq_false_iff_ne.2 (fun e => hy (by rw [← e]; rfl))
          clear hy
          go_wp2
          go_roundw
          case rel => exact ⟨3 + 1, by omega, by go_num, HN.out, hb2⟩
          case measure => simp [intOf]
      · as_aux_lemma =>
        have hb2 := (hW.alloc hW.size (.cells #[.string ⟨#[106, 111, 105, 110]⟩, .int .i64 2, .int .i64 2, .int .i64 2] 71))
        by_cases hy : bl s = bl (wnx 4)
        · have HD := Lib.hid (show R = 4 by rw [← HR.out, hy]; decide)
          have hbe : (([106, 111, 105, 110] : List UInt8) == s.toList) = true := by rw [toList_bl, hy]; decide
          clear hy
          go_wp2
          go_ret
          exact ⟨by rw [HD.out]; rfl, hb2⟩
        · have HN := Lib.hid (show ∀ j, j < 4 + 1 → bl s ≠ bl (wnx j) from fun j hj => by
            by_cases e : j = 4
            · subst e; exact hy
            · exact HT.out j (by omega))
          have hbe : (([106, 111, 105, 110] : List UInt8) == s.toList) = false := by rw [toList_bl]; exact beq_eq_false_iff_ne.2 (fun e => hy (by rw [← e]; rfl))
          clear hy
          go_wp2
          go_roundw
          case rel => exact ⟨4 + 1, by omega, by go_num, HN.out, hb2⟩
          case measure => simp [intOf]
      · as_aux_lemma =>
        have hb2 := (hW.alloc hW.size (.cells #[.string ⟨#[98, 111, 116, 104]⟩, .int .i64 2, .int .i64 0, .int .i64 0] 71))
        by_cases hy : bl s = bl (wnx 5)
        · have HD := Lib.hid (show R = 5 by rw [← HR.out, hy]; decide)
          have hbe : (([98, 111, 116, 104] : List UInt8) == s.toList) = true := by rw [toList_bl, hy]; decide
          clear hy
          go_wp2
          go_ret
          exact ⟨by rw [HD.out]; rfl, hb2⟩
        · have HN := Lib.hid (show ∀ j, j < 5 + 1 → bl s ≠ bl (wnx j) from fun j hj => by
            by_cases e : j = 5
            · subst e; exact hy
            · exact HT.out j (by omega))
          have hbe : (([98, 111, 116, 104] : List UInt8) == s.toList) = false := by rw [toList_bl]; exact beq_eq_false_iff_ne.2 (fun e => hy (by rw [← e]; rfl))
          clear hy
          go_wp2
          go_roundw
          case rel => exact ⟨5 + 1, by omega, by go_num, HN.out, hb2⟩
          case measure => simp [intOf]
      · as_aux_lemma =>
        have hb2 := (hW.alloc hW.size (.cells #[.string ⟨#[111, 110, 99, 101]⟩, .int .i64 1, .int .i64 0, .int .i64 0] 71))
        by_cases hy : bl s = bl (wnx 6)
        · have HD := Lib.hid (show R = 6 by rw [← HR.out, hy]; decide)
          have hbe : (([111, 110, 99, 101] : List UInt8) == s.toList) = true := by rw [toList_bl, hy]; decide
          clear hy
          go_wp2
          go_ret
          exact ⟨by rw [HD.out]; rfl, hb2⟩
        · have HN := Lib.hid (show ∀ j, j < 6 + 1 → bl s ≠ bl (wnx j) from fun j hj => by
            by_cases e : j = 6
            · subst e; exact hy
            · exact HT.out j (by omega))
          have hbe : (([111, 110, 99, 101] : List UInt8) == s.toList) = false := by rw [toList_bl]; exact beq_eq_false_iff_ne.2 (fun e => hy (by rw [← e]; rfl))
          clear hy
          go_wp2
          go_roundw
          case rel => exact ⟨6 + 1, by omega, by go_num, HN.out, hb2⟩
          case measure => simp [intOf]
      · as_aux_lemma =>
        have hb2 := (hW.alloc hW.size (.cells #[.string ⟨#[103, 114, 111, 117, 112]⟩, .int .i64 1, .int .i64 0, .int .i64 3] 71))
        by_cases hy : bl s = bl (wnx 7)
        · have HD := Lib.hid (show R = 7 by rw [← HR.out, hy]; decide)
          have hbe : (([103, 114, 111, 117, 112] : List UInt8) == s.toList) = true := by rw [toList_bl, hy]; decide
          clear hy
          go_wp2
          go_ret
          exact ⟨by rw [HD.out]; rfl, hb2⟩
        · have HN := Lib.hid (show ∀ j, j < 7 + 1 → bl s ≠ bl (wnx j) from fun j hj => by
            by_cases e : j = 7
            · subst e; exact hy
            · exact HT.out j (by omega))
          have hbe : (([103, 114, 111, 117, 112] : List UInt8) == s.toList) = false := by rw [toList_bl]; exact beq_eq_false_iff_ne.2 (fun e => hy (by rw [← e]; rfl))
          clear hy
          go_wp2
          go_roundw
          case rel => exact ⟨7 + 1, by omega, by go_num, HN.out, hb2⟩
          case measure => simp [intOf]
    · obtain rfl : k = 8 := by omega
      have HD := Lib.hid (show R = 0 by rw [← HR.out]; exact kindW_none HT.out)
      go_wp2
      go_ret
      exact ⟨by rw [HD.out]; rfl, hW⟩
end Go.Proofs.YtpadhcoboapodaaGreatDoor
