/- Contracts of l1Split, and of ReadRow, the model's and the program's: both read a row alike. For texts of at most 2^30 bytes; the program's reads variables of the library's, which lie as its text lays them. -/
import Derived.Test.YtdpokfjempdchaaGreatDoorRead1
namespace Go.Proofs.YtdpokfjempdchaaGreatDoor
open Go.RowKit

def SplSt (c : UInt8) (l : List UInt8) (k f : Nat) (W : List (List UInt8)) : Prop :=
  (k ≤ l.length ∧ f ≤ k ∧ spl c l = W ++ spl c (l.drop f) ∧ c ∉ (l.drop f).take (k - f)) ∨ (k = l.length + 1 ∧ spl c l = W)
theorem splSt_end {c : UInt8} {l : List UInt8} {f : Nat} {W : List (List UInt8)} (h : SplSt c l l.length f W) : SplSt c l (l.length + 1) (l.length + 1) (W ++ [(l.drop f).take (l.length - f)]) := by
  rcases h with ⟨_, hf, h1, h2⟩ | ⟨h, _⟩
  · refine .inr ⟨rfl, ?_⟩
    have e : (l.drop f).take (l.length - f) = l.drop f := List.take_of_length_le (by rw [List.length_drop]; exact Nat.le_refl _)
    rw [e] at h2 ⊢
    rw [h1, spl_whole c _ h2]
  · omega
theorem splSt_cut {c : UInt8} {l : List UInt8} {k f : Nat} {W : List (List UInt8)} (h : SplSt c l k f W) (hk : l[k]? = some c) : SplSt c l (k + 1) (k + 1) (W ++ [(l.drop f).take (k - f)]) := by
  have hlt : k < l.length := (List.getElem?_eq_some_iff.1 hk).1
  rcases h with ⟨_, hf, h1, h2⟩ | ⟨h, _⟩
  · refine .inl ⟨by omega, Nat.le_refl _, ?_, by simp⟩
    have e : l.drop f = (l.drop f).take (k - f) ++ c :: l.drop (k + 1) := by
      have h3 : (l.drop f).drop (k - f) = c :: l.drop (k + 1) := by
        rw [List.drop_drop, show f + (k - f) = k by omega, List.drop_eq_getElem_cons hlt]
        congr 1
        rw [List.getElem?_eq_getElem hlt] at hk
        exact Option.some.inj hk
      rw [← h3, List.take_append_drop]
    rw [h1, e, spl_cut c _ _ h2, ← e, List.append_assoc]; rfl
  · omega
theorem splSt_on {c : UInt8} {l : List UInt8} {k f : Nat} {W : List (List UInt8)} (h : SplSt c l k f W) (hlt : k < l.length) (hk : l[k]? ≠ some c) : SplSt c l (k + 1) f W := by
  rcases h with ⟨_, hf, h1, h2⟩ | ⟨h, _⟩
  · refine .inl ⟨by omega, by omega, h1, ?_⟩
    have hl : k - f < (l.drop f).length := by rw [List.length_drop]; omega
    rw [show k + 1 - f = (k - f) + 1 by omega, List.take_succ_eq_append_getElem hl]
    intro hm
    rcases List.mem_append.1 hm with hm | hm
    · exact h2 hm
    · apply hk
      have e : (l.drop f)[k - f]? = l[k]? := by rw [List.getElem?_drop, show f + (k - f) = k by omega]
      rw [List.getElem?_eq_getElem hl] at e
      rw [← e, List.mem_singleton.1 hm]
  · omega
theorem splSt_le {c : UInt8} {l : List UInt8} {k f : Nat} {W : List (List UInt8)} (h : SplSt c l k f W) : W.length ≤ l.length + 1 := by
  have h3 := spl_length c l
  have h4 : l.count c ≤ l.length := List.count_le_length
  rcases h with ⟨_, _, h1, _⟩ | ⟨_, h1⟩
  · rw [h1] at h3; simp at h3; omega
  · rw [h1] at h3; omega
theorem splSt_f {c : UInt8} {l : List UInt8} {k f : Nat} {W : List (List UInt8)} (h : SplSt c l k f W) (hk : k ≤ l.length) : f ≤ k := by
  rcases h with ⟨_, hf, _⟩ | ⟨h, _⟩
  · exact hf
  · omega

set_option maxRecDepth 100000 in
set_option maxHeartbeats 2000000 in
theorem l1Split_any (s : ByteArray) (c : UInt8) (w : World) (hs : s.size ≤ 1073741824) :
    Calls Tryz.prog 31 #[.string s, .int .u8 c.toNat] w fun e w' => ∃ v ts, e = .returned v ∧ ts.map bl = spl c (bl s) ∧ w'.ownsRow w.heap.size 9 1 v ts.length (strl ts) ∧ Below w.heap.size w w' := by
  obtain ⟨i0, hi0, hz0, hz1, hz2⟩ := info_parts info_str
  have hbl := bl_length s
  have HBL := Lib.hid hbl
  clear hbl
  have hB0 : Below w.heap.size w (w.alloc (.cells #[] 9)) := (Below.refl _ _).alloc (Nat.le_refl _) _
  go_enter Tryz.func31, Tryz.ntmps31
  go_wp2
  go_loopw [5, 6, 7] (fun v fr i wr => ∃ (k f : Nat) (ts : List ByteArray), k ≤ s.size + 1 ∧ f ≤ s.size + 1 ∧ i = .int .i64 k ∧ fr = .int .i64 f ∧ SplSt c (bl s) k f (ts.map bl) ∧ wr.ownsRow w.heap.size 9 1 v ts.length (strl ts) ∧ Below w.heap.size w wr) (fun _ _ i _ => s.size + 1 - (intOf i).toNat)
  case atStart => exact ⟨0, 0, [], by omega, by omega, rfl, rfl, .inl ⟨Nat.zero_le _, Nat.le_refl _, by simp, by simp⟩, by simpa [strl] using (World.ownsRow_made w #[] 0 (Nat.le_refl _) (Nat.zero_le _) rfl : (w.alloc (.cells #[] 9)).ownsRow w.heap.size 9 1 (.slice (some ⟨w.heap.size, 0, none⟩) 0 0) 0 []), hB0⟩
  case round =>
    obtain ⟨k, f, ts, hk, hf, rfl, rfl, hst, hown, hbel⟩ := hrel
    have hle : ts.length ≤ s.size + 1 := by have := splSt_le hst; rw [HBL.out] at this; simpa using this
    have HST := Lib.hid hst
    clear hst
    by_cases hend : k ≤ s.size
    · have hfk : f ≤ k := splSt_f HST.out (by rw [HBL.out]; exact hend)
      by_cases hl : k = s.size
      · subst hl
        have hx := Lib.hid (splSt_end (by rw [HBL.out]; exact HST.out) : SplSt c (bl s) _ _ _)
        go_wp2_with (at_builtin; refine wpList_append_own _ rfl _ _ 42 rfl w.heap.size 9 i0 (.string ⟨#[]⟩) 1 16 Tryz.underlying42 hi0 hz0 hz1 hz2 rfl (by decide) _ _ _ rfl (hown.alloc _) ⟨wr.heap.size, 0, none⟩ 1 1 [.string (s.extract f s.size)] rfl rfl (cell_one_new _ _ _) (by simp [Value.oneCell']) (by simp only [maxLen]; omega) (by omega) (by have := hbel.size; simp; omega) ?_; intro v' w2 hown2 hgrow2 _)
        have hb2 : Below w.heap.size w w2 := (hbel.alloc hbel.size _).grown hgrow2 (by have := hbel.size; simp; omega) (fun g hg => (hown.lt g hg).1)
        clear hgrow2 hown
        go_roundw
        case rel => exact ⟨s.size + 1, s.size + 1, ts ++ [s.extract f s.size], by omega, by omega, by go_num, by go_num, by have := hx.out; rw [HBL.out] at this; rw [List.map_append]; have e := piece_bl s f s.size; unfold piece at e; simp only [List.map_cons, List.map_nil, e]; exact this, by simpa [strl] using hown2, hb2⟩
        case measure => simp [intOf]
      · have hlt : k < s.size := by omega
        have hb1 : ((k : Int) == (s.size : Int)) = false := by rw [beq_eq_false_iff_ne]; omega
        have hget := Lib.hid (bl_get s k hlt)
        by_cases hc : s[k] = c
        · have hb2 : ((s[k].toNat : Int) == (c.toNat : Int)) = true := by rw [hc]; simp
          have hx := Lib.hid (splSt_cut HST.out (by rw [hget.out, hc]))
          clear hc
          go_wp2_with (at_builtin; refine wpList_append_own _ rfl _ _ 42 rfl w.heap.size 9 i0 (.string ⟨#[]⟩) 1 16 Tryz.underlying42 hi0 hz0 hz1 hz2 rfl (by decide) _ _ _ rfl (hown.alloc _) ⟨wr.heap.size, 0, none⟩ 1 1 [.string (s.extract f k)] rfl rfl (cell_one_new _ _ _) (by simp [Value.oneCell']) (by simp only [maxLen]; omega) (by omega) (by have := hbel.size; simp; omega) ?_; intro v' w2 hown2 hgrow2 _)
          have hbb : Below w.heap.size w w2 := (hbel.alloc hbel.size _).grown hgrow2 (by have := hbel.size; simp; omega) (fun g hg => (hown.lt g hg).1)
          clear hgrow2 hown
          go_roundw
          case rel => exact ⟨k + 1, k + 1, ts ++ [s.extract f k], by omega, by omega, by go_num, by go_num, by have := hx.out; rw [List.map_append]; have e := piece_bl s f k; unfold piece at e; simp only [List.map_cons, List.map_nil, e]; exact this, by simpa [strl] using hown2, hbb⟩
          case measure => simp [intOf]; omega
        · have hb2 : ((s[k].toNat : Int) == (c.toNat : Int)) = false := by rw [beq_eq_false_iff_ne]; intro e; apply hc; exact UInt8.toNat_inj.1 (by omega)
          have hx := Lib.hid (splSt_on HST.out (by rw [HBL.out]; exact hlt) (by rw [hget.out]; intro e; exact hc (Option.some.inj e)))
          clear hc
          go_wp2
          go_roundw
          case rel => exact ⟨k + 1, f, ts, by omega, by omega, by go_num, rfl, hx.out, hown, hbel⟩
          case measure => simp [intOf]; omega
    · have hx : spl c (bl s) = ts.map bl := by
        rcases HST.out with ⟨h1, _⟩ | ⟨_, h1⟩
        · rw [HBL.out] at h1; omega
        · exact h1
      have HX := Lib.hid hx
      clear hx
      go_wp2
      go_ret
      exact ⟨_, ts, rfl, HX.out.symm, hown, hbel⟩
end Go.Proofs.YtdpokfjempdchaaGreatDoor
