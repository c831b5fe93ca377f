/- The walk of laws.FnExactReadBatch: it returns true, and nothing that lay has turned. The variables lie as the text lays them. -/
import Derived.Test.YtkjpaafmolikoabDoorBatB
namespace Go.Proofs.YtkjpaafmolikoabDoor
open Go.RowKit

theorem readB_len (s : List UInt8) : (readB s).1.length ≤ 8 := by
  unfold readB
  split
  · simp
  · split
    · rename_i h
      unfold batB at h
      rw [Bool.and_eq_true] at h
      have := of_decide_eq_true h.1
      simpa using this
    · simp
set_option maxRecDepth 100000 in
set_option maxHeartbeats 8000000 in
theorem walkFnExactReadBatch (s : ByteArray) (w : World) (w0 : s.size ≤ maxLen) (hL : LaidAll w) (hWd : WordsAt w) :
    Calls Tryd.prog 6 #[.string s] w fun e w' => e = .returned (.bool true) ∧ Below w.heap.size w w' := by
  unfold maxLen at w0
  by_cases hbig : 1048576 < s.size
  · have hb : decide ((1048576 : Int) < (s.size : Int)) = true := by simp; omega
    go_enter Tryd.func6, Tryd.ntmps6
    go_wp2
    go_ret
    exact ⟨rfl, Below.refl _ _⟩
  have hb : decide ((1048576 : Int) < (s.size : Int)) = false := by simp; omega
  have hzl := readB_len (bl s)
  have HSP := Lib.hid (show ∀ W, Calls Tryd.prog 32 #[.string s] W (BatAns (readB (bl s)) W) from fun W => specReadBatch_any s W (by omega))
  have HIM := Lib.hid (show ∀ W, Below w.heap.size w W → Calls Tryd.prog 33 #[.string s] W (BatOwn (readB (bl s)) W) from fun W h => implReadBatch_any s W (by omega) (hL.on h) (hWd.on h))
  clear hbig w0 hL hWd
  generalize readB (bl s) = p at *
  obtain ⟨ds, ok⟩ := p
  simp only at hzl
  have hok : (ok != ok) = false := by simp
  go_enter Tryd.func6, Tryd.ntmps6
  go_wp2_with fail
  refine (HSP.out w).mono ?_
  rintro e w1 ⟨Aw, cw, rfl, DW, hW⟩
  dsimp only at DW ⊢
  have hs1 : w.heap.size ≤ w1.heap.size := hW.size
  go_wp2_with fail
  refine (HIM.out w1 hW).mono ?_
  rintro e w2 ⟨Ag, cg, es, rfl, hes, OG, h6, hb2⟩
  dsimp only at hes ⊢
  have hel : es.length = ds.length := by rw [← hes, List.length_map]
  have HES := Lib.hid hes
  have HEL := Lib.hid hel
  have H6 := Lib.hid h6
  have hlo : w1.heap.size ≤ w2.heap.size := hb2.size
  have hDG := OG.deeds hes h6
  have DW2 := DW.below hb2
  have DW2s := DW2.more hlo
  replace hW := bel_step hW hb2
  clear hes hel h6 hb2 DW
  go_wp2_with fail
  refine (eqDeedS_same Ag Aw cg cw ds w2 hDG DW2s (by omega)).mono ?_
  rintro e w3 ⟨rfl, hb3⟩
  replace hW := bel_step hW hb3
  have OG3 := OG.on hb3
  have DW3 := DW2.below (hb3.mono hlo)
  have hlo3 : w1.heap.size ≤ w3.heap.size := Nat.le_trans hlo hb3.size
  clear hb3 hDG DW2 DW2s OG
  obtain ⟨M, hM⟩ : ∃ M, kD 1 es ds.length = M := ⟨_, rfl⟩
  have HMK := Lib.hid (show Calls Tryd.prog 35 #[.slice Ag ds.length cg, .int .i64 1] w3 fun e w' => e = .returned (.int .i64 (M : Int)) ∧ Marked w' 1 Ag es ∧ Below w1.heap.size w3 w' by
    have := markDeedS_any Ag cg 1 w1.heap.size es w3 OG3 (by rw [HEL.out]; exact hzl) H6.out (by omega) (by omega) hlo3
    rw [HEL.out, hM] at this
    exact this)
  have HHD := Lib.hid (show ∀ W, Marked W 1 Ag es → Calls Tryd.prog 36 #[.slice Ag ds.length cg, .int .i64 1] W fun e w' => e = .returned (.int .i64 (M : Int)) ∧ Below W.heap.size W w' from fun W h => by
    have := heldDeedS_any Ag cg 1 es W h (by rw [HEL.out]; exact hzl) H6.out (by omega) (by omega)
    rw [HEL.out, hM] at this
    exact this)
  have hM0 : decide ((M : Int) < 0) = false := by rw [decide_eq_false_iff_not]; omega
  have hMM : ((M : Int) != (M : Int)) = false := by simp
  clear hM OG3
  go_wp2_with fail
  refine HMK.out.mono ?_
  rintro e w4 ⟨rfl, M4, hb4⟩
  replace hW : Below w.heap.size w w4 := hW.trans (hb4.mono hs1)
  have DW4 := DW3.below hb4
  have hlo4 : w1.heap.size ≤ w4.heap.size := Nat.le_trans hlo3 hb4.size
  clear hb4 DW3
  go_wp2_with fail
  refine (HHD.out w4 M4).mono ?_
  rintro e w5 ⟨rfl, hb5⟩
  replace hW := bel_step hW hb5
  replace M4 := M4.on hb5
  have DW5 := DW4.below (hb5.mono hlo4)
  have hlo5 : w1.heap.size ≤ w5.heap.size := Nat.le_trans hlo4 hb5.size
  clear hb5 DW4
  go_wp2_with fail
  refine (HIM.out w5 hW).mono ?_
  rintro e w6 ⟨Ah, ch, fs, rfl, hfs, OH, h6f, hb6⟩
  dsimp only at hfs ⊢
  have hDH := OH.deeds hfs h6f
  replace hW := bel_step hW hb6
  replace M4 := M4.on hb6
  have DW6 := (DW5.below (hb6.mono hlo5)).more (Nat.le_trans hlo5 hb6.size)
  clear hfs OH h6f hb6 DW5
  go_wp2_with fail
  refine (eqDeedS_same Ah Aw ch cw ds w6 hDH DW6 (by omega)).mono ?_
  rintro e w7 ⟨rfl, hb7⟩
  replace hW := bel_step hW hb7
  replace M4 := M4.on hb7
  clear hb7 hDH DW6
  go_wp2_with fail
  refine (HHD.out w7 M4).mono ?_
  rintro e w8 ⟨rfl, hb8⟩
  replace hW := bel_step hW hb8
  go_wp2
  go_ret
  exact ⟨rfl, hW⟩
end Go.Proofs.YtkjpaafmolikoabDoor
