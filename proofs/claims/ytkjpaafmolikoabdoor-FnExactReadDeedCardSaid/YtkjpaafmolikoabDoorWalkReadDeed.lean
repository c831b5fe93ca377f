/- The walk of laws.FnExactReadDeed: it returns true, and nothing that lay has turned. The variables lie as the text lays them. -/
import Derived.Test.YtkjpaafmolikoabDoorMarkD
namespace Go.Proofs.YtkjpaafmolikoabDoor
open Go.RowKit

set_option maxRecDepth 100000 in
set_option maxHeartbeats 8000000 in
theorem walkFnExactReadDeed (s : ByteArray) (w : World) (w0 : s.size ≤ maxLen) (hL : LaidAll w) (hWd : WordsAt w) :
    Calls Tryd.prog 5 #[.string s] w fun e w' => e = .returned (.bool true) ∧ Below w.heap.size w w' := by
  unfold maxLen at w0
  by_cases hbig : 1048576 < s.size
  · have hb : decide ((1048576 : Int) < (s.size : Int)) = true := by simp; omega
    go_enter Tryd.func5, Tryd.ntmps5
    go_wp2
    go_ret
    exact ⟨rfl, Below.refl _ _⟩
  have hb : decide ((1048576 : Int) < (s.size : Int)) = false := by simp; omega
  have hzl := specReadD_len (bl s)
  have HSP := Lib.hid (show ∀ W, Calls Tryd.prog 28 #[.string s] W (DeedAns (specReadD (bl s)) W) from fun W => specReadDeed_any s W (by omega))
  have HIM := Lib.hid (show ∀ W, Below w.heap.size w W → Calls Tryd.prog 29 #[.string s] W (DeedAns (specReadD (bl s)) W) from fun W h => implReadDeed_any s W (by omega) (hL.on h) (hWd.on h))
  clear hbig w0 hL hWd
  generalize specReadD (bl s) = p at *
  obtain ⟨k, n, z, ok⟩ := p
  simp only at hzl
  have hok : (ok != ok) = false := by simp
  have hq0 : decide (1 + (z.length : Int) < 0) = false := by simp; omega
  have hqq : (1 + (z.length : Int) != 1 + (z.length : Int)) = false := by simp
  go_enter Tryd.func5, Tryd.ntmps5
  go_wp2_with fail
  refine (HSP.out w).mono ?_
  rintro e w1 ⟨Aw, cw, gw, rfl, hgw, RW, hb1⟩
  dsimp only at RW ⊢
  have b2 := (Below.refl w1.heap.size w1).alloc (Nat.le_refl _) (.cells #[.int .i64 k, .string n, .slice Aw z.length cw] 39)
  have BW := Blk.new w1 39 #[.int .i64 k, .string n, .slice Aw z.length cw]
  have hW : Below w.heap.size w (w1.alloc (.cells #[.int .i64 k, .string n, .slice Aw z.length cw] 39)) := bel_step hb1 b2
  have hwlt : 0 < z.length → gw < w1.heap.size := RW.lt
  replace RW := RW.on b2
  have hs1 : w.heap.size ≤ w1.heap.size := hb1.size
  clear hb1 b2
  go_wp2_with fail
  have hs2 : w1.heap.size < (w1.alloc (.cells #[.int .i64 k, .string n, .slice Aw z.length cw] 39)).heap.size := BW.lt
  generalize w1.alloc (.cells #[.int .i64 k, .string n, .slice Aw z.length cw] 39) = w2 at *
  generalize w1.heap.size = GW at *
  refine (HIM.out w2 hW).mono ?_
  rintro e w3 ⟨Ag, cg, gg, rfl, hgg, RG, hb3⟩
  dsimp only at RG ⊢
  have b4 := (Below.refl w3.heap.size w3).alloc (Nat.le_refl _) (.cells #[.int .i64 k, .string n, .slice Ag z.length cg] 39)
  have BG := Blk.new w3 39 #[.int .i64 k, .string n, .slice Ag z.length cg]
  have b34 := bel_step hb3 b4
  replace hW := bel_step hW b34
  have hglt : 0 < z.length → gg < w3.heap.size := RG.lt
  replace RG := RG.on b4
  replace RW := RW.on b34
  replace BW := BW.on b34
  obtain ⟨W0, W1, W2⟩ := BW.c3
  obtain ⟨G0, G1, G2⟩ := BG.c3
  have hs3 : w2.heap.size ≤ w3.heap.size := hb3.size
  clear hb3 b4 b34
  go_wp2_with fail
  generalize w3.alloc (.cells #[.int .i64 k, .string n, .slice Ag z.length cg] 39) = w4 at *
  generalize w3.heap.size = GG at *
  generalize w2.heap.size = G2' at *
  refine (eqDeed_same k n _ _ _ _ z w4 RG.ints RW.ints (by omega)).mono ?_
  rintro e w5 ⟨rfl, hb5⟩
  replace hW := bel_step hW hb5
  replace RG := RG.on hb5
  replace RW := RW.on hb5
  replace BW := BW.on hb5
  replace BG := BG.on hb5
  clear hb5 W0 W1 W2 G0 G1 G2
  obtain ⟨G0, G1, G2⟩ := BG.c3
  obtain ⟨g5, lo5, n5w, n5g, n5r, RG5⟩ : ∃ g5, w.heap.size ≤ g5 ∧ g5 ≠ GW ∧ g5 ≠ GG ∧ (0 < z.length → g5 ≠ gw) ∧ Row w5 2 Ag z g5 := by
    by_cases hz : 0 < z.length
    · exact ⟨gg, by omega, by omega, by have := hglt hz; omega, fun _ => by have := hwlt hz; omega, RG⟩
    · exact ⟨w5.heap.size, hW.size, by have := BW.lt; omega, by have := BG.lt; omega, fun h => absurd h hz, fun h => absurd h hz⟩
  clear RG hgg hglt hwlt
  go_wp2_with fail
  refine (markDeed_any k n Ag cg g5 z 1 w5 RG5 (by omega) (by omega) (by omega)).mono ?_
  rintro e w6 ⟨rfl, RG6, hg6⟩
  replace hW : Below w.heap.size w w6 := hW.grown hg6 hW.size (fun g hg => by cases hg; exact lo5)
  replace RW := RW.kept hg6 (fun h e => n5r h (Option.some.inj e).symm)
  replace BW := BW.grown hg6 (fun e => n5w (Option.some.inj e).symm)
  replace BG := BG.grown hg6 (fun e => n5g (Option.some.inj e).symm)
  clear RG5 hg6 G0 G1 G2
  obtain ⟨G0, G1, G2⟩ := BG.c3
  go_wp2_with fail
  refine (heldDeed_any k n Ag cg z.length 1 w6 RG6.ints (by omega) (by omega) (by omega)).mono ?_
  rintro e w7 ⟨rfl, hb7⟩
  replace hW := bel_step hW hb7
  replace RG6 := RG6.on hb7
  replace RW := RW.on hb7
  replace BW := BW.on hb7
  replace BG := BG.on hb7
  clear hb7 G0 G1 G2
  go_wp2_with fail
  refine (HIM.out w7 hW).mono ?_
  rintro e w8 ⟨Ah, ch, gh, rfl, hgh, RH, hb8⟩
  dsimp only at RH ⊢
  have b9 := (Below.refl w8.heap.size w8).alloc (Nat.le_refl _) (.cells #[.int .i64 k, .string n, .slice Ah z.length ch] 39)
  have BH := Blk.new w8 39 #[.int .i64 k, .string n, .slice Ah z.length ch]
  have b89 := bel_step hb8 b9
  replace hW := bel_step hW b89
  replace RH := RH.on b9
  replace RG6 := RG6.on b89
  replace RW := RW.on b89
  replace BW := BW.on b89
  replace BG := BG.on b89
  obtain ⟨W0, W1, W2⟩ := BW.c3
  obtain ⟨H0, H1, H2⟩ := BH.c3
  clear hb8 b9 b89
  go_wp2_with fail
  generalize w8.alloc (.cells #[.int .i64 k, .string n, .slice Ah z.length ch] 39) = w9 at *
  generalize w8.heap.size = GH at *
  refine (eqDeed_same k n _ _ _ _ z w9 RH.ints RW.ints (by omega)).mono ?_
  rintro e w10 ⟨rfl, hb10⟩
  replace hW := bel_step hW hb10
  replace RG6 := RG6.on hb10
  replace BG := BG.on hb10
  clear hb10 W0 W1 W2 H0 H1 H2 RH RW BW BH
  obtain ⟨G0, G1, G2⟩ := BG.c3
  go_wp2_with fail
  refine (heldDeed_any k n Ag cg z.length 1 w10 RG6.ints (by omega) (by omega) (by omega)).mono ?_
  rintro e w11 ⟨rfl, hb11⟩
  replace hW := bel_step hW hb11
  go_wp2
  go_ret
  exact ⟨rfl, hW⟩
end Go.Proofs.YtkjpaafmolikoabDoor
