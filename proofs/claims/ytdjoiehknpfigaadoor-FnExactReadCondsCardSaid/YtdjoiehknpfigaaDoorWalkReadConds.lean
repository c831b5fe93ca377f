/- The walk of laws.FnExactReadConds: it returns true, and nothing that lay has turned. The library's variables lie as the text lays them. -/
import Derived.Test.YtdjoiehknpfigaaDoorCndN
import Derived.Test.YtdjoiehknpfigaaDoorCndM
namespace Go.Proofs.YtdjoiehknpfigaaDoor
open Go.RowKit

set_option maxRecDepth 100000 in
set_option maxHeartbeats 8000000 in
theorem walkFnExactReadConds (s : ByteArray) (w : World) (w0 : s.size ≤ maxLen) (hL : LaidAll w) :
    Calls Tryd.prog 3 #[.string s] w fun e w' => e = .returned (.bool true) ∧ Below w.heap.size w w' := by
  unfold maxLen at w0
  by_cases hbig : 1048576 < s.size
  · have hb : decide ((1048576 : Int) < (s.size : Int)) = true := by simp; omega
    go_enter Tryd.func3, Tryd.ntmps3
    go_wp2
    go_ret
    exact ⟨rfl, Below.refl _ _⟩
  have hb : decide ((1048576 : Int) < (s.size : Int)) = false := by simp; omega
  have hl3 := specReadCs_len (bl s)
  have HSP := Lib.hid (show ∀ W, Calls Tryd.prog 7 #[.string s] W (CAns (specReadCs (bl s)) W) from fun W => specReadConds_any s W (by omega))
  have HIM := Lib.hid (show ∀ W, Below w.heap.size w W → Calls Tryd.prog 8 #[.string s] W (CAns (specReadCs (bl s)) W) from fun W h => implReadConds_any s W (by omega) (hL.on h))
  clear hbig w0 hL
  generalize specReadCs (bl s) = p at *
  obtain ⟨l, ok⟩ := p
  simp only at hl3
  have hok : (ok != ok) = false := by simp
  have hq0 : decide (((1 + 4 * l.length : Nat) : Int) < 0) = false := by simp; omega
  have hqq : (((1 + 4 * l.length : Nat) : Int) != ((1 + 4 * l.length : Nat) : Int)) = false := by simp
  go_enter Tryd.func3, Tryd.ntmps3
  go_wp2_with fail
  refine (HSP.out w).mono ?_
  rintro e w1 ⟨v1, rfl, hown1, hW⟩
  obtain ⟨Aw, cw, gw, rfl, hgw, RW⟩ := crow_of_own hown1
  dsimp only at RW hown1 ⊢
  have hwlt : 0 < l.length → gw < w1.heap.size := RW.lt
  clear hown1
  go_wp2_with fail
  refine (HIM.out w1 hW).mono ?_
  rintro e w3 ⟨v3, rfl, hown3, hb3⟩
  obtain ⟨Ag, cg, gg, rfl, hgg, RG⟩ := crow_of_own hown3
  dsimp only at RG ⊢
  have hs1 : w.heap.size ≤ w1.heap.size := hW.size
  replace hW := bel_step hW hb3
  replace RW := RW.on hb3
  clear hown3 hb3
  go_wp2_with fail
  refine (eqCondS_any _ _ _ _ l l w3 RG.cnds RW.cnds (by omega) (by omega)).mono ?_
  rintro e w5 ⟨rfl, hb5⟩
  rw [decide_eq_true (rfl : l = l)]
  replace hW := bel_step hW hb5
  replace RG := RG.on hb5
  replace RW := RW.on hb5
  clear hb5
  go_wp2_with fail
  refine (markCondS_any Ag cg gg 1 l w5 RG (by omega) (by omega)).mono ?_
  rintro e w6 ⟨rfl, RG6, hg6⟩
  replace hW : Below w.heap.size w w6 := hW.grown hg6 hW.size (fun g hg => by cases hg; omega)
  replace RW := RW.kept hg6 (fun h e => by have := hwlt h; have := Option.some.inj e; omega)
  clear RG hg6 hgg hgw
  go_wp2_with fail
  refine (heldCondS_any Ag cg 1 l.length w6 RG6.cnds (by omega) (by omega)).mono ?_
  rintro e w7 ⟨rfl, hb7⟩
  replace hW := bel_step hW hb7
  replace RG6 := RG6.on hb7
  replace RW := RW.on hb7
  clear hb7
  go_wp2_with fail
  refine (HIM.out w7 hW).mono ?_
  rintro e w8 ⟨v8, rfl, hown8, hb8⟩
  obtain ⟨Ah, ch, gh, rfl, hgh, RH⟩ := crow_of_own hown8
  dsimp only at RH ⊢
  replace hW := bel_step hW hb8
  replace RG6 := RG6.on hb8
  replace RW := RW.on hb8
  clear hb8 hown8 hgh
  go_wp2_with fail
  refine (eqCondS_any _ _ _ _ l l w8 RH.cnds RW.cnds (by omega) (by omega)).mono ?_
  rintro e w10 ⟨rfl, hb10⟩
  rw [decide_eq_true (rfl : l = l)]
  replace hW := bel_step hW hb10
  replace RG6 := RG6.on hb10
  clear hb10 RH RW
  go_wp2_with fail
  refine (heldCondS_any Ag cg 1 l.length w10 RG6.cnds (by omega) (by omega)).mono ?_
  rintro e w11 ⟨rfl, hb11⟩
  replace hW := bel_step hW hb11
  go_wp2
  go_ret
  exact ⟨rfl, hW⟩
end Go.Proofs.YtdjoiehknpfigaaDoor
