/- Conds shown: the model's l7Show and ShowConds, the program's showCond; for conds that are right. -/
import Derived.Test.YtejgofhpjkebbaaDoorCndThy
import Derived.Test.YtejgofhpjkebbaaDoorCndK
import Derived.Lib.AppendIntMem
import Derived.Deep.RegionLaw
import Derived.Deep.RegionHeld3
namespace Go.Proofs.YtejgofhpjkebbaaDoor
open Go.RowKit

theorem grow_bel (w : World) (k : Nat) (os : Array Obj) : Below w.heap.size w (Go.Sort.grow (w.drewN k) os) :=
  ⟨rfl, rfl, rfl, by show w.heap.size ≤ (w.heap ++ os).size; rw [Array.size_append]; omega, fun j hj => by show (w.heap ++ os)[j]? = w.heap[j]?; exact Array.getElem?_append_left hj⟩
theorem condsRight_any (A : Option Addr) (c : Nat) (l : List Cnd) (w : World) (hC : Cnds w w.heap.size A l) (hl : l.length ≤ 1099511627776) :
    Calls Tryd.prog 65 #[.slice A l.length c] w fun e w' => e = .returned (.bool (rightB l)) ∧ Below w.heap.size w w' := by
  obtain ⟨R, hR⟩ : ∃ R, rightB l = R := ⟨_, rfl⟩
  have HQ := Lib.hid hR
  rw [hR]
  clear hR
  go_enter Tryd.func65, Tryd.ntmps65
  go_wp2_with fail
  refine (implCondsOk_any A c l 6 w hC hl).mono ?_
  rintro e w1 ⟨rfl, hb⟩
  rw [right_six, HQ.out]
  go_wp2
  go_ret
  exact ⟨rfl, hb⟩
theorem cat4 {P sg T S : ByteArray} {lp lt : List UInt8} {x : UInt8} (hS : S = mkB (36 :: (lp ++ x :: lt))) (hP : bl P = lp) (hs : bl sg = [x]) (hT : bl T = lt) : (⟨#[36]⟩ : ByteArray) ++ P ++ sg ++ T = S := by
  rw [hS]
  refine bl_eta _ _ ?_
  rw [bl_append, bl_append, bl_append, hP, hs, hT]
  simp [bl]
theorem op_sign {o : Int} (h1 : 1 ≤ o) (h3 : o ≤ 3) : ∃ f, opV o = .agg #[.int .i64 o, .string ⟨#[opL o]⟩, .func (.func f) #[] #[]] := by
  have : o = 1 ∨ o = 2 ∨ o = 3 := by omega
  rcases this with rfl | rfl | rfl
  · exact ⟨_, opV_1⟩
  · exact ⟨_, opV_2⟩
  · exact ⟨_, opV_3⟩
theorem opB_is {o : Int} (h1 : 1 ≤ o) (h3 : o ≤ 3) : opB o = true := by
  unfold opB inB
  rw [decide_eq_true h1, decide_eq_true h3]; rfl
theorem itoa_sz {n : Int} (h0 : -1000000000 ≤ n) (h1 : n ≤ 1000000000) : (mkB (Lib.itoa n)).size ≤ 22 := by
  have e : (mkB (Lib.itoa n)).size = (Lib.itoa n).length := by rw [← bl_length, bl_mkB]
  rw [e]
  have := Lib.itoa_length_le n (by omega) (by omega)
  omega

end Go.Proofs.YtejgofhpjkebbaaDoor
