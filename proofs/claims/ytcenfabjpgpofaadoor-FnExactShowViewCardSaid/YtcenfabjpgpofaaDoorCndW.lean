/- Conds shown: the model's l7Show and ShowConds, the program's showCond; for conds that are right. -/
import Derived.Test.YtcenfabjpgpofaaDoorCndThy
import Derived.Test.YtcenfabjpgpofaaDoorCndK
import Derived.Test.YtcenfabjpgpofaaDoorShelfD
import Derived.Lib.AppendIntMem
import Derived.Deep.RegionLaw
import Derived.Deep.RegionHeld3
namespace Go.Proofs.YtcenfabjpgpofaaDoor
open Go.RowKit

theorem grow_bel (w : World) (k : Nat) (os : Array Obj) : Below w.heap.size w (Go.Sort.grow (w.drewN k) os) :=
  ⟨rfl, rfl, rfl, by show w.heap.size ≤ (w.heap ++ os).size; rw [Array.size_append]; omega, fun j hj => by show (w.heap ++ os)[j]? = w.heap[j]?; exact Array.getElem?_append_left hj⟩
theorem showNum_any (n : Int) (w : World) (h0 : -9223372036854775808 ≤ n) (h1 : n ≤ 9223372036854775807) (htab : Lib.TabBelow Tryd.prog w.heap.size w "internal/strconv.uint64pow10" .u64 Lib.pow10Tab) :
    Calls Tryd.prog 48 #[.int .i64 n] w fun e w' => e = .returned (.string (mkB (Lib.itoa n))) ∧ Below w.heap.size w w' := by
  go_enter Tryd.func48, Tryd.ntmps48
  go_wp2_with fail
  refine (Tryd.strconv_FormatInt_10 n h0 h1 w (htab w (Below.refl _ _))).mono ?_
  rintro e w1 ⟨rfl, k, os, hw1⟩
  have hb : Below w.heap.size w w1 := by rw [hw1]; exact grow_bel w k os
  clear hw1
  go_wp2
  go_ret
  exact ⟨rfl, hb⟩
theorem condsRight_any (A : Option Addr) (c : Nat) (l : List Cnd) (w : World) (hC : Cnds w w.heap.size A l) (hl : l.length ≤ 1099511627776) :
    Calls Tryd.prog 40 #[.slice A l.length c] w fun e w' => e = .returned (.bool (rightB l)) ∧ Below w.heap.size w w' := by
  obtain ⟨R, hR⟩ : ∃ R, rightB l = R := ⟨_, rfl⟩
  have HQ := Lib.hid hR
  rw [hR]
  clear hR
  go_enter Tryd.func40, Tryd.ntmps40
  go_wp2_with fail
  refine (implCondsOk_any A c l 6 w hC hl).mono ?_
  rintro e w1 ⟨rfl, hb⟩
  rw [right_six, HQ.out]
  go_wp2
  go_ret
  exact ⟨rfl, hb⟩
theorem cat4 {P sg T S : ByteArray} {lp lt : List UInt8} {x : UInt8} (hS : S = mkB (36 :: (lp ++ x :: lt))) (hP : bl P = lp) (hs : bl sg = [x]) (hT : bl T = lt) : (⟨#[36]⟩ : ByteArray) ++ P ++ sg ++ T = S := by
  rw [hS]
  refine bl_eta _ _ ?_
  rw [bl_append, bl_append, bl_append, hP, hs, hT]
  simp [bl]
theorem op_sign {o : Int} (h1 : 1 ≤ o) (h3 : o ≤ 3) : ∃ f, opV o = .agg #[.int .i64 o, .string ⟨#[opL o]⟩, .func (.func f) #[] #[]] := by
  have : o = 1 ∨ o = 2 ∨ o = 3 := by omega
  rcases this with rfl | rfl | rfl
  · exact ⟨_, opV_1⟩
  · exact ⟨_, opV_2⟩
  · exact ⟨_, opV_3⟩
theorem opB_is {o : Int} (h1 : 1 ≤ o) (h3 : o ≤ 3) : opB o = true := by
  unfold opB inB
  rw [decide_eq_true h1, decide_eq_true h3]; rfl
theorem itoa_sz {n : Int} (h0 : -1000000000 ≤ n) (h1 : n ≤ 1000000000) : (mkB (Lib.itoa n)).size ≤ 22 := by
  have e : (mkB (Lib.itoa n)).size = (Lib.itoa n).length := by rw [← bl_length, bl_mkB]
  rw [e]
  have := Lib.itoa_length_le n (by omega) (by omega)
  omega

set_option maxRecDepth 100000 in
set_option maxHeartbeats 4000000 in
theorem showCond_any (c : Cnd) (w : World) (hc : condB c = true) (htab : Lib.TabBelow Tryd.prog w.heap.size w "internal/strconv.uint64pow10" .u64 Lib.pow10Tab) :
    Calls Tryd.prog 53 #[.agg #[.int .i64 c.p, .int .i64 c.o, .int .i64 c.t, .bool c.i]] w fun e w' => e = .returned (.string (mkB (showC c))) ∧ Below w.heap.size w w' := by
  obtain ⟨⟨hp0, hp5⟩, ⟨ho1, ho3⟩, _⟩ := condB_iff.1 hc
  obtain ⟨ht0, ht1⟩ := condB_other hc
  obtain ⟨f, hV⟩ := op_sign ho1 ho3
  have hB := opB_is ho1 ho3
  obtain ⟨S, hS⟩ : ∃ S, mkB (showC c) = S := ⟨_, rfl⟩
  have HS := Lib.hid (show S = mkB (36 :: (Lib.itoa c.p ++ opL c.o :: otherL c)) from hS.symm)
  rw [hS]
  have hsp := itoa_sz (n := c.p) (by omega) (by omega)
  have hst := itoa_sz (n := c.t) (by omega) (by omega)
  have hOL := Lib.hid (show otherL c = if c.i = true then Lib.itoa c.t else 36 :: Lib.itoa c.t from rfl)
  have HT := Lib.hid htab
  clear hc hS htab
  generalize otherL c = ol at *
  generalize c.p = p at *
  generalize c.o = o at *
  generalize c.t = t at *
  generalize c.i = i at *
  have bc := (Below.refl w.heap.size w).alloc (Nat.le_refl _) (.cells #[.int .i64 p, .int .i64 o, .int .i64 t, .bool i] 61)
  have BC := Blk.new w 61 #[.int .i64 p, .int .i64 o, .int .i64 t, .bool i]
  obtain ⟨c0, c1, c2, c3⟩ := BC.c4
  go_enter Tryd.func53, Tryd.ntmps53
  go_wp2_with fail
  generalize w.alloc (.cells #[.int .i64 p, .int .i64 o, .int .i64 t, .bool i] 61) = wb at *
  refine (opOf_any o wb).mono ?_
  rintro e w1 ⟨rfl, hb1⟩
  rw [hV, hB]
  have hW1 := bel_step bc hb1
  have hWx := hW1.alloc hW1.size (.cells #[.int .i64 o, .string ⟨#[opL o]⟩, .func (.func f) #[] #[]] 86)
  have BX := Blk.new w1 86 #[.int .i64 o, .string ⟨#[opL o]⟩, .func (.func f) #[] #[]]
  have BC1 := (BC.on hb1).alloc (.cells #[.int .i64 o, .string ⟨#[opL o]⟩, .func (.func f) #[] #[]] 86)
  obtain ⟨d0, d1, d2, d3⟩ := BC1.c4
  clear c0 c1 c2 c3 BC bc hb1 hW1 hV hB
  go_wp2_with fail
  generalize w1.alloc (.cells #[.int .i64 o, .string ⟨#[opL o]⟩, .func (.func f) #[] #[]] 86) = wx at *
  generalize w1.heap.size = gx at *
  refine (showNum_any t wx (by omega) (by omega) (fun w' h => HT.out w' (hWx.trans (h.mono hWx.size)))).mono ?_
  rintro e w2 ⟨rfl, hb2⟩
  have hW2 := bel_step hWx hb2
  have BC2 := BC1.on hb2
  have BX2 := BX.on hb2
  have HTE := Lib.hid (show ∀ x, mkB (Lib.itoa t) = x → bl x = Lib.itoa t from fun x h => by rw [← h, bl_mkB])
  generalize hTT : mkB (Lib.itoa t) = T at *
  have HTT := Lib.hid (HTE.out T rfl)
  clear d0 d1 d2 d3 BC1 BX hb2 hWx hTT HTE
  have HP := Lib.hid (show ∀ v : World, Below w.heap.size w v → Calls Tryd.prog 48 #[.int .i64 p] v fun e w' => e = .returned (.string (mkB (Lib.itoa p))) ∧ Below v.heap.size v w' from fun v h => showNum_any p v (by omega) (by omega) (fun w' h' => HT.out w' (h.trans (h'.mono h.size))))
  have HPE := Lib.hid (show bl (mkB (Lib.itoa p)) = Lib.itoa p from bl_mkB _)
  generalize mkB (Lib.itoa p) = P at *
  obtain ⟨d0, d1, d2, d3⟩ := BC2.c4
  obtain ⟨x0, x1, x2⟩ := BX2.c3
  have hgc := BC2.lt
  have hgx := BX2.lt
  have hs1 : (⟨#[opL o]⟩ : ByteArray).size = 1 := rfl
  have HSG := Lib.hid (show bl ⟨#[opL o]⟩ = [opL o] from rfl)
  generalize (⟨#[opL o]⟩ : ByteArray) = sg at *
  cases i with
  | true =>
    have HO := Lib.hid (show ol = Lib.itoa t by rw [hOL.out, if_pos rfl])
    go_wp2_with fail
    have b0 := cell_bel hgc d0
    have b1 := cell_bel hgx x1
    clear d0 d1 d2 d3 x0 x1 x2
    refine wp_quiet_bel (by kernel_rfl) (by kernel_rfl) ?_
    repeat (go_big_quiet_step (first | (go_at_call 48; exact bel_of (HP.out _ (hW2.trans ((BelW.bel _).mono hW2.size))))))
    refine wpQuiet_nil ?_
    rintro w4 ⟨⟨_, hk4⟩, rfl⟩
    clear b0 b1
    go_wp2
    go_ret
    exact ⟨congrArg (fun s => Ending.returned (.string s)) (cat4 HS.out HPE.out HSG.out (by rw [HTT.out, HO.out])), bel_step hW2 hk4⟩
  | false =>
    have HO := Lib.hid (show ol = 36 :: Lib.itoa t by rw [hOL.out, if_neg (by simp)])
    have HTX := Lib.hid (show bl ((⟨#[36]⟩ : ByteArray) ++ T) = 36 :: Lib.itoa t by rw [bl_append, HTT.out]; rfl)
    have hsx : ((⟨#[36]⟩ : ByteArray) ++ T).size ≤ 23 := by rw [ByteArray.size_append]; show 1 + T.size ≤ 23; omega
    clear HTT
    go_wp2_with fail
    generalize (⟨#[36]⟩ : ByteArray) ++ T = X at *
    have b0 := cell_bel hgc d0
    have b1 := cell_bel hgx x1
    clear d0 d1 d2 d3 x0 x1 x2
    refine wp_quiet_bel (by kernel_rfl) (by kernel_rfl) ?_
    repeat (go_big_quiet_step (first | (go_at_call 48; exact bel_of (HP.out _ (hW2.trans ((BelW.bel _).mono hW2.size))))))
    refine wpQuiet_nil ?_
    rintro w4 ⟨⟨_, hk4⟩, rfl⟩
    clear b0 b1
    go_wp2
    go_ret
    exact ⟨congrArg (fun s => Ending.returned (.string s)) (cat4 HS.out HPE.out HSG.out (by rw [HTX.out, HO.out])), bel_step hW2 hk4⟩
end Go.Proofs.YtcenfabjpgpofaaDoor
