/- Texts joined: CndW, Nod3, LaidF, CndY: contracts and plain facts; each says its own below. -/
import Derived.Test.YtpadhcoboapodaaGreatDoorJV3
import Derived.Test.YtpadhcoboapodaaGreatDoorJV4
import Derived.Test.YtpadhcoboapodaaGreatDoorShelfD
import Derived.Lib.AppendIntMem
import Derived.Deep.RegionLaw
import Derived.Deep.RegionHeld3
import Derived.Test.YtpadhcoboapodaaGreatDoorRows
import Derived.LaidMore
import Derived.LaidLaws
import Derived.Stop.Joined
import Derived.Stop.LaidErr
import Derived.Lib.LaidTab
import Derived.Lib.SmallJoins
import Derived.Test.YtpadhcoboapodaaGreatDoorJV1
/- Conds shown: the model's l7Show and ShowConds, the program's showCond; for conds that are right. -/
namespace Go.Proofs.YtpadhcoboapodaaGreatDoor
open Go.RowKit

theorem grow_bel (w : World) (k : Nat) (os : Array Obj) : Below w.heap.size w (Go.Sort.grow (w.drewN k) os) :=
  ⟨rfl, rfl, rfl, by show w.heap.size ≤ (w.heap ++ os).size; rw [Array.size_append]; omega, fun j hj => by show (w.heap ++ os)[j]? = w.heap[j]?; exact Array.getElem?_append_left hj⟩
theorem showNum_any (n : Int) (w : World) (h0 : -9223372036854775808 ≤ n) (h1 : n ≤ 9223372036854775807) (htab : Lib.TabBelow Tryz.prog w.heap.size w "internal/strconv.uint64pow10" .u64 Lib.pow10Tab) :
    Calls Tryz.prog 50 #[.int .i64 n] w fun e w' => e = .returned (.string (mkB (Lib.itoa n))) ∧ Below w.heap.size w w' := by
  go_enter Tryz.func50, Tryz.ntmps50
  go_wp2_with fail
  refine (Tryz.strconv_FormatInt_10 n h0 h1 w (htab w (Below.refl _ _))).mono ?_
  rintro e w1 ⟨rfl, k, os, hw1⟩
  have hb : Below w.heap.size w w1 := by rw [hw1]; exact grow_bel w k os
  clear hw1
  go_wp2
  go_ret
  exact ⟨rfl, hb⟩
theorem condsRight_any (A : Option Addr) (c : Nat) (l : List Cnd) (w : World) (hC : Cnds w w.heap.size A l) (hl : l.length ≤ 1099511627776) :
    Calls Tryz.prog 59 #[.slice A l.length c] w fun e w' => e = .returned (.bool (rightB l)) ∧ Below w.heap.size w w' := by
  obtain ⟨R, hR⟩ : ∃ R, rightB l = R := ⟨_, rfl⟩
  have HQ := Lib.hid hR
  rw [hR]
  clear hR
  go_enter Tryz.func59, Tryz.ntmps59
  go_wp2_with fail
  refine (implCondsOk_any A c l 6 w hC hl).mono ?_
  rintro e w1 ⟨rfl, hb⟩
  rw [right_six, HQ.out]
  go_wp2
  go_ret
  exact ⟨rfl, hb⟩
theorem cat4 {P sg T S : ByteArray} {lp lt : List UInt8} {x : UInt8} (hS : S = mkB (36 :: (lp ++ x :: lt))) (hP : bl P = lp) (hs : bl sg = [x]) (hT : bl T = lt) : (⟨#[36]⟩ : ByteArray) ++ P ++ sg ++ T = S := by
  rw [hS]
  refine bl_eta _ _ ?_
  rw [bl_append, bl_append, bl_append, hP, hs, hT]
  simp [bl]
theorem op_sign {o : Int} (h1 : 1 ≤ o) (h3 : o ≤ 3) : ∃ f, opV o = .agg #[.int .i64 o, .string ⟨#[opL o]⟩, .func (.func f) #[] #[]] := by
  have : o = 1 ∨ o = 2 ∨ o = 3 := by omega
  rcases this with rfl | rfl | rfl
  · exact ⟨_, opV_1⟩
  · exact ⟨_, opV_2⟩
  · exact ⟨_, opV_3⟩
theorem opB_is {o : Int} (h1 : 1 ≤ o) (h3 : o ≤ 3) : opB o = true := by
  unfold opB inB
  rw [decide_eq_true h1, decide_eq_true h3]; rfl
theorem itoa_sz {n : Int} (h0 : -1000000000 ≤ n) (h1 : n ≤ 1000000000) : (mkB (Lib.itoa n)).size ≤ 22 := by
  have e : (mkB (Lib.itoa n)).size = (Lib.itoa n).length := by rw [← bl_length, bl_mkB]
  rw [e]
  have := Lib.itoa_length_le n (by omega) (by omega)
  omega

set_option maxRecDepth 100000 in
set_option maxHeartbeats 4000000 in
theorem showCond_any (c : Cnd) (w : World) (hc : condB c = true) (htab : Lib.TabBelow Tryz.prog w.heap.size w "internal/strconv.uint64pow10" .u64 Lib.pow10Tab) :
    Calls Tryz.prog 60 #[.agg #[.int .i64 c.p, .int .i64 c.o, .int .i64 c.t, .bool c.i]] w fun e w' => e = .returned (.string (mkB (showC c))) ∧ Below w.heap.size w w' := by
  obtain ⟨⟨hp0, hp5⟩, ⟨ho1, ho3⟩, _⟩ := condB_iff.1 hc
  obtain ⟨ht0, ht1⟩ := condB_other hc
  obtain ⟨f, hV⟩ := op_sign ho1 ho3
  have hB := opB_is ho1 ho3
  obtain ⟨S, hS⟩ : ∃ S, mkB (showC c) = S := ⟨_, rfl⟩
  have HS := Lib.hid (show S = mkB (36 :: (Lib.itoa c.p ++ opL c.o :: otherL c)) from hS.symm)
  rw [hS]
  have hsp := itoa_sz (n := c.p) (by omega) (by omega)
  have hst := itoa_sz (n := c.t) (by omega) (by omega)
  have hOL := Lib.hid (show otherL c = if c.i = true then Lib.itoa c.t else 36 :: Lib.itoa c.t from rfl)
  have HT := Lib.hid htab
  clear hc hS htab
  generalize otherL c = ol at *
  generalize c.p = p at *
  generalize c.o = o at *
  generalize c.t = t at *
  generalize c.i = i at *
  have bc := (Below.refl w.heap.size w).alloc (Nat.le_refl _) (.cells #[.int .i64 p, .int .i64 o, .int .i64 t, .bool i] 63)
  have BC := Blk.new w 63 #[.int .i64 p, .int .i64 o, .int .i64 t, .bool i]
  obtain ⟨c0, c1, c2, c3⟩ := BC.c4
  go_enter Tryz.func60, Tryz.ntmps60
  go_wp2_with fail
  generalize w.alloc (.cells #[.int .i64 p, .int .i64 o, .int .i64 t, .bool i] 63) = wb at *
  refine (opOf_any o wb).mono ?_
  rintro e w1 ⟨rfl, hb1⟩
  rw [hV, hB]
  have hW1 := bel_step bc hb1
  have hWx := hW1.alloc hW1.size (.cells #[.int .i64 o, .string ⟨#[opL o]⟩, .func (.func f) #[] #[]] 96)
  have BX := Blk.new w1 96 #[.int .i64 o, .string ⟨#[opL o]⟩, .func (.func f) #[] #[]]
  have BC1 := (BC.on hb1).alloc (.cells #[.int .i64 o, .string ⟨#[opL o]⟩, .func (.func f) #[] #[]] 96)
  obtain ⟨d0, d1, d2, d3⟩ := BC1.c4
  clear c0 c1 c2 c3 BC bc hb1 hW1 hV hB
  go_wp2_with fail
  generalize w1.alloc (.cells #[.int .i64 o, .string ⟨#[opL o]⟩, .func (.func f) #[] #[]] 96) = wx at *
  generalize w1.heap.size = gx at *
  refine (showNum_any t wx (by omega) (by omega) (fun w' h => HT.out w' (hWx.trans (h.mono hWx.size)))).mono ?_
  rintro e w2 ⟨rfl, hb2⟩
  have hW2 := bel_step hWx hb2
  have BC2 := BC1.on hb2
  have BX2 := BX.on hb2
  have HTE := Lib.hid (show ∀ x, mkB (Lib.itoa t) = x → bl x = Lib.itoa t from fun x h => by rw [← h, bl_mkB])
  generalize hTT : mkB (Lib.itoa t) = T at *
  have HTT := Lib.hid (HTE.out T rfl)
  clear d0 d1 d2 d3 BC1 BX hb2 hWx hTT HTE
  have HP := Lib.hid (show ∀ v : World, Below w.heap.size w v → Calls Tryz.prog 50 #[.int .i64 p] v fun e w' => e = .returned (.string (mkB (Lib.itoa p))) ∧ Below v.heap.size v w' from fun v h => showNum_any p v (by omega) (by omega) (fun w' h' => HT.out w' (h.trans (h'.mono h.size))))
  have HPE := Lib.hid (show bl (mkB (Lib.itoa p)) = Lib.itoa p from bl_mkB _)
  generalize mkB (Lib.itoa p) = P at *
  obtain ⟨d0, d1, d2, d3⟩ := BC2.c4
  obtain ⟨x0, x1, x2⟩ := BX2.c3
  have hgc := BC2.lt
  have hgx := BX2.lt
  have hs1 : (⟨#[opL o]⟩ : ByteArray).size = 1 := rfl
  have HSG := Lib.hid (show bl ⟨#[opL o]⟩ = [opL o] from rfl)
  generalize (⟨#[opL o]⟩ : ByteArray) = sg at *
  cases i with
  | true =>
    have HO := Lib.hid (show ol = Lib.itoa t by rw [hOL.out, if_pos rfl])
    go_wp2_with fail
    have b0 := cell_bel hgc d0
    have b1 := cell_bel hgx x1
    clear d0 d1 d2 d3 x0 x1 x2
    refine wp_quiet_bel (by kernel_rfl) (by kernel_rfl) ?_
    repeat (go_big_quiet_step (first | (go_at_call 50; exact bel_of (HP.out _ (hW2.trans ((BelW.bel _).mono hW2.size))))))
    refine wpQuiet_nil ?_
    rintro w4 ⟨⟨_, hk4⟩, rfl⟩
    clear b0 b1
    go_wp2
    go_ret
    exact ⟨congrArg (fun s => Ending.returned (.string s)) (cat4 HS.out HPE.out HSG.out (by rw [HTT.out, HO.out])), bel_step hW2 hk4⟩
  | false =>
    have HO := Lib.hid (show ol = 36 :: Lib.itoa t by rw [hOL.out, if_neg (by simp)])
    have HTX := Lib.hid (show bl ((⟨#[36]⟩ : ByteArray) ++ T) = 36 :: Lib.itoa t by rw [bl_append, HTT.out]; rfl)
    have hsx : ((⟨#[36]⟩ : ByteArray) ++ T).size ≤ 23 := by rw [ByteArray.size_append]; show 1 + T.size ≤ 23; omega
    clear HTT
    go_wp2_with fail
    generalize (⟨#[36]⟩ : ByteArray) ++ T = X at *
    have b0 := cell_bel hgc d0
    have b1 := cell_bel hgx x1
    clear d0 d1 d2 d3 x0 x1 x2
    refine wp_quiet_bel (by kernel_rfl) (by kernel_rfl) ?_
    repeat (go_big_quiet_step (first | (go_at_call 50; exact bel_of (HP.out _ (hW2.trans ((BelW.bel _).mono hW2.size))))))
    refine wpQuiet_nil ?_
    rintro w4 ⟨⟨_, hk4⟩, rfl⟩
    clear b0 b1
    go_wp2
    go_ret
    exact ⟨congrArg (fun s => Ending.returned (.string s)) (cat4 HS.out HPE.out HSG.out (by rw [HTX.out, HO.out])), bel_step hW2 hk4⟩
end Go.Proofs.YtpadhcoboapodaaGreatDoor

/- The program's NodeOk and ViewOk, its table of the nodes' forms where it lies; nothing that lay has turned. The variable lies as the text lays it. -/
namespace Go.Proofs.YtpadhcoboapodaaGreatDoor
open Go.RowKit

def wordN : List ByteArray := [⟨#[]⟩, ⟨#[116, 97, 98, 108, 101]⟩, ⟨#[119, 104, 101, 114, 101]⟩, ⟨#[107, 101, 101, 112]⟩, ⟨#[106, 111, 105, 110]⟩, ⟨#[98, 111, 116, 104]⟩, ⟨#[111, 110, 99, 101]⟩, ⟨#[103, 114, 111, 117, 112]⟩]
def wnx (k : Nat) : ByteArray := wordN[k]?.getD ⟨#[]⟩
def looksF (k : Nat) : Nat := if k ≤ 1 then 0 else if k = 4 ∨ k = 5 then 2 else 1
def leastF (k : Nat) : Nat := if k = 3 then 1 else if k = 4 then 2 else 0
def mostF (k : Nat) : Nat := if k = 3 then 6 else if k = 4 then 2 else if k = 7 then 3 else 0
/-- The program's own variable holds the nodes' forms. -/
def FormsAt (w : World) : Prop := ∀ k, k < 8 → w.cell? ⟨0, k * 4, none⟩ = some (.string (wnx k)) ∧ w.cell? ⟨0, k * 4 + 1, none⟩ = some (.int .i64 (looksF k)) ∧ w.cell? ⟨0, k * 4 + 2, none⟩ = some (.int .i64 (leastF k)) ∧ w.cell? ⟨0, k * 4 + 3, none⟩ = some (.int .i64 (mostF k))
theorem FormsAt.on {w w' : World} (h : FormsAt w) (hb : Below w.heap.size w w') : FormsAt w' := fun k hk => by
  obtain ⟨h0, h1, h2, h3⟩ := h k hk
  exact ⟨(hb.cell (cell_lt h0)).trans h0, (hb.cell (cell_lt h1)).trans h1, (hb.cell (cell_lt h2)).trans h2, (hb.cell (cell_lt h3)).trans h3⟩
theorem FormsAt.drewN {w : World} (h : FormsAt w) (n : Nat) : FormsAt (w.drewN n) := h
theorem looksF_eq {k : Nat} (h : 1 ≤ k) : (looksF k : Nat) = looksN (k : Int) := by
  unfold looksF looksN
  by_cases h1 : k = 1
  · subst h1; rfl
  · rw [if_neg (by omega), if_neg (show ¬ (k : Int) = 1 by omega)]
    by_cases h4 : k = 4 ∨ k = 5
    · rw [if_pos h4, if_pos (by omega)]
    · rw [if_neg h4, if_neg (by omega)]
theorem looksF_le (k : Nat) : looksF k ≤ 2 := by
  unfold looksF
  split
  · omega
  · split <;> omega
theorem kind_nat {k : Int} (h : inB k 1 7 = true) : ∃ q : Nat, k = (q : Int) ∧ 1 ≤ q ∧ q ≤ 7 := by
  unfold inB at h
  rw [Bool.and_eq_true, decide_eq_true_eq, decide_eq_true_eq] at h
  exact ⟨k.toNat, by omega, by omega, by omega⟩
theorem placesD_eq {d : Nd} {q : Nat} (hq : d.k = (q : Int)) (h1 : 1 ≤ q) (h7 : q ≤ 7) : placesD d = (decide (leastF q ≤ d.z.length) && (decide (d.z.length ≤ mostF q) && placesB d.z 6)) := by
  obtain ⟨k, n, c, z, p⟩ := d
  simp only at hq
  subst hq
  unfold placesD
  simp only
  have hz : z.length = 0 → placesB z 6 = true := fun h => by rw [List.length_eq_zero_iff.1 h]; rfl
  have h : q = 1 ∨ q = 2 ∨ q = 3 ∨ q = 4 ∨ q = 5 ∨ q = 6 ∨ q = 7 := by omega
  have hgen : ∀ m : Nat, ¬ ((m : Int) = 3 ∨ (m : Int) = 4 ∨ (m : Int) = 7) → leastF m = 0 → mostF m = 0 → lenB (m : Int) z.length = decide (z.length ≤ 3) → ((decide ((m : Int) = 3 ∨ (m : Int) = 4 ∨ (m : Int) = 7) || decide (z.length = 0)) && (placesB z 6 && lenB (m : Int) z.length)) = (decide (leastF m ≤ z.length) && (decide (z.length ≤ mostF m) && placesB z 6)) := by
    intro m e1 e2 e3 e4
    rw [decide_eq_false e1, e2, e3, e4, Bool.false_or]
    by_cases h0 : z.length = 0
    · rw [decide_eq_true h0, hz h0, decide_eq_true (by omega), decide_eq_true (by omega), decide_eq_true (by omega)]
    · rw [decide_eq_false h0, decide_eq_false (p := z.length ≤ 0) (by omega)]; simp
  rcases h with rfl | rfl | rfl | rfl | rfl | rfl | rfl
  · exact hgen 1 (by decide) rfl rfl rfl
  · exact hgen 2 (by decide) rfl rfl rfl
  · show ((true || _) && (placesB z 6 && (decide ((1 : Int) ≤ (z.length : Int)) && decide ((z.length : Int) ≤ 6)))) = (decide (1 ≤ z.length) && (decide (z.length ≤ 6) && placesB z 6))
    rw [Bool.true_or, Bool.true_and, Bool.eq_iff_iff]
    simp only [Bool.and_eq_true, decide_eq_true_eq]
    constructor <;> rintro ⟨h1, h2, h3⟩ <;> refine ⟨?_, ?_, ?_⟩ <;> first | assumption | omega
  · show ((true || _) && (placesB z 6 && decide (z.length = 2))) = (decide (2 ≤ z.length) && (decide (z.length ≤ 2) && placesB z 6))
    rw [Bool.true_or, Bool.true_and, Bool.eq_iff_iff]
    simp only [Bool.and_eq_true, decide_eq_true_eq]
    constructor
    · rintro ⟨h1, h2⟩; exact ⟨by omega, by omega, h1⟩
    · rintro ⟨h1, h2, h3⟩; exact ⟨h3, by omega⟩
  · exact hgen 5 (by decide) rfl rfl rfl
  · exact hgen 6 (by decide) rfl rfl rfl
  · show ((true || _) && (placesB z 6 && decide (z.length ≤ 3))) = (decide (0 ≤ z.length) && (decide (z.length ≤ 3) && placesB z 6))
    rw [decide_eq_true (Nat.zero_le _), Bool.true_or, Bool.true_and, Bool.true_and, Bool.and_comm]

def nodeV (d : Nd) (Ac : Option Addr) (cc : Nat) (Az : Option Addr) (cz : Nat) : Array Value := #[.int .i64 d.k, .string d.n, .slice Ac d.c.length cc, .slice Az d.z.length cz, .int .i64 d.p]
theorem size_toList {n : ByteArray} : n.toList.isEmpty = decide (n.size = 0) := by
  rw [ByteArray.toList_eq, Bool.eq_iff_iff, List.isEmpty_iff, decide_eq_true_eq, ← List.length_eq_zero_iff, Array.length_toList]; rfl

set_option maxRecDepth 100000 in
set_option maxHeartbeats 1000000 in
theorem nodeNameOk_any (d : Nd) (Ac : Option Addr) (cc : Nat) (Az : Option Addr) (cz : Nat) (w : World) (hf : fitD 1048576 d) :
    Calls Tryz.prog 62 #[.agg #[.int .i64 d.k, .string d.n, .slice Ac d.c.length cc, .slice Az d.z.length cz, .int .i64 d.p]] w fun e w' => e = .returned (.bool (nameD d)) ∧ Below w.heap.size w w' := by
  have hn := hf.1
  have bc := (Below.refl w.heap.size w).alloc (Nat.le_refl _) (.cells #[.int .i64 d.k, .string d.n, .slice Ac d.c.length cc, .slice Az d.z.length cz, .int .i64 d.p] 33)
  obtain ⟨c0, c1, c2, c3, c4⟩ := (Blk.new w 33 #[.int .i64 d.k, .string d.n, .slice Ac d.c.length cc, .slice Az d.z.length cz, .int .i64 d.p]).c5
  by_cases hk : d.k = 1
  · have hkb : (d.k == 1) = true := by simpa using hk
    have HD := Lib.hid (show nameD d = nameB d.n by unfold nameD; rw [if_pos hk])
    clear hk
    go_enter Tryz.func62, Tryz.ntmps62
    go_wp2_with fail
    generalize w.alloc (.cells #[.int .i64 d.k, .string d.n, .slice Ac d.c.length cc, .slice Az d.z.length cz, .int .i64 d.p] 33) = wb at *
    refine (nameOk_any d.n wb (by omega)).mono ?_
    rintro e w1 ⟨rfl, rfl⟩
    rw [← HD.out]
    go_wp2
    go_ret
    exact ⟨rfl, bc⟩
  · have hkb : (d.k == 1) = false := by simpa using hk
    have HD := Lib.hid (show nameD d = d.n.toList.isEmpty by rw [size_toList]; unfold nameD; rw [if_neg hk])
    clear hk
    obtain ⟨b, hb⟩ : ∃ b, d.n.toList.isEmpty = b := ⟨_, rfl⟩
    go_enter Tryz.func62, Tryz.ntmps62
    go_wp2
    go_ret
    exact ⟨ret_bool (by rw [HD.out, hb]), bc⟩
set_option maxRecDepth 100000 in
set_option maxHeartbeats 1000000 in
theorem nodeCondsOk_any (d : Nd) (Ac : Option Addr) (cc : Nat) (Az : Option Addr) (cz : Nat) (w : World) (hC : Cnds w w.heap.size Ac d.c) (hf : fitD 1048576 d) :
    Calls Tryz.prog 63 #[.agg #[.int .i64 d.k, .string d.n, .slice Ac d.c.length cc, .slice Az d.z.length cz, .int .i64 d.p]] w fun e w' => e = .returned (.bool (condsD d)) ∧ Below w.heap.size w w' := by
  have hl := hf.2.1
  have bc := (Below.refl w.heap.size w).alloc (Nat.le_refl _) (.cells #[.int .i64 d.k, .string d.n, .slice Ac d.c.length cc, .slice Az d.z.length cz, .int .i64 d.p] 33)
  obtain ⟨c0, c1, c2, c3, c4⟩ := (Blk.new w 33 #[.int .i64 d.k, .string d.n, .slice Ac d.c.length cc, .slice Az d.z.length cz, .int .i64 d.p]).c5
  have hCb := hC.on bc
  by_cases hk : d.k = 2
  · have hkb : (d.k == 2) = true := by simpa using hk
    have HD := Lib.hid (show condsD d = rightB d.c by unfold condsD; rw [if_pos hk])
    clear hk hC
    go_enter Tryz.func63, Tryz.ntmps63
    go_wp2_with fail
    generalize w.alloc (.cells #[.int .i64 d.k, .string d.n, .slice Ac d.c.length cc, .slice Az d.z.length cz, .int .i64 d.p] 33) = wb at *
    refine (condsRight_any Ac cc d.c wb hCb (by omega)).mono ?_
    rintro e w1 ⟨rfl, hb1⟩
    rw [← HD.out]
    have hW := bel_step bc hb1
    go_wp2
    go_ret
    exact ⟨rfl, hW⟩
  · have hkb : (d.k == 2) = false := by simpa using hk
    obtain ⟨b, hb⟩ : ∃ b, ((d.c.length : Int) == 0) = b := ⟨_, rfl⟩
    have HD := Lib.hid (show condsD d = b by
      rw [← hb]; unfold condsD; rw [if_neg hk, Bool.eq_iff_iff, decide_eq_true_eq, beq_iff_eq]; omega)
    clear hk
    go_enter Tryz.func63, Tryz.ntmps63
    go_wp2
    go_ret
    exact ⟨ret_bool (by rw [HD.out]), bc⟩
set_option maxRecDepth 100000 in
set_option maxHeartbeats 1000000 in
theorem nodeSumOk_any (d : Nd) (Ac : Option Addr) (cc : Nat) (Az : Option Addr) (cz : Nat) (w : World) :
    Calls Tryz.prog 65 #[.agg #[.int .i64 d.k, .string d.n, .slice Ac d.c.length cc, .slice Az d.z.length cz, .int .i64 d.p]] w fun e w' => e = .returned (.bool (placeD d)) ∧ Below w.heap.size w w' := by
  have bc := (Below.refl w.heap.size w).alloc (Nat.le_refl _) (.cells #[.int .i64 d.k, .string d.n, .slice Ac d.c.length cc, .slice Az d.z.length cz, .int .i64 d.p] 33)
  obtain ⟨c0, c1, c2, c3, c4⟩ := (Blk.new w 33 #[.int .i64 d.k, .string d.n, .slice Ac d.c.length cc, .slice Az d.z.length cz, .int .i64 d.p]).c5
  by_cases hp : d.p = -1
  · have hpb : (d.p == -1) = true := by simpa using hp
    have HD := Lib.hid (show placeD d = true by
      unfold placeD
      split
      · rw [hp]; rfl
      · exact decide_eq_true hp)
    clear hp
    go_enter Tryz.func65, Tryz.ntmps65
    go_wp2
    go_ret
    exact ⟨ret_bool HD.out.symm, bc⟩
  · have hpb : (d.p == -1) = false := by simpa using hp
    by_cases hk : d.k = 7
    · have hkb : (d.k == 7) = true := by simpa using hk
      have HD := Lib.hid (show placeD d = inB d.p 0 5 by
        unfold placeD inB
        rw [if_pos hk]
        congr 1
        exact decide_eq_decide.2 (by omega))
      clear hk hp
      go_enter Tryz.func65, Tryz.ntmps65
      go_wp2_with fail
      generalize w.alloc (.cells #[.int .i64 d.k, .string d.n, .slice Ac d.c.length cc, .slice Az d.z.length cz, .int .i64 d.p] 33) = wb at *
      refine (placeOk_any d.p wb).mono ?_
      rintro e w1 ⟨rfl, rfl⟩
      rw [← HD.out]
      go_wp2
      go_ret
      exact ⟨rfl, bc⟩
    · have hkb : (d.k == 7) = false := by simpa using hk
      have HD := Lib.hid (show placeD d = false by unfold placeD; rw [if_neg hk]; exact decide_eq_false hp)
      clear hk hp
      go_enter Tryz.func65, Tryz.ntmps65
      go_wp2
      go_ret
      exact ⟨ret_bool HD.out.symm, bc⟩
theorem places_stop {ps : List Int} {k : Nat} (h : k < ps.length) (h0 : inB (ix ps k) 0 5 = false) : placesB ps 6 = false := all_stop (fun p => inB p 0 (((6 : Nat) : Int) - 1)) ps k h h0
set_option maxRecDepth 100000 in
set_option maxHeartbeats 2000000 in
theorem nodePlacesOk_any (d : Nd) (Ac : Option Addr) (cc : Nat) (Az : Option Addr) (cz : Nat) (w : World) (hZ : Ints w w.heap.size Az d.z) (hf : fitD 1048576 d) (hk : inB d.k 1 7 = true) (hF : FormsAt w) :
    Calls Tryz.prog 64 #[.agg #[.int .i64 d.k, .string d.n, .slice Ac d.c.length cc, .slice Az d.z.length cz, .int .i64 d.p]] w fun e w' => e = .returned (.bool (placesD d)) ∧ Below w.heap.size w w' := by
  have hlz := hf.2.2
  obtain ⟨q, hq, q1, q7⟩ := kind_nat hk
  have HPD := Lib.hid (placesD_eq hq q1 q7)
  generalize placesD d = R at *
  have bc := (Below.refl w.heap.size w).alloc (Nat.le_refl _) (.cells #[.int .i64 d.k, .string d.n, .slice Ac d.c.length cc, .slice Az d.z.length cz, .int .i64 d.p] 33)
  have B := Blk.new w 33 #[.int .i64 d.k, .string d.n, .slice Ac d.c.length cc, .slice Az d.z.length cz, .int .i64 d.p]
  have hFb := hF.on bc
  have hZb := hZ.on bc
  rw [hq] at bc B hFb hZb ⊢
  clear hf hk hq hF hZ
  have hlt : w.heap.size < (w.alloc (.cells #[.int .i64 (q : Int), .string d.n, .slice Ac d.c.length cc, .slice Az d.z.length cz, .int .i64 d.p] 33)).heap.size := B.lt
  obtain ⟨c0, c1, c2, c3, c4⟩ := B.c5
  obtain ⟨f0, f1, f2, f3⟩ := hFb q (by omega)
  have q8 : (q : Int) < 8 := by omega
  have bc2 := bc.alloc bc.size (.cells #[.string (wnx q), .int .i64 (looksF q), .int .i64 (leastF q), .int .i64 (mostF q)] 71)
  have hZ2 := hZb.on ((Below.refl _ _).alloc (Nat.le_refl _) (.cells #[.string (wnx q), .int .i64 (looksF q), .int .i64 (leastF q), .int .i64 (mostF q)] 71))
  clear B hFb hZb
  by_cases h1 : leastF q ≤ d.z.length
  · have d1 : decide (d.z.length < leastF q) = false := decide_eq_false (by omega)
    have H1 := Lib.hid h1
    clear h1
    by_cases h2 : d.z.length ≤ mostF q
    · have d2 : decide (mostF q < d.z.length) = false := decide_eq_false (by omega)
      have HR := Lib.hid (show R = placesB d.z 6 by rw [HPD.out, decide_eq_true H1.out, decide_eq_true h2]; rfl)
      clear h2 HPD
      go_enter Tryz.func64, Tryz.ntmps64
      go_wp2_with fail
      generalize (w.alloc (.cells #[.int .i64 (q : Int), .string d.n, .slice Ac d.c.length cc, .slice Az d.z.length cz, .int .i64 d.p] 33)).alloc (.cells #[.string (wnx q), .int .i64 (looksF q), .int .i64 (leastF q), .int .i64 (mostF q)] 71) = wb at *
      clear c0 c1 c2 c3 c4 f0 f1 f2 f3 bc hlt
      go_loop [27] (fun i => ∃ k : Nat, k ≤ d.z.length ∧ i = .int .i64 k ∧ (d.z.take k).all (fun x => inB x 0 5) = true) (fun i => d.z.length - (intOf i).toNat)
      case atStart => exact ⟨0, Nat.zero_le _, rfl, by simp⟩
      case round =>
        obtain ⟨k, hk, rfl, ht⟩ := hrel
        have HT := Lib.hid ht
        clear ht
        by_cases hlt : k < d.z.length
        · obtain ⟨b, off, rfl, hb, hc⟩ := hZ2 (by omega)
          have hck := hc k hlt
          clear hc
          go_wp2_with fail
          refine (placeOk_any (ix d.z k) wb).mono ?_
          rintro e w1 ⟨rfl, rfl⟩
          cases hi : inB (ix d.z k) 0 5 with
          | false =>
            have HF := Lib.hid (show R = false by rw [HR.out]; exact places_stop hlt hi)
            clear hi
            go_wp2
            go_ret
            exact ⟨ret_bool HF.out.symm, bc2⟩
          | true =>
            have HS := Lib.hid (show (d.z.take (k + 1)).all (fun x => inB x 0 5) = true by rw [all_take_succ _ _ _ hlt, HT.out, hi]; rfl)
            clear hi
            go_wp2
            go_round
            case rel => exact ⟨k + 1, by omega, by go_num, HS.out⟩
            case measure => simp [intOf]; omega
        · have hd : decide (k < d.z.length) = false := by simpa using hlt
          have HF := Lib.hid (show R = true by
            rw [HR.out]
            have := HT.out
            rw [List.take_of_length_le (by omega)] at this
            exact this)
          go_wp2
          go_ret
          exact ⟨ret_bool HF.out.symm, bc2⟩
    · have d2 : mostF q < d.z.length := by omega
      have HR := Lib.hid (show R = false by rw [HPD.out, decide_eq_true H1.out, decide_eq_false h2]; rfl)
      clear h2 HPD
      go_enter Tryz.func64, Tryz.ntmps64
      go_wp2
      go_ret
      exact ⟨ret_bool HR.out.symm, bc2⟩
  · have d1 : d.z.length < leastF q := by omega
    have HR := Lib.hid (show R = false by rw [HPD.out, decide_eq_false h1]; rfl)
    clear h1 HPD
    go_enter Tryz.func64, Tryz.ntmps64
    go_wp2
    go_ret
    exact ⟨ret_bool HR.out.symm, bc2⟩
set_option maxRecDepth 100000 in
set_option maxHeartbeats 2000000 in
theorem implNodeOk_any (d : Nd) (Ac : Option Addr) (cc : Nat) (Az : Option Addr) (cz : Nat) (w : World) (hC : Cnds w w.heap.size Ac d.c) (hZ : Ints w w.heap.size Az d.z) (hf : fitD 1048576 d) (hF : FormsAt w) :
    Calls Tryz.prog 49 #[.agg #[.int .i64 d.k, .string d.n, .slice Ac d.c.length cc, .slice Az d.z.length cz, .int .i64 d.p]] w fun e w' => e = .returned (.bool (nodeB d)) ∧ Below w.heap.size w w' := by
  obtain ⟨R, hR⟩ : ∃ R, nodeB d = R := ⟨_, rfl⟩
  have HQ := Lib.hid hR
  rw [hR]
  clear hR
  have bc := (Below.refl w.heap.size w).alloc (Nat.le_refl _) (.cells #[.int .i64 d.k, .string d.n, .slice Ac d.c.length cc, .slice Az d.z.length cz, .int .i64 d.p] 33)
  have B := Blk.new w 33 #[.int .i64 d.k, .string d.n, .slice Ac d.c.length cc, .slice Az d.z.length cz, .int .i64 d.p]
  obtain ⟨c0, c1, c2, c3, c4⟩ := B.c5
  have hCb := hC.on bc
  have hZb := hZ.on bc
  have hFb := hF.on bc
  clear hC hZ hF
  by_cases h1 : d.k < 1
  · have HF := Lib.hid (show R = false by rw [← HQ.out]; exact nodeB_k (by unfold inB; rw [decide_eq_false (by omega)]; rfl))
    go_enter Tryz.func49, Tryz.ntmps49
    go_wp2
    go_ret
    exact ⟨ret_bool HF.out.symm, bc⟩
  by_cases h7 : 7 < d.k
  · have HF := Lib.hid (show R = false by rw [← HQ.out]; exact nodeB_k (by unfold inB; rw [decide_eq_false (p := d.k ≤ 7) (by omega), Bool.and_false]))
    have d1 : decide (d.k < 1) = false := decide_eq_false h1
    go_enter Tryz.func49, Tryz.ntmps49
    go_wp2
    go_ret
    exact ⟨ret_bool HF.out.symm, bc⟩
  have d1 : decide (d.k < 1) = false := decide_eq_false h1
  have d7 : decide (7 < d.k) = false := decide_eq_false h7
  have HK := Lib.hid (show inB d.k 1 7 = true by unfold inB; rw [decide_eq_true (by omega), decide_eq_true (by omega)]; rfl)
  clear h1 h7
  go_enter Tryz.func49, Tryz.ntmps49
  go_wp2_with fail
  generalize w.alloc (.cells #[.int .i64 d.k, .string d.n, .slice Ac d.c.length cc, .slice Az d.z.length cz, .int .i64 d.p] 33) = wb at *
  refine (nodeNameOk_any d Ac cc Az cz wb hf).mono ?_
  rintro e w1 ⟨rfl, hb⟩
  have hW1 := bel_step bc hb
  replace B := B.on hb
  replace hCb := hCb.on hb
  replace hZb := hZb.on hb
  replace hFb := hFb.on hb
  clear hb bc c0 c1 c2 c3 c4
  obtain ⟨c0, c1, c2, c3, c4⟩ := B.c5
  cases hn : nameD d with
  | false =>
    have HF := Lib.hid (show R = false by rw [← HQ.out]; exact nodeB_n hn)
    clear hn
    go_wp2
    go_ret
    exact ⟨ret_bool HF.out.symm, hW1⟩
  | true =>
    have HN := Lib.hid hn
    clear hn
    go_wp2_with fail
    refine (nodeCondsOk_any d Ac cc Az cz w1 hCb hf).mono ?_
    rintro e w2 ⟨rfl, hb⟩
    have hW2 := bel_step hW1 hb
    replace B := B.on hb
    replace hZb := hZb.on hb
    replace hFb := hFb.on hb
    clear hb hW1 hCb c0 c1 c2 c3 c4
    obtain ⟨c0, c1, c2, c3, c4⟩ := B.c5
    cases hc : condsD d with
    | false =>
      have HF := Lib.hid (show R = false by rw [← HQ.out]; exact nodeB_c hc)
      clear hc
      go_wp2
      go_ret
      exact ⟨ret_bool HF.out.symm, hW2⟩
    | true =>
      have HC := Lib.hid hc
      clear hc
      go_wp2_with fail
      refine (nodePlacesOk_any d Ac cc Az cz w2 hZb hf HK.out hFb).mono ?_
      rintro e w3 ⟨rfl, hb⟩
      have hW3 := bel_step hW2 hb
      replace B := B.on hb
      clear hb hW2 hZb hFb c0 c1 c2 c3 c4
      obtain ⟨c0, c1, c2, c3, c4⟩ := B.c5
      cases hp : placesD d with
      | false =>
        have HF := Lib.hid (show R = false by rw [← HQ.out]; exact nodeB_z hp)
        clear hp
        go_wp2
        go_ret
        exact ⟨ret_bool HF.out.symm, hW3⟩
      | true =>
        have HE := Lib.hid (show R = placeD d by rw [← HQ.out]; exact nodeB_is HK.out HN.out HC.out hp)
        clear hp
        go_wp2_with fail
        refine (nodeSumOk_any d Ac cc Az cz w3).mono ?_
        rintro e w4 ⟨rfl, hb⟩
        have hW4 := bel_step hW3 hb
        rw [← HE.out]
        go_wp2
        go_ret
        exact ⟨rfl, hW4⟩
set_option maxRecDepth 100000 in
set_option maxHeartbeats 4000000 in
theorem implViewOk_any (A : Option Addr) (c : Nat) (v : List Nd) (w : World) (hT : Nds w w.heap.size A v) (hf : fitN 1048576 v) (hF : FormsAt w) :
    Calls Tryz.prog 31 #[.slice A v.length c] w fun e w' => e = .returned (.bool (viewB v)) ∧ Below w.heap.size w w' := by
  have HFT := Lib.hid hf
  have HFB := Lib.hid (freeAt_bound v)
  clear hf
  by_cases h9 : 9 < v.length
  · have HF := Lib.hid (show viewB v = false by unfold viewB; rw [decide_eq_false (p := v.length ≤ 9) (by omega)]; simp)
    have h9i : (9 : Int) < (v.length : Int) := by omega
    go_enter Tryz.func31, Tryz.ntmps31
    go_wp2
    go_ret
    exact ⟨ret_bool HF.out.symm, Below.refl _ _⟩
  have d9 : decide ((9 : Int) < (v.length : Int)) = false := decide_eq_false (by omega)
  have hl9 : v.length ≤ 9 := by omega
  clear h9
  go_enter Tryz.func31, Tryz.ntmps31
  go_wp2
  go_loopw [3, 11] (fun f i wr => ∃ k : Nat, k ≤ v.length ∧ i = .int .i64 k ∧ f = .int .i64 (freeAt v k) ∧ (List.range k).all (okNd v) = true ∧ Below w.heap.size w wr) (fun _ i _ => v.length - (intOf i).toNat)
  case atStart => exact ⟨0, Nat.zero_le _, rfl, rfl, rfl, Below.refl _ _⟩
  case round =>
    obtain ⟨k, hk, rfl, rfl, ht, hW⟩ := hrel
    have HT := Lib.hid ht
    have hTr := hT.on hW
    have hFr := hF.on hW
    have hfb := HFB.out k hk
    clear ht hT hF d9
    by_cases hlt : k < v.length
    · obtain ⟨b, off, Ac, cc, Az, cz, rfl, hb, c0, c1, c2, c3, c4, hC, hZ⟩ := hTr.here hlt
      have HO := Lib.hid (show okNd v k = (nodeB (ndx v k) && decide ((looksN (ndx v k).k : Int) ≤ freeAt v k)) from rfl)
      have HS := Lib.hid (freeAt_succ hlt)
      obtain ⟨F, hF⟩ : ∃ F, freeAt v k = F := ⟨_, rfl⟩
      rw [hF] at hfb HO HS ⊢
      have bc := (Below.refl wr.heap.size wr).alloc (Nat.le_refl _) (.cells #[.int .i64 (ndx v k).k, .string (ndx v k).n, .slice Ac (ndx v k).c.length cc, .slice Az (ndx v k).z.length cz, .int .i64 (ndx v k).p] 33)
      have B := Blk.new wr 33 #[.int .i64 (ndx v k).k, .string (ndx v k).n, .slice Ac (ndx v k).c.length cc, .slice Az (ndx v k).z.length cz, .int .i64 (ndx v k).p]
      have hCb := hC.on bc
      have hZb := hZ.on bc
      have hFb := hFr.on bc
      have hWb := bel_step hW bc
      clear hF hTr hC hZ hFr bc hW
      go_wp2_with fail
      generalize wr.alloc (.cells #[.int .i64 (ndx v k).k, .string (ndx v k).n, .slice Ac (ndx v k).c.length cc, .slice Az (ndx v k).z.length cz, .int .i64 (ndx v k).p] 33) = wb at *
      refine (implNodeOk_any (ndx v k) Ac cc Az cz wb hCb hZb (HFT.out k hlt) hFb).mono ?_
      rintro e w1 ⟨rfl, hb1⟩
      have hW1 := bel_step hWb hb1
      replace B := B.on hb1
      replace hFb := hFb.on hb1
      obtain ⟨b0, b1, b2, b3, b4⟩ := B.c5
      clear c0 c1 c2 c3 c4 hCb hZb hWb hb1 B
      cases hok : nodeB (ndx v k) with
      | false =>
        have HF := Lib.hid (viewB_stop hlt (by rw [HO.out, hok]; rfl))
        clear hok
        go_wp2
        go_ret
        exact ⟨ret_bool HF.out.symm, hW1⟩
      | true =>
        obtain ⟨q, hq, q1, q7⟩ := kind_nat (nodeB_all hok).1
        have HOK := Lib.hid hok
        rw [hq] at HO HS b0
        rw [← looksF_eq q1] at HO HS
        obtain ⟨f0, f1, f2, f3⟩ := hFb q (by omega)
        have q8 : (q : Int) < 8 := by omega
        have hl2 := looksF_le q
        clear hok hq hFb
        by_cases hlo : ((looksF q : Nat) : Int) ≤ F
        · have hls : decide (F < ((looksF q : Nat) : Int)) = false := by simp; omega
          have HR := Lib.hid (show (List.range (k + 1)).all (okNd v) = true by rw [okNd_succ, HT.out, HO.out, HOK.out, decide_eq_true hlo]; rfl)
          have hw1 : IntKind.i64.wrap (1 - ((looksF q : Nat) : Int)) = 1 - ((looksF q : Nat) : Int) := by rw [IntKind.wrap_i64]; omega
          have hw2 : IntKind.i64.wrap (F + (1 - ((looksF q : Nat) : Int))) = F + (1 - ((looksF q : Nat) : Int)) := by rw [IntKind.wrap_i64]; omega
          have HS2 := Lib.hid (show F + (1 - ((looksF q : Nat) : Int)) = freeAt v (k + 1) by rw [HS.out]; omega)
          clear hlo
          generalize ((looksF q : Nat) : Int) = L at *
          go_wp2
          go_roundw
          case rel => exact ⟨k + 1, by omega, by go_num, by rw [HS2.out], HR.out, hW1⟩
          case measure => simp [intOf]; omega
        · have hls : F < ((looksF q : Nat) : Int) := by omega
          have HF := Lib.hid (viewB_stop hlt (by rw [HO.out, HOK.out, decide_eq_false hlo]; rfl))
          clear hlo
          generalize ((looksF q : Nat) : Int) = L at *
          go_wp2
          go_ret
          exact ⟨ret_bool HF.out.symm, hW1⟩
    · have hd : decide (k < v.length) = false := by simpa using hlt
      obtain rfl : k = v.length := by omega
      have HE := Lib.hid (viewB_end HT.out)
      obtain ⟨b, hb⟩ : ∃ b, (freeAt v v.length == 1) = b := ⟨_, rfl⟩
      have HR := Lib.hid (show viewB v = b by
        rw [HE.out, ← hb, decide_eq_true hl9, Bool.and_true]
        rw [Bool.eq_iff_iff, decide_eq_true_eq, beq_iff_eq])
      generalize freeAt v v.length = F at *
      go_wp2
      go_ret
      exact ⟨ret_bool HR.out.symm, hW⟩
end Go.Proofs.YtpadhcoboapodaaGreatDoor

/- What the rows' condition on the program's own table of the nodes' forms gives the walks. No condition of its own. -/
namespace Go.Proofs.YtpadhcoboapodaaGreatDoor
open Go.RowKit Go.Lib Go.Joins Go.ChangeShapes Go.WideShapes Go.ChangeAt Go.Deep

theorem cells_of_forms {H : Type} {enc : TypeId × Value → H} {P : Program} {w : World} {base : Nat} {sp : Nat → Bool} {held : Bool} {fuel : Nat} {t e : TypeId} {f0 f1 f2 f3 : Field} {n : Nat} {cs : List Value} {ts : List (List UInt8 × Int × Int × Int)} {p : List MemPlace}
    (ht : P.underlying t = some (.array n e)) (he : P.underlying e = some (.struct #[f0, f1, f2, f3])) (hce : P.cellsOf e = 4) (hct : P.cellsOf t = n * 4)
    (o0 : f0.offset = 0) (o1 : f1.offset = 1) (o2 : f2.offset = 2) (o3 : f3.offset = 3) (c0 : P.cellsOf f0.type = 1) (c1 : P.cellsOf f1.type = 1) (c2 : P.cellsOf f2.type = 1) (c3 : P.cellsOf f3.type = 1)
    (u0 : P.underlying f0.type = some .string) (u1 : P.underlying f1.type = some (.int .i64)) (u2 : P.underlying f2.type = some (.int .i64)) (u3 : P.underlying f3.type = some (.int .i64))
    (h : DataW.trod enc P w base sp held fuel t cs = some (.agg (ts.map fun x => .agg [.lit (.string x.1), .lit (.int .i64 x.2.1), .lit (.int .i64 x.2.2.1), .lit (.int .i64 x.2.2.2)]), p)) :
    ∀ i x, ts[i]? = some x → cs[i * 4]? = some (.string ⟨x.1.toArray⟩) ∧ cs[i * 4 + 1]? = some (.int .i64 x.2.1) ∧ cs[i * 4 + 2]? = some (.int .i64 x.2.2.1) ∧ cs[i * 4 + 3]? = some (.int .i64 x.2.2.2) := by
  cases fuel with
  | zero => simp [DataW.trod] at h
  | succ fuel =>
    simp only [DataW.trod, ht, hce, hct] at h
    split at h
    · rename_i hl
      obtain ⟨xs, hm, hx⟩ := Option.map_eq_some_iff.1 h
      have hxs : xs.map (·.1) = ts.map fun x => (DataW.agg [.lit (.string x.1), .lit (.int .i64 x.2.1), .lit (.int .i64 x.2.2.1), .lit (.int .i64 x.2.2.2)] : DataW H) := by
        have := congrArg Prod.fst hx
        simpa using this
      have hxl : xs.length = n := by simpa using mapM_length hm
      have hzl : ts.length = n := by
        have := congrArg List.length hxs
        simp at this
        omega
      intro i x hi
      have hin : i < n := by
        have := (List.getElem?_eq_some_iff.1 hi).1
        omega
      obtain ⟨b, hb, hf⟩ := mapM_at hm i i (by simp [hin])
      have h2 : (xs.map (·.1))[i]? = some b.1 := by simp [hb]
      rw [hxs, List.getElem?_map, hi] at h2
      have h3 := Option.some.inj h2
      obtain ⟨y0, y1, y2, y3, m, rfl, _, g0, g1, g2, g3⟩ := trod_struct4 he hf
      obtain ⟨s, k0, rfl, _⟩ := DataW.trod_string u0 g0
      obtain ⟨a1, k1, rfl, _⟩ := DataW.trod_int u1 g1
      obtain ⟨a2, k2, rfl, _⟩ := DataW.trod_int u2 g2
      obtain ⟨a3, k3, rfl, _⟩ := DataW.trod_int u3 g3
      rw [o0, c0] at k0
      rw [o1, c1] at k1
      rw [o2, c2] at k2
      rw [o3, c3] at k3
      simp only [DataW.agg.injEq, List.cons.injEq, DataW.lit.injEq, Lit.string.injEq, Lit.int.injEq, true_and, and_true] at h3
      obtain ⟨e0, e1, e2, e3⟩ := h3
      have q0 := congrArg (·[0]?) k0
      have q1 := congrArg (·[0]?) k1
      have q2 := congrArg (·[0]?) k2
      have q3 := congrArg (·[0]?) k3
      simp [List.getElem?_drop] at q0 q1 q2 q3
      rw [e0, e1, e2, e3]
      exact ⟨q0, q1, q2, q3⟩
    · cases h
theorem formsAt_of {W : World} {r : List (String × DataW Unit)} (h : laidMet Tryz.prog (("loop.example/g00604/impl.nodeForms", Rows.laid_loop_example_g00604_impl_nodeForms) :: r) W) : FormsAt W := by
  have hg : Tryz.prog.globalNamed "loop.example/g00604/impl.nodeForms" = some 0 := by kernel_rfl
  have hty : (Tryz.prog.globals[0]?).map (·.type) = some 72 := by kernel_rfl
  obtain ⟨ps, ⟨g', t', cs, fuel, p, q, hg', ht', hvar, hd, _, _⟩, _⟩ := h
  obtain rfl := Option.some.inj (hg.symm.trans hg')
  obtain rfl := Option.some.inj (hty.symm.trans ht')
  have hcs := cells_of_forms (ts := (List.range 8).map fun k => (bl (wnx k), ((looksF k : Nat) : Int), ((leastF k : Nat) : Int), ((mostF k : Nat) : Int))) Tryz.underlying72 Tryz.underlying71 (by kernel_rfl) (by kernel_rfl) rfl rfl rfl rfl (by kernel_rfl) (by kernel_rfl) (by kernel_rfl) (by kernel_rfl) (by kernel_rfl) (by kernel_rfl) (by kernel_rfl) (by kernel_rfl) (hd.trans rfl)
  intro k hk
  obtain ⟨h0, h1, h2, h3⟩ := hcs k (bl (wnx k), ((looksF k : Nat) : Int), ((leastF k : Nat) : Int), ((mostF k : Nat) : Int)) (by simp [hk])
  have v0 := World.var?_cell hg hvar (k * 4)
  have v1 := World.var?_cell hg hvar (k * 4 + 1)
  have v2 := World.var?_cell hg hvar (k * 4 + 2)
  have v3 := World.var?_cell hg hvar (k * 4 + 3)
  rw [← Array.getElem?_toList] at v0 v1 v2 v3
  exact ⟨v0.trans h0, v1.trans h1, v2.trans h2, v3.trans h3⟩
end Go.Proofs.YtpadhcoboapodaaGreatDoor

/- Conds shown: the program's ShowConds; for every list of conds. -/
namespace Go.Proofs.YtpadhcoboapodaaGreatDoor
open Go.RowKit

def shwT (l : List Cnd) : List ByteArray := l.map fun c => mkB (showC c)
theorem shwT_length (l : List Cnd) : (shwT l).length = l.length := by simp [shwT]
theorem shwT_get (l : List Cnd) {k : Nat} (h : k < l.length) : (shwT l)[k]? = some (mkB (showC (cx l k))) := by
  simp [shwT, cx_eq l k h, h]
/-- The texts made so far: the first k, then empty ones. -/
def shwA (l : List Cnd) (k : Nat) : Array Value := ((shwT (l.take k)).map Value.string ++ List.replicate (l.length - k) (Value.string ⟨#[]⟩)).toArray
theorem shwA_size (l : List Cnd) {k : Nat} (h : k ≤ l.length) : (shwA l k).size = l.length := by simp [shwA, shwT]; omega
theorem shwA_zero (l : List Cnd) : shwA l 0 = madeCells #[Value.string ⟨#[]⟩] l.length := by
  apply Array.toList_inj.1
  rw [toList_madeCells_one]
  simp [shwA, shwT]
theorem shwA_all (l : List Cnd) : shwA l l.length = ((shwT l).map Value.string).toArray := by simp [shwA]
theorem shwA_step (l : List Cnd) {k : Nat} (h : k < l.length) : (shwA l k).setIfInBounds k (.string (mkB (showC (cx l k)))) = shwA l (k + 1) := by
  apply Array.ext_getElem?
  intro j
  rw [Array.getElem?_setIfInBounds, shwA_size l (by omega)]
  unfold shwA
  by_cases e : k = j
  · subst e
    rw [if_pos rfl, if_pos h]
    rw [List.getElem?_toArray, List.getElem?_append_left (by simp [shwT]; omega), List.getElem?_map, shwT, List.getElem?_map, List.getElem?_take, if_pos (by omega), List.getElem?_eq_getElem h, cx_eq l k h]
    rfl
  · rw [if_neg e, List.getElem?_toArray, List.getElem?_toArray]
    by_cases hj : j < k
    · rw [List.getElem?_append_left (by simp [shwT]; omega), List.getElem?_append_left (by simp [shwT]; omega), List.getElem?_map, List.getElem?_map, shwT, shwT, List.getElem?_map, List.getElem?_map, List.getElem?_take, List.getElem?_take, if_pos hj, if_pos (by omega)]
    · rw [List.getElem?_append_right (by simp [shwT]; omega), List.getElem?_append_right (by simp [shwT]; omega), List.getElem?_replicate, List.getElem?_replicate]
      simp only [shwT, List.length_map, List.length_take]
      rw [Nat.min_eq_left (by omega), Nat.min_eq_left (by omega)]
      congr 1
      exact propext ⟨fun h => by omega, fun h => by omega⟩
theorem join_cat (ws : List (List UInt8)) : Lib.join ws [44] = cat [44] ws := by
  induction ws with
  | nil => rfl
  | cons w r ih =>
    cases r with
    | nil => simp [Lib.join, cat]
    | cons v q => rw [cat, ← ih]; simp [Lib.join]
theorem showC_len (c : Cnd) (h : condB c = true) : (showC c).length ≤ 46 := by
  obtain ⟨hp, ho, ht⟩ := condB_iff.1 h
  have hx := condB_other h
  have h1 := Lib.itoa_length_le c.p (by omega) (by omega)
  have h2 := Lib.itoa_length_le c.t (by omega) (by omega)
  unfold showC otherL
  split <;> simp <;> omega
theorem cat_le (n : Nat) : ∀ ws : List (List UInt8), (∀ w ∈ ws, w.length ≤ n) → (cat [44] ws).length ≤ ws.length * (n + 1)
  | [], _ => by simp [cat]
  | [w], h => by have := h w (by simp); simp [cat]; omega
  | w :: v :: r, h => by
    have h1 := h w (by simp)
    have h2 := cat_le n (v :: r) (fun x hx => h x (by simp [hx]))
    rw [cat]
    simp only [List.length_append, List.length_cons, List.length_nil] at h2 ⊢
    rw [Nat.add_mul] at h2 ⊢
    rw [Nat.add_mul]
    omega
theorem showCs_len {l : List Cnd} (h : rightB l = true) : (cat [44] (l.map showC)).length ≤ 141 := by
  obtain ⟨h1, h3⟩ := rightB_iff.1 h
  have := cat_le 46 (l.map showC) (fun w hw => by obtain ⟨c, hc, rfl⟩ := List.mem_map.1 hw; exact showC_len c (h1 c hc))
  rw [List.length_map] at this
  omega
theorem mkB_bl_map (l : List Cnd) : (shwT l).map (fun s => s.data.toList) = l.map showC := by
  unfold shwT
  rw [List.map_map]
  exact List.map_congr_left fun c _ => bl_mkB (showC c)

set_option maxRecDepth 100000 in
set_option maxHeartbeats 4000000 in
theorem implShowConds_any (A : Option Addr) (c : Nat) (l : List Cnd) (w : World) (hC : Cnds w w.heap.size A l) (hl : l.length ≤ 1099511627776) (htab : Lib.TabBelow Tryz.prog w.heap.size w "internal/strconv.uint64pow10" .u64 Lib.pow10Tab) :
    Calls Tryz.prog 46 #[.slice A l.length c] w fun e w' => e = .returned (.string (mkB (showCs l))) ∧ Below w.heap.size w w' := by
  obtain ⟨S, hS⟩ : ∃ S, mkB (showCs l) = S := ⟨_, rfl⟩
  have HS := Lib.hid hS
  rw [hS]
  clear hS
  have HT := Lib.hid htab
  clear htab
  go_enter Tryz.func46, Tryz.ntmps46
  go_wp2_with fail
  refine (condsRight_any A c l w hC hl).mono ?_
  rintro e w1 ⟨rfl, hb1⟩
  cases hr : rightB l with
  | false =>
    have HD := Lib.hid (show S = ⟨#[]⟩ by rw [← HS.out]; unfold showCs; rw [hr]; rfl)
    clear hr
    go_wp2
    go_ret
    exact ⟨congrArg (fun s => Ending.returned (.string s)) HD.out.symm, hb1⟩
  | true =>
    have HR := Lib.hid hr
    have HC1 := Lib.hid (rightB_iff.1 hr)
    have hl3 : l.length ≤ 3 := HC1.out.2
    have hCr := hC.on hb1
    have HCW := Lib.hid (show ∀ W, Below w.heap.size w W → Cnds W W.heap.size A l from fun W h => hC.on h)
    clear hr hC
    by_cases h0 : l.length = 0
    · have HD := Lib.hid (show S = ⟨#[45]⟩ by
        rw [← HS.out]; unfold showCs
        rw [if_pos HR.out, if_pos (List.length_eq_zero_iff.1 h0)]; rfl)
      have hz : ((l.length : Int) == 0) = true := by simp [h0]
      have HZ := Lib.hid h0
      clear h0
      go_wp2
      go_ret
      exact ⟨congrArg (fun s => Ending.returned (.string s)) HD.out.symm, hb1⟩
    · have HD := Lib.hid (show S = mkB (cat [44] (l.map showC)) by
        rw [← HS.out]; unfold showCs
        rw [if_pos HR.out, if_neg (fun e => h0 (by rw [e]; rfl))])
      have hz : ((l.length : Int) == 0) = false := by simp; exact fun e => h0 (by rw [e]; rfl)
      have h1 : 0 < l.length := by omega
      have hmk := fun wx => run_make_row' (P := Tryz.prog) 28 9 (.string ⟨#[]⟩) 16 Tryz.underlying28 info_str rfl .i64 .i64 l.length (by omega) (by omega) wx
      have hWm := hb1.alloc hb1.size (.cells (madeCells #[Value.string ⟨#[]⟩] l.length) 9)
      have hBm := Blk.new w1 9 (madeCells #[Value.string ⟨#[]⟩] l.length)
      rw [← shwA_zero] at hBm hWm
      have hG1 : w.heap.size ≤ w1.heap.size := hb1.size
      clear h0 hb1 hCr
      go_wp2_with fail
      clear hmk hz
      go_loopw [17] (fun i wr => ∃ k : Nat, k ≤ l.length ∧ i = .int .i64 k ∧ Blk wr w1.heap.size 9 (shwA l k) ∧ Below w.heap.size w wr) (fun i _ => l.length - (intOf i).toNat)
      case atStart => exact ⟨0, Nat.zero_le _, rfl, by rw [shwA_zero] at hBm ⊢; exact hBm, by rw [shwA_zero] at hWm; exact hWm⟩
      case round =>
        clear hBm hWm
        obtain ⟨k, hk, rfl, hB, hW⟩ := hrel
        have hCr := HCW.out wr hW
        by_cases hlt : k < l.length
        · have hcb := HC1.out.1 _ (cx_mem hlt)
          obtain ⟨b, off, rfl, _, h0, h1', h2, h3⟩ := hCr.here hlt
          have bc := (Below.refl wr.heap.size wr).alloc (Nat.le_refl _) (.cells #[.int .i64 (cx l k).p, .int .i64 (cx l k).o, .int .i64 (cx l k).t, .bool (cx l k).i] 63)
          obtain ⟨c0, c1, c2, c3⟩ := (Blk.new wr 63 #[.int .i64 (cx l k).p, .int .i64 (cx l k).o, .int .i64 (cx l k).t, .bool (cx l k).i]).c4
          have hWb := bel_step hW bc
          have hBb := hB.on bc
          have HCB := Lib.hid hcb
          clear hcb hCr hW hB bc
          go_wp2_with fail
          generalize wr.alloc (.cells #[.int .i64 (cx l k).p, .int .i64 (cx l k).o, .int .i64 (cx l k).t, .bool (cx l k).i] 63) = wa at *
          refine (showCond_any (cx l k) wa HCB.out (fun w' h => HT.out w' (hWb.trans (h.mono hWb.size)))).mono ?_
          rintro e w2 ⟨rfl, hb2⟩
          have hW2 := bel_step hWb hb2
          have hB2 := hBb.on hb2
          have hsz := shwA_size l (k := k) (by omega)
          obtain ⟨dv, d0⟩ : ∃ dv, w2.cell? ⟨w1.heap.size, k, none⟩ = some dv := ⟨(shwA l k)[k]'(by omega), by rw [hB2.cell k, Array.getElem?_eq_getElem (by omega)]⟩
          have f0 := hB2.frozen k
          have hB3 := hB2.set_ k (.string (mkB (showC (cx l k))))
          rw [shwA_step l hlt] at hB3
          have HB3 := Lib.hid hB3
          have hW3 := hW2.setCell (p := ⟨w1.heap.size, k, none⟩) hG1 (.string (mkB (showC (cx l k))))
          have HW3 := Lib.hid hW3
          generalize mkB (showC (cx l k)) = sc at *
          clear h0 h1' h2 h3 c0 c1 c2 c3 hWb hBb hb2 hB3 hW3 hB2 hW2 hsz
          go_wp2
          go_roundw
          case rel => exact ⟨k + 1, by omega, by go_num, HB3.out, HW3.out⟩
          case measure => simp [intOf]; omega
        · have hd : decide (k < l.length) = false := by simpa using hlt
          obtain rfl : k = l.length := by omega
          rw [shwA_all] at hB
          have hcells : ∀ (j : Nat) x, (shwT l)[j]? = some x → wr.cell? ⟨w1.heap.size, 0 + j, none⟩ = some (.string x) := fun j x hx => by
            rw [Nat.zero_add, hB.cell j]
            simp [hx]
          have hlen := showCs_len HR.out
          have hjl : (Lib.join ((shwT l).map (·.data.toList)) (bl ⟨#[44]⟩)).length ≤ 140737488355328 := by
            rw [mkB_bl_map, show bl ⟨#[44]⟩ = [44] from rfl, join_cat]; omega
          have hJ := Tryz.strings_Join w1.heap.size 0 l.length (shwT l) ⟨#[44]⟩ wr hcells hB.lt (by rw [shwT_length]; omega) (by rw [shwT_length]; exact Nat.le_refl _) hjl
          rw [shwT_length] at hJ
          have HJ := Lib.hid hJ
          have HJE := Lib.hid (show (⟨(Lib.join ((shwT l).map (·.data.toList)) (bl ⟨#[44]⟩)).toArray⟩ : ByteArray) = S by rw [mkB_bl_map, show bl ⟨#[44]⟩ = [44] from rfl, join_cat, HD.out]; rfl)
          clear hcells hjl hJ hlen
          go_wp2_with fail
          refine HJ.out.mono ?_
          rintro e w3 ⟨rfl, hb3⟩
          rw [show (⟨(Lib.join ((shwT l).map (·.data.toList)) (ByteArray.data ⟨#[44]⟩).toList).toArray⟩ : ByteArray) = S from HJE.out]
          have hW3 := bel_step hW hb3
          go_wp2
          go_ret
          exact ⟨rfl, hW3⟩
end Go.Proofs.YtpadhcoboapodaaGreatDoor
