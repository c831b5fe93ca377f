/- The laws' words on nodes and views: sizes, copies, comparing; nothing that lay has turned. -/
import Derived.Test.YtejgofhpjkebbaaDoorNod0
import Derived.Test.YtejgofhpjkebbaaDoorJB
import Derived.StillTailTactics
namespace Go.Proofs.YtejgofhpjkebbaaDoor
open Go.RowKit

/-! ### sizes -/
def SzN (P : Prop) (left : Int) (w : World) (e : Ending) (w' : World) : Prop := ∃ x, e = .returned (.int .i64 x) ∧ x ≤ left ∧ (0 ≤ x → P) ∧ Below w.heap.size w w'
set_option maxRecDepth 100000 in
set_option maxHeartbeats 2000000 in
theorem szNode_any (d : Nd) (Ac : Option Addr) (cc : Nat) (Az : Option Addr) (cz : Nat) (left : Int) (w : World) (hf : fitD maxLen d) (hz0 : 0 ≤ left) (hz1 : left ≤ 1048576) :
    Calls Tryd.prog 13 #[.agg #[.int .i64 d.k, .string d.n, .slice Ac d.c.length cc, .slice Az d.z.length cz, .int .i64 d.p], .int .i64 left] w (SzN (fitD 1048576 d) left w) := by
  obtain ⟨hn, hc, hzl⟩ := hf
  have HC := Lib.hid hc
  have HZ := Lib.hid hzl
  unfold maxLen at hn
  clear hc hzl
  have bc := (Below.refl w.heap.size w).alloc (Nat.le_refl _) (.cells #[.int .i64 d.k, .string d.n, .slice Ac d.c.length cc, .slice Az d.z.length cz, .int .i64 d.p] 42)
  obtain ⟨b0, b1, b2, b3, b4⟩ := (Blk.new w 42 #[.int .i64 d.k, .string d.n, .slice Ac d.c.length cc, .slice Az d.z.length cz, .int .i64 d.p]).c5
  by_cases hbig : left < (d.n.size : Int)
  · have hbn : left - (d.n.size : Int) < 0 := by omega
    go_enter Tryd.func13, Tryd.ntmps13
    go_wp2
    go_ret
    exact ⟨-1, rfl, by omega, fun h => absurd h (by omega), bc⟩
  have hx2 : 0 ≤ left - (d.n.size : Int) ∧ left - (d.n.size : Int) ≤ 1048576 := by omega
  have hbn : decide (left - (d.n.size : Int) < 0) = false := by simp; omega
  have HX2 := Lib.hid hx2
  go_enter Tryd.func13, Tryd.ntmps13
  go_wp2_with fail
  generalize w.alloc (.cells #[.int .i64 d.k, .string d.n, .slice Ac d.c.length cc, .slice Az d.z.length cz, .int .i64 d.p] 42) = wb at *
  refine (szCondS_any Ac d.c.length cc (left - (d.n.size : Int)) wb HC.out hx2.1 hx2.2).mono ?_
  rintro e w1 ⟨rfl, rfl⟩
  by_cases hc0 : left - (d.n.size : Int) < (d.c.length : Int)
  · rw [if_pos hc0]
    clear hc0 hbn hx2
    go_wp2
    go_ret
    exact ⟨-1, rfl, by omega, fun h => absurd h (by omega), bc⟩
  rw [if_neg hc0]
  obtain ⟨y, hy⟩ : ∃ y, left - (d.n.size : Int) - (d.c.length : Int) = y := ⟨_, rfl⟩
  have hy0 : 0 ≤ y := by omega
  have hy1 : y ≤ 1048576 := by omega
  have hyd : decide (y < 0) = false := by simp; omega
  have HY := Lib.hid hy
  rw [hy]
  clear hy hc0 hbn hx2
  go_wp2_with fail
  refine (szInt64S_any Az d.z.length cz y wb HZ.out hy0 hy1).mono ?_
  rintro e w1 ⟨rfl, rfl⟩
  by_cases h0 : szI d.z.length y < 0
  · rw [szI_no h0]
    clear h0
    go_wp2
    go_ret
    exact ⟨-1, rfl, by omega, fun h => absurd h (by omega), bc⟩
  · have hle := szI_le (n := d.z.length) (left := y) (by omega)
    have hs0 : 0 ≤ szI d.z.length y := by omega
    have HN := Lib.hid (show fitD 1048576 d from ⟨by have := HX2.out; omega, by have := HX2.out; have := HY.out; omega, by omega⟩)
    have hle2 : szI d.z.length y ≤ left := by have := HX2.out; have := HY.out; omega
    clear hle
    generalize szI d.z.length y = x at *
    have hxd : decide (x < 0) = false := by simp; omega
    go_wp2
    go_ret
    exact ⟨x, rfl, hle2, fun _ => HN.out, bc⟩
set_option maxRecDepth 100000 in
set_option maxHeartbeats 2000000 in
theorem szNodeS_any (A : Option Addr) (c : Nat) (v : List Nd) (w : World) (hB : Nds w w.heap.size A v) (hf : fitN maxLen v) (hl : v.length ≤ maxLen) :
    Calls Tryd.prog 5 #[.slice A v.length c, .int .i64 1048576] w (SzN (fitN 1048576 v ∧ v.length ≤ 1048576) 1048576 w) := by
  unfold maxLen at hl
  have HFT := Lib.hid hf
  clear hf
  by_cases hbig : (1048576 : Int) < (v.length : Int)
  · have hbn : 1048576 - (v.length : Int) < 0 := by omega
    go_enter Tryd.func5, Tryd.ntmps5
    go_wp2
    go_ret
    exact ⟨-1, rfl, by omega, fun h => absurd h (by omega), Below.refl _ _⟩
  have hx2 : 0 ≤ 1048576 - (v.length : Int) ∧ 1048576 - (v.length : Int) ≤ 1048576 := by omega
  have hbn : decide (1048576 - (v.length : Int) < 0) = false := by simp; omega
  have hl2 : v.length ≤ 1048576 := by omega
  clear hl
  go_enter Tryd.func5, Tryd.ntmps5
  go_wp2
  go_loopw [1, 5] (fun l i wr => ∃ (k : Nat) (x : Int), k ≤ v.length ∧ i = .int .i64 k ∧ l = .int .i64 x ∧ 0 ≤ x ∧ x ≤ 1048576 ∧ (∀ j, j < k → fitD 1048576 (ndx v j)) ∧ Below w.heap.size w wr) (fun _ i _ => v.length - (intOf i).toNat)
  case atStart => exact ⟨0, _, Nat.zero_le _, rfl, rfl, hx2.1, hx2.2, fun j hj => absurd hj (by omega), Below.refl _ _⟩
  case round =>
    obtain ⟨k, x, hk, rfl, rfl, hx0, hx3, hfk, hW⟩ := hrel
    have HR := Lib.hid hfk
    have hBr := hB.on hW
    clear hfk hbn hx2 hbig hB
    by_cases hlt : k < v.length
    · obtain ⟨b, off, Ac, cc, Az, cz, rfl, _, c0, c1, c2, c3, c4, _, _⟩ := hBr.here hlt
      go_wp2_with fail
      refine (szNode_any (ndx v k) Ac cc Az cz x wr (HFT.out k hlt) hx0 hx3).mono ?_
      rintro e w1 ⟨y, rfl, hy1, hy, hb1⟩
      have HY := Lib.hid hy
      have hW1 := bel_step hW hb1
      clear c0 c1 c2 c3 c4 hy hb1 hW hBr
      by_cases hs : y < 0
      · go_wp2
        go_ret
        exact ⟨-1, rfl, by omega, fun h => absurd h (by omega), hW1⟩
      · have hs0 : 0 ≤ y := by omega
        have hsd : decide (y < 0) = false := by simp; omega
        have HS := Lib.hid (show ∀ j, j < k + 1 → fitD 1048576 (ndx v j) from fun j hj => by
          by_cases e : j = k
          · subst e; exact HY.out hs0
          · exact HR.out j (by omega))
        clear HY hs
        go_wp2
        go_roundw
        case rel => exact ⟨k + 1, y, by omega, by go_num, rfl, hs0, by omega, HS.out, hW1⟩
        case measure => simp [intOf]; omega
    · have hd : decide (k < v.length) = false := by simpa using hlt
      have HE := Lib.hid (show fitN 1048576 v from fun j hj => HR.out j (by omega))
      go_wp2
      go_ret
      exact ⟨x, rfl, hx3, fun _ => ⟨HE.out, hl2⟩, hW⟩

/-! ### copies -/
/-- A node that the laws copied. -/
def NodeAt (d : Nd) (w : World) (e : Ending) (w' : World) : Prop :=
  ∃ gc gz, e = .returned (.agg #[.int .i64 d.k, .string d.n, .slice (some ⟨gc, 0, none⟩) d.c.length d.c.length, .slice (some ⟨gz, 0, none⟩) d.z.length d.z.length, .int .i64 d.p]) ∧ w.heap.size ≤ gc ∧ w.heap.size ≤ gz ∧ CAt w' gc d.c ∧ Blk w' gz 2 (i64s d.z) ∧ Below w.heap.size w w'
theorem bel_three {w : World} (o o' o2 : Obj) : Below w.heap.size w (((w.alloc o).alloc o').alloc o2) := (bel_two o o').alloc (by simp; omega) o2
set_option maxRecDepth 100000 in
set_option maxHeartbeats 4000000 in
theorem toNode_any (d : Nd) (Ac : Option Addr) (cc : Nat) (Az : Option Addr) (cz : Nat) (w : World) (hC : Cnds w w.heap.size Ac d.c) (hZ : Ints w w.heap.size Az d.z) (hf : fitD 1048576 d) :
    Calls Tryd.prog 18 #[.agg #[.int .i64 d.k, .string d.n, .slice Ac d.c.length cc, .slice Az d.z.length cz, .int .i64 d.p]] w (NodeAt d w) := by
  obtain ⟨_, hlc, hlz⟩ := hf
  have bc := bel_three (w := w) (.cells #[.int .i64 d.k, .string d.n, .slice Ac d.c.length cc, .slice Az d.z.length cz, .int .i64 d.p] 42) (.cells #[.int .i64 0, .string ⟨#[]⟩, .slice none 0 0, .slice none 0 0, .int .i64 0] 50) (.cells #[.int .i64 d.k, .string d.n, .slice none 0 0, .slice none 0 0, .int .i64 0] 50)
  have BP := ((Blk.new w 42 #[.int .i64 d.k, .string d.n, .slice Ac d.c.length cc, .slice Az d.z.length cz, .int .i64 d.p]).alloc (.cells #[.int .i64 0, .string ⟨#[]⟩, .slice none 0 0, .slice none 0 0, .int .i64 0] 50)).alloc (.cells #[.int .i64 d.k, .string d.n, .slice none 0 0, .slice none 0 0, .int .i64 0] 50)
  have BR := (Blk.new (w.alloc (.cells #[.int .i64 d.k, .string d.n, .slice Ac d.c.length cc, .slice Az d.z.length cz, .int .i64 d.p] 42)) 50 #[.int .i64 0, .string ⟨#[]⟩, .slice none 0 0, .slice none 0 0, .int .i64 0]).alloc (.cells #[.int .i64 d.k, .string d.n, .slice none 0 0, .slice none 0 0, .int .i64 0] 50)
  have BO := Blk.new ((w.alloc (.cells #[.int .i64 d.k, .string d.n, .slice Ac d.c.length cc, .slice Az d.z.length cz, .int .i64 d.p] 42)).alloc (.cells #[.int .i64 0, .string ⟨#[]⟩, .slice none 0 0, .slice none 0 0, .int .i64 0] 50)) 50 #[.int .i64 d.k, .string d.n, .slice none 0 0, .slice none 0 0, .int .i64 0]
  have e2 : (w.alloc (.cells #[.int .i64 d.k, .string d.n, .slice Ac d.c.length cc, .slice Az d.z.length cz, .int .i64 d.p] 42)).heap.size = w.heap.size + 1 := by simp
  have e3 : ((w.alloc (.cells #[.int .i64 d.k, .string d.n, .slice Ac d.c.length cc, .slice Az d.z.length cz, .int .i64 d.p] 42)).alloc (.cells #[.int .i64 0, .string ⟨#[]⟩, .slice none 0 0, .slice none 0 0, .int .i64 0] 50)).heap.size = w.heap.size + 1 + 1 := by simp
  rw [e2] at BR
  rw [e3] at BO
  have hCb := hC.on bc
  clear e2 e3 hC
  go_enter Tryd.func18, Tryd.ntmps18
  go_wp2_with fail
  generalize ((w.alloc (.cells #[.int .i64 d.k, .string d.n, .slice Ac d.c.length cc, .slice Az d.z.length cz, .int .i64 d.p] 42)).alloc (.cells #[.int .i64 0, .string ⟨#[]⟩, .slice none 0 0, .slice none 0 0, .int .i64 0] 50)).alloc (.cells #[.int .i64 d.k, .string d.n, .slice none 0 0, .slice none 0 0, .int .i64 0] 50) = wb at *
  refine (toCondS_any Ac cc d.c wb hCb (by omega)).mono ?_
  rintro e w1 ⟨rfl, hC1, hb1⟩
  have hbs := BO.lt
  have hW1 : Below w.heap.size w w1 := bel_step bc hb1
  have BO1 := BO.on hb1
  have BR1 := BR.on hb1
  have BP1 := BP.on hb1
  have hb1s := hb1.size
  generalize hgc : wb.heap.size = gc at *
  clear BO BR BP hCb bc hb1 hgc
  obtain ⟨p0, p1, p2, p3, p4⟩ := BP1.c5
  have fo2 := BO1.frozen 2
  obtain ⟨q0, q1, q2, q3, q4⟩ := BO1.c5
  go_wp2_with fail
  have BO2 := BO1.set_ 2 (.slice (some ⟨gc, 0, none⟩) d.c.length d.c.length)
  have BR2 := BR1.far (p := ⟨w.heap.size + 1 + 1, 2, none⟩) (by simp) (.slice (some ⟨gc, 0, none⟩) d.c.length d.c.length)
  have BP2 := BP1.far (p := ⟨w.heap.size + 1 + 1, 2, none⟩) (by simp; omega) (.slice (some ⟨gc, 0, none⟩) d.c.length d.c.length)
  have hC2 : CAt (w1.setCell ⟨w.heap.size + 1 + 1, 2, none⟩ (.slice (some ⟨gc, 0, none⟩) d.c.length d.c.length)) gc d.c := Blk.far hC1 (p := ⟨w.heap.size + 1 + 1, 2, none⟩) (by simp; omega) _
  have hW2 := hW1.setCell (p := ⟨w.heap.size + 1 + 1, 2, none⟩) (by simp; omega) (.slice (some ⟨gc, 0, none⟩) d.c.length d.c.length)
  have hs2 : (w1.setCell ⟨w.heap.size + 1 + 1, 2, none⟩ (.slice (some ⟨gc, 0, none⟩) d.c.length d.c.length)).heap.size = w1.heap.size := by simp [World.setCell]
  have hgl : gc < w1.heap.size := Blk.lt hC1
  generalize w1.setCell ⟨w.heap.size + 1 + 1, 2, none⟩ (.slice (some ⟨gc, 0, none⟩) d.c.length d.c.length) = w2 at *
  have hZ2 : Ints w2 w2.heap.size Az d.z := (hZ.below hW2).more hW2.size
  clear BO1 BR1 BP1 hC1 hZ hW1 p0 p1 p2 p3 p4 fo2 q0 q1 q2 q3 q4
  simp only [List.setIfInBounds_toArray, List.set_cons_succ, List.set_cons_zero] at BO2
  refine (toInt64S_any Az cz d.z w2 hZ2 (by omega)).mono ?_
  rintro e w3 ⟨rfl, hO3, hb3, _⟩
  have BO3 := BO2.on hb3
  have BR3 := BR2.on hb3
  have BP3 := BP2.on hb3
  have hC3 := hC2.on hb3
  have hW3 := bel_step hW2 hb3
  have hgz : w1.heap.size ≤ w2.heap.size := by omega
  generalize w2.heap.size = gz at *
  clear BO2 BR2 BP2 hC2 hW2 hb3 hZ2
  obtain ⟨p0, p1, p2, p3, p4⟩ := BP3.c5
  obtain ⟨q0, q1, q2, q3, q4⟩ := BO3.c5
  obtain ⟨r0, r1, r2, r3, r4⟩ := BR3.c5
  have fo3 := BO3.frozen 3
  have fo4 := BO3.frozen 4
  have fr0 := BR3.frozen 0
  have fr1 := BR3.frozen 1
  have fr2 := BR3.frozen 2
  have fr3 := BR3.frozen 3
  have fr4 := BR3.frozen 4
  have HW3 := Lib.hid hW3
  have HC3 := Lib.hid hC3
  have HO3 := Lib.hid hO3
  clear hW3 hC3 hO3 BO3 BR3 BP3
  go_wp2
  refine bodyPost_ret (v := .agg #[.int .i64 d.k, .string d.n, .slice (some ⟨gc, 0, none⟩) d.c.length d.c.length, .slice (some ⟨gz, 0, none⟩) d.z.length d.z.length, .int .i64 d.p]) (by simp [results, Tryd.f18, go_sem, *]) rfl ?_
  refine ⟨gc, gz, rfl, by omega, by omega, ?_, ?_, ?_⟩
  · exact ((((((Blk.far HC3.out (p := ⟨w.heap.size + 1 + 1, 3, none⟩) (by simp; omega) _).far (p := ⟨w.heap.size + 1 + 1, 4, none⟩) (by simp; omega) _).far (p := ⟨w.heap.size + 1, 0, none⟩) (by simp; omega) _).far (p := ⟨w.heap.size + 1, 1, none⟩) (by simp; omega) _).far (p := ⟨w.heap.size + 1, 2, none⟩) (by simp; omega) _).far (p := ⟨w.heap.size + 1, 3, none⟩) (by simp; omega) _).far (p := ⟨w.heap.size + 1, 4, none⟩) (by simp; omega) _
  · exact ((((((Blk.far HO3.out (p := ⟨w.heap.size + 1 + 1, 3, none⟩) (by simp; omega) _).far (p := ⟨w.heap.size + 1 + 1, 4, none⟩) (by simp; omega) _).far (p := ⟨w.heap.size + 1, 0, none⟩) (by simp; omega) _).far (p := ⟨w.heap.size + 1, 1, none⟩) (by simp; omega) _).far (p := ⟨w.heap.size + 1, 2, none⟩) (by simp; omega) _).far (p := ⟨w.heap.size + 1, 3, none⟩) (by simp; omega) _).far (p := ⟨w.heap.size + 1, 4, none⟩) (by simp; omega) _
  · exact ((((((HW3.out.setCell (p := ⟨w.heap.size + 1 + 1, 3, none⟩) (by simp; omega) _).setCell (p := ⟨w.heap.size + 1 + 1, 4, none⟩) (by simp; omega) _).setCell (p := ⟨w.heap.size + 1, 0, none⟩) (by simp) _).setCell (p := ⟨w.heap.size + 1, 1, none⟩) (by simp) _).setCell (p := ⟨w.heap.size + 1, 2, none⟩) (by simp) _).setCell (p := ⟨w.heap.size + 1, 3, none⟩) (by simp) _).setCell (p := ⟨w.heap.size + 1, 4, none⟩) (by simp) _

/-! ### comparing -/
set_option maxRecDepth 100000 in
set_option maxHeartbeats 2000000 in
/-- Two nodes alike: the laws' eqNode says so. -/
theorem eqNode_same (d : Nd) (Ac Ac' Az Az' : Option Addr) (cc cc' cz cz' : Nat) (w : World) (hC : Cnds w w.heap.size Ac d.c) (hC' : Cnds w w.heap.size Ac' d.c) (hZ : Ints w w.heap.size Az d.z) (hZ' : Ints w w.heap.size Az' d.z) (hf : fitD 1048576 d) :
    Calls Tryd.prog 26 #[.agg #[.int .i64 d.k, .string d.n, .slice Ac d.c.length cc, .slice Az d.z.length cz, .int .i64 d.p], .agg #[.int .i64 d.k, .string d.n, .slice Ac' d.c.length cc', .slice Az' d.z.length cz', .int .i64 d.p]] w fun e w' => e = .returned (.bool true) ∧ Below w.heap.size w w' := by
  obtain ⟨_, hlc, hlz⟩ := hf
  have bc := bel_two (w := w) (.cells #[.int .i64 d.k, .string d.n, .slice Ac d.c.length cc, .slice Az d.z.length cz, .int .i64 d.p] 50) (.cells #[.int .i64 d.k, .string d.n, .slice Ac' d.c.length cc', .slice Az' d.z.length cz', .int .i64 d.p] 50)
  have B1 := (Blk.new w 50 #[.int .i64 d.k, .string d.n, .slice Ac d.c.length cc, .slice Az d.z.length cz, .int .i64 d.p]).alloc (.cells #[.int .i64 d.k, .string d.n, .slice Ac' d.c.length cc', .slice Az' d.z.length cz', .int .i64 d.p] 50)
  have B2 := Blk.new (w.alloc (.cells #[.int .i64 d.k, .string d.n, .slice Ac d.c.length cc, .slice Az d.z.length cz, .int .i64 d.p] 50)) 50 #[.int .i64 d.k, .string d.n, .slice Ac' d.c.length cc', .slice Az' d.z.length cz', .int .i64 d.p]
  rw [World.size_alloc] at B2
  have hCb := hC.on bc
  have hCb' := hC'.on bc
  have hZb := hZ.on bc
  have hZb' := hZ'.on bc
  have hkk : (d.k != d.k) = false := by simp
  have hpp : (d.p != d.p) = false := by simp
  clear hC hC' hZ hZ'
  go_enter Tryd.func26, Tryd.ntmps26
  go_wp2_with fail
  generalize (w.alloc (.cells #[.int .i64 d.k, .string d.n, .slice Ac d.c.length cc, .slice Az d.z.length cz, .int .i64 d.p] 50)).alloc (.cells #[.int .i64 d.k, .string d.n, .slice Ac' d.c.length cc', .slice Az' d.z.length cz', .int .i64 d.p] 50) = wb at *
  refine (eqCondS_any Ac Ac' cc cc' d.c d.c wb hCb hCb' (by omega) (by omega)).mono ?_
  rintro e w1 ⟨rfl, hb1⟩
  rw [decide_eq_true (rfl : d.c = d.c)]
  have hW1 := bel_step bc hb1
  have hZ1 := hZb.on hb1
  have hZ1' := hZb'.on hb1
  obtain ⟨p0, p1, p2, p3, p4⟩ := (B1.on hb1).c5
  obtain ⟨q0, q1, q2, q3, q4⟩ := (B2.on hb1).c5
  have B1 := B1.on hb1
  have B2 := B2.on hb1
  clear hCb hCb' hZb hZb' hb1 bc
  go_wp2_with fail
  refine (eqInt64S_any Az Az' cz cz' d.z d.z w1 _ _ hZ1 hZ1' (by omega) (by omega)).mono ?_
  rintro e w2 ⟨rfl, n2, hw2⟩
  rw [decide_eq_true (rfl : d.z = d.z)]
  have hW2 : Below w.heap.size w w2 := by rw [hw2]; exact bel_drewN hW1 n2
  have B1' := B1.drewN n2
  have B2' := B2.drewN n2
  rw [← hw2] at B1' B2'
  clear p0 p1 p2 p3 p4 q0 q1 q2 q3 q4 hw2 hZ1 hZ1' hW1 B1 B2
  obtain ⟨p0, p1, p2, p3, p4⟩ := B1'.c5
  obtain ⟨q0, q1, q2, q3, q4⟩ := B2'.c5
  go_wp2
  go_ret
  exact ⟨rfl, hW2⟩
set_option maxRecDepth 100000 in
set_option maxHeartbeats 2000000 in
theorem eqNodeS_same (A A' : Option Addr) (c c' : Nat) (v : List Nd) (w : World) (hB : Nds w w.heap.size A v) (hB' : Nds w w.heap.size A' v) (hf : fitN 1048576 v) (hl : v.length ≤ 1099511627776) :
    Calls Tryd.prog 11 #[.slice A v.length c, .slice A' v.length c'] w fun e w' => e = .returned (.bool true) ∧ Below w.heap.size w w' := by
  have hb : ((v.length : Int) != (v.length : Int)) = false := by simp
  have HFT := Lib.hid hf
  clear hf
  go_enter Tryd.func11, Tryd.ntmps11
  go_wp2
  go_loopw [5] (fun i wr => ∃ k : Nat, k ≤ v.length ∧ i = .int .i64 k ∧ Below w.heap.size w wr) (fun i _ => v.length - (intOf i).toNat)
  case atStart => exact ⟨0, Nat.zero_le _, rfl, Below.refl _ _⟩
  case round =>
    obtain ⟨k, hk, rfl, hW⟩ := hrel
    have hBr := hB.on hW
    have hBr' := hB'.on hW
    clear hB hB' hb
    by_cases hlt : k < v.length
    · obtain ⟨b, off, Ac, cc, Az, cz, rfl, _, h0, h1, h2, h3, h4, hC, hZ⟩ := hBr.here hlt
      obtain ⟨b', off', Ac', cc', Az', cz', rfl, _, h0', h1', h2', h3', h4', hC', hZ'⟩ := hBr'.here hlt
      go_wp2_with fail
      go_still_tail 8, (by kernel_rfl)
      change wpList _ _ _ _ _ wr.drew
      have hW2 : Below w.heap.size w wr.drew := bel_drewN hW 1
      have i1 : Cnds wr.drew wr.drew.heap.size Ac (ndx v k).c := hC
      have i2 : Cnds wr.drew wr.drew.heap.size Ac' (ndx v k).c := hC'
      have i3 : Ints wr.drew wr.drew.heap.size Az (ndx v k).z := hZ
      have i4 : Ints wr.drew wr.drew.heap.size Az' (ndx v k).z := hZ'
      clear h0 h1 h2 h3 h4 h0' h1' h2' h3' h4' hC hC' hZ hZ' hW hBr hBr'
      generalize wr.drew = wd at *
      go_wp2_with fail
      refine (eqNode_same (ndx v k) Ac Ac' Az Az' cc cc' cz cz' wd i1 i2 i3 i4 (HFT.out k hlt)).mono ?_
      rintro e w1 ⟨rfl, hb1⟩
      have hW3 : Below w.heap.size w w1 := bel_step hW2 hb1
      go_wp2
      go_roundw
      case rel => exact ⟨k + 1, by omega, by go_num, hW3⟩
      case measure => simp [intOf]; omega
    · have hd : decide (k < v.length) = false := by simpa using hlt
      go_wp2
      go_ret
      exact ⟨rfl, hW⟩
end Go.Proofs.YtejgofhpjkebbaaDoor
