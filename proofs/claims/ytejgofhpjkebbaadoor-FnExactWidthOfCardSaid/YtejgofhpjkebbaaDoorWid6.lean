/- The program's StepWidth of a node of NdJoin: what it returns; nothing that lay has turned. The program's own variable lies as the text lays it. -/
import Derived.Test.YtejgofhpjkebbaaDoorWid5
namespace Go.Proofs.YtejgofhpjkebbaaDoor
open Go.RowKit

theorem stepD_4 {d : Nd} {one two : Int} (h : d.k = 4) : stepD d one two = if ix d.z 0 < one ∧ ix d.z 1 < two ∧ one + two ≤ 6 then one + two else -1 := by
  unfold stepD
  rw [if_neg (by omega), if_neg (by omega), if_pos h]
set_option maxRecDepth 100000 in
set_option maxHeartbeats 1000000 in
theorem implStep_4 (n : ByteArray) (c : List Cnd) (z : List Int) (p : Int) (Ac : Option Addr) (cc : Nat) (Az : Option Addr) (cz : Nat) (m : Nat) (two : Int) (w : World) (hC : Cnds w w.heap.size Ac c) (hZ : Ints w w.heap.size Az z) (hf : fitD 1048576 ⟨4, n, c, z, p⟩) (hF : FormsAt w) (m1 : 1 ≤ m) (m6 : m ≤ 6) (hok : nodeB ⟨4, n, c, z, p⟩ = true) :
    Calls Tryd.prog 23 #[.agg #[.int .i64 4, .string n, .slice Ac c.length cc, .slice Az z.length cz, .int .i64 p], .int .i64 (m : Int), .int .i64 two] w fun e w' => e = .returned (.int .i64 (stepW ⟨4, n, c, z, p⟩ (m : Int) two)) ∧ Below w.heap.size w w' := by
  have bc := (Below.refl w.heap.size w).alloc (Nat.le_refl _) (.cells #[.int .i64 4, .string n, .slice Ac c.length cc, .slice Az z.length cz, .int .i64 p] 50)
  have B := Blk.new w 50 #[.int .i64 4, .string n, .slice Ac c.length cc, .slice Az z.length cz, .int .i64 p]
  obtain ⟨c0, c1, c2, c3, c4⟩ := B.c5
  have hCb := hC.on bc
  have hZb := hZ.on bc
  have hFb := hF.on bc
  have hlc : c.length ≤ 1048576 := hf.2.1
  have hlz : z.length ≤ 1048576 := hf.2.2
  have HL4 := Lib.hid (node_len4 hok rfl)
  have H6 := Lib.hid (node_places hok)
  have hw1 : widthB (m : Int) = true := width_of (by omega) (by omega)
  obtain ⟨R, hR⟩ : ∃ R, stepW ⟨4, n, c, z, p⟩ (m : Int) two = R := ⟨_, rfl⟩
  have HR := Lib.hid hR
  have HOK := Lib.hid hok
  rw [hR]
  clear hC hZ hF hR hok
  go_enter Tryd.func23, Tryd.ntmps23
  go_wp2_with fail
  generalize w.alloc (.cells #[.int .i64 4, .string n, .slice Ac c.length cc, .slice Az z.length cz, .int .i64 p] 50) = wb at *
  refine (implNodeOk_any ⟨4, n, c, z, p⟩ Ac cc Az cz wb hCb hZb hf hFb).mono ?_
  rintro e w1 ⟨rfl, hb1⟩
  have hW1 := bel_step bc hb1
  replace B := B.on hb1
  replace hCb := hCb.on hb1
  replace hZb := hZb.on hb1
  clear c0 c1 c2 c3 c4 bc hb1 hFb
  rw [HOK.out]
  obtain ⟨c0, c1, c2, c3, c4⟩ := B.c5
  go_wp2_with fail
  refine (widthOk_any (m : Int) w1).mono ?_
  rintro e w2 ⟨rfl, rfl⟩
  rw [hw1]
  have hl : z.length = 2 := HL4.out
  obtain ⟨b, off, rfl, hb, hz⟩ := hZb (by omega)
  have z0 := hz 0 (by omega)
  rw [Nat.add_zero] at z0
  have z1 := hz 1 (by omega)
  have zb := List.all_eq_true.1 H6.out
  have i1 : 0 ≤ ix z 1 := by
    have := zb _ (List.getElem_mem (show 1 < z.length by omega))
    unfold inB at this
    simp at this
    rw [ix_eq z 1 (by omega)]
    exact this.1
  have i0 : 0 ≤ ix z 0 := by
    have := zb _ (List.getElem_mem (show 0 < z.length by omega))
    unfold inB at this
    simp at this
    rw [ix_eq z 0 (by omega)]
    exact this.1
  have HS := Lib.hid (show widthB two = true → R = if ix z 0 < (m : Int) ∧ ix z 1 < two ∧ (m : Int) + two ≤ 6 then (m : Int) + two else -1 by intro h; rw [← HR.out]; exact (stepW_is HOK.out hw1 (fun _ => h)).trans (stepD_4 (d := ⟨4, n, c, z, p⟩) rfl))
  have HN := Lib.hid (show ¬ widthB two = true → R = -1 by intro h; rw [← HR.out]; exact stepW_no fun h3 => h (h3.2.2 rfl))
  have hl0 : (0 : Int) < (z.length : Int) := by omega
  have hl1 : (1 : Int) < (z.length : Int) := by omega
  have hl2 : 0 < z.length := by omega
  have hl3 : 1 < z.length := by omega
  clear hl
  clear hz zb hZb B
  go_wp2_with fail
  refine (widthOk_any two w1).mono ?_
  rintro e w2 ⟨rfl, rfl⟩
  cases h2 : widthB two with
  | false =>
    have HE := Lib.hid (HN.out (by rw [h2]; simp))
    clear h2
    go_wp2
    go_ret
    exact ⟨ret_int HE.out.symm, hW1⟩
  | true =>
  obtain ⟨q, rfl, q1, q6⟩ := width_nat h2
  have HT := Lib.hid (HS.out h2)
  have hwr : IntKind.i64.wrap ((m : Int) + (q : Int)) = (m : Int) + (q : Int) := by rw [IntKind.wrap_i64]; omega
  clear h2
  go_wp2_with fail
  refine (widthOk_any ((m : Int) + (q : Int)) w1).mono ?_
  rintro e w2 ⟨rfl, rfl⟩
  by_cases h3 : (m : Int) + (q : Int) ≤ 6
  rotate_left
  · have HE := Lib.hid (show R = -1 by rw [HT.out]; exact if_neg fun h => h3 h.2.2)
    have h3b : widthB ((m : Int) + (q : Int)) = false := by unfold widthB inB; rw [decide_eq_false h3, Bool.and_false]
    rw [h3b]
    go_wp2
    go_ret
    exact ⟨ret_int HE.out.symm, hW1⟩
  rw [width_of (x := (m : Int) + (q : Int)) (by omega) h3]
  by_cases h0 : ix z 0 < (m : Int)
  rotate_left
  · have HE := Lib.hid (show R = -1 by rw [HT.out]; exact if_neg fun h => h0 h.1)
    have h0b : decide (ix z 0 < (m : Int)) = false := decide_eq_false h0
    clear h0
    go_wp2
    go_ret
    exact ⟨ret_int HE.out.symm, hW1⟩
  by_cases h1 : ix z 1 < (q : Int)
  rotate_left
  · have HE := Lib.hid (show R = -1 by rw [HT.out]; exact if_neg fun h => h1 h.2.1)
    have h1b : decide (ix z 1 < (q : Int)) = false := decide_eq_false h1
    clear h1
    go_wp2
    go_ret
    exact ⟨ret_int HE.out.symm, hW1⟩
  have HE := Lib.hid (show R = (m : Int) + (q : Int) by rw [HT.out]; exact if_pos ⟨h0, h1, h3⟩)
  go_wp2
  go_ret
  exact ⟨ret_int HE.out.symm, hW1⟩
end Go.Proofs.YtejgofhpjkebbaaDoor
