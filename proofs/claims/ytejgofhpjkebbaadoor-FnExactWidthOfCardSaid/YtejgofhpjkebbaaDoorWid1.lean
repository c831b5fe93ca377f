/- The program's StepWidth: what it returns; nothing that lay has turned. The program's own variable lies as the text lays it. -/
import Derived.Test.YtejgofhpjkebbaaDoorWid6
namespace Go.Proofs.YtejgofhpjkebbaaDoor
open Go.RowKit

set_option maxRecDepth 100000 in
set_option maxHeartbeats 2000000 in
theorem implStep_1 (n : ByteArray) (c : List Cnd) (z : List Int) (p : Int) (Ac : Option Addr) (cc : Nat) (Az : Option Addr) (cz : Nat) (m : Nat) (two : Int) (w : World) (hC : Cnds w w.heap.size Ac c) (hZ : Ints w w.heap.size Az z) (hf : fitD 1048576 ⟨1, n, c, z, p⟩) (hF : FormsAt w) (m1 : 1 ≤ m) (m6 : m ≤ 6) (hok : nodeB ⟨1, n, c, z, p⟩ = true) :
    Calls Tryd.prog 23 #[.agg #[.int .i64 1, .string n, .slice Ac c.length cc, .slice Az z.length cz, .int .i64 p], .int .i64 (m : Int), .int .i64 two] w fun e w' => e = .returned (.int .i64 (stepW ⟨1, n, c, z, p⟩ (m : Int) two)) ∧ Below w.heap.size w w' := by
  have bc := (Below.refl w.heap.size w).alloc (Nat.le_refl _) (.cells #[.int .i64 1, .string n, .slice Ac c.length cc, .slice Az z.length cz, .int .i64 p] 50)
  have B := Blk.new w 50 #[.int .i64 1, .string n, .slice Ac c.length cc, .slice Az z.length cz, .int .i64 p]
  obtain ⟨c0, c1, c2, c3, c4⟩ := B.c5
  have hCb := hC.on bc
  have hZb := hZ.on bc
  have hFb := hF.on bc
  have hlc : c.length ≤ 1048576 := hf.2.1
  have hlz : z.length ≤ 1048576 := hf.2.2
  have H6 := Lib.hid (node_places hok)
  have hw1 : widthB (m : Int) = true := width_of (by omega) (by omega)
  obtain ⟨R, hR⟩ : ∃ R, stepW ⟨1, n, c, z, p⟩ (m : Int) two = R := ⟨_, rfl⟩
  have HR := Lib.hid hR
  have HOK := Lib.hid hok
  rw [hR]
  clear hC hZ hF hR hok
  go_enter Tryd.func23, Tryd.ntmps23
  go_wp2_with fail
  generalize w.alloc (.cells #[.int .i64 1, .string n, .slice Ac c.length cc, .slice Az z.length cz, .int .i64 p] 50) = wb at *
  refine (implNodeOk_any ⟨1, n, c, z, p⟩ Ac cc Az cz wb hCb hZb hf hFb).mono ?_
  rintro e w1 ⟨rfl, hb1⟩
  have hW1 := bel_step bc hb1
  replace B := B.on hb1
  replace hCb := hCb.on hb1
  replace hZb := hZb.on hb1
  clear c0 c1 c2 c3 c4 bc hb1 hFb
  rw [HOK.out]
  obtain ⟨c0, c1, c2, c3, c4⟩ := B.c5
  go_wp2_with fail
  refine (widthOk_any (m : Int) w1).mono ?_
  rintro e w2 ⟨rfl, rfl⟩
  rw [hw1]
  have HE := Lib.hid (show R = -1 by rw [← HR.out]; exact stepW_table rfl)
  go_wp2
  go_ret
  exact ⟨ret_int HE.out.symm, hW1⟩
set_option maxRecDepth 100000 in
set_option maxHeartbeats 2000000 in
theorem implStep_2 (n : ByteArray) (c : List Cnd) (z : List Int) (p : Int) (Ac : Option Addr) (cc : Nat) (Az : Option Addr) (cz : Nat) (m : Nat) (two : Int) (w : World) (hC : Cnds w w.heap.size Ac c) (hZ : Ints w w.heap.size Az z) (hf : fitD 1048576 ⟨2, n, c, z, p⟩) (hF : FormsAt w) (m1 : 1 ≤ m) (m6 : m ≤ 6) (hok : nodeB ⟨2, n, c, z, p⟩ = true) :
    Calls Tryd.prog 23 #[.agg #[.int .i64 2, .string n, .slice Ac c.length cc, .slice Az z.length cz, .int .i64 p], .int .i64 (m : Int), .int .i64 two] w fun e w' => e = .returned (.int .i64 (stepW ⟨2, n, c, z, p⟩ (m : Int) two)) ∧ Below w.heap.size w w' := by
  have bc := (Below.refl w.heap.size w).alloc (Nat.le_refl _) (.cells #[.int .i64 2, .string n, .slice Ac c.length cc, .slice Az z.length cz, .int .i64 p] 50)
  have B := Blk.new w 50 #[.int .i64 2, .string n, .slice Ac c.length cc, .slice Az z.length cz, .int .i64 p]
  obtain ⟨c0, c1, c2, c3, c4⟩ := B.c5
  have hCb := hC.on bc
  have hZb := hZ.on bc
  have hFb := hF.on bc
  have hlc : c.length ≤ 1048576 := hf.2.1
  have hlz : z.length ≤ 1048576 := hf.2.2
  have H6 := Lib.hid (node_places hok)
  have hw1 : widthB (m : Int) = true := width_of (by omega) (by omega)
  obtain ⟨R, hR⟩ : ∃ R, stepW ⟨2, n, c, z, p⟩ (m : Int) two = R := ⟨_, rfl⟩
  have HR := Lib.hid hR
  have HOK := Lib.hid hok
  rw [hR]
  clear hC hZ hF hR hok
  go_enter Tryd.func23, Tryd.ntmps23
  go_wp2_with fail
  generalize w.alloc (.cells #[.int .i64 2, .string n, .slice Ac c.length cc, .slice Az z.length cz, .int .i64 p] 50) = wb at *
  refine (implNodeOk_any ⟨2, n, c, z, p⟩ Ac cc Az cz wb hCb hZb hf hFb).mono ?_
  rintro e w1 ⟨rfl, hb1⟩
  have hW1 := bel_step bc hb1
  replace B := B.on hb1
  replace hCb := hCb.on hb1
  replace hZb := hZb.on hb1
  clear c0 c1 c2 c3 c4 bc hb1 hFb
  rw [HOK.out]
  obtain ⟨c0, c1, c2, c3, c4⟩ := B.c5
  go_wp2_with fail
  refine (widthOk_any (m : Int) w1).mono ?_
  rintro e w2 ⟨rfl, rfl⟩
  rw [hw1]
  go_wp2_with fail
  refine (implCondsOk_any Ac cc c (m : Int) w1 hCb (by omega)).mono ?_
  rintro e w2 ⟨rfl, hb2⟩
  have hW2 := bel_step hW1 hb2
  have HS := Lib.hid (show R = if condsB c (m : Int) = true then (m : Int) else -1 by rw [← HR.out]; exact stepW_is HOK.out hw1 (fun h => by cases h))
  cases hc : condsB c (m : Int) with
  | false =>
    have HE := Lib.hid (show R = -1 by rw [HS.out, hc]; rfl)
    clear hc
    go_wp2
    go_ret
    exact ⟨ret_int HE.out.symm, hW2⟩
  | true =>
    have HE := Lib.hid (show R = (m : Int) by rw [HS.out, hc]; rfl)
    clear hc
    go_wp2
    go_ret
    exact ⟨ret_int HE.out.symm, hW2⟩
set_option maxRecDepth 100000 in
set_option maxHeartbeats 2000000 in
theorem implStep_3 (n : ByteArray) (c : List Cnd) (z : List Int) (p : Int) (Ac : Option Addr) (cc : Nat) (Az : Option Addr) (cz : Nat) (m : Nat) (two : Int) (w : World) (hC : Cnds w w.heap.size Ac c) (hZ : Ints w w.heap.size Az z) (hf : fitD 1048576 ⟨3, n, c, z, p⟩) (hF : FormsAt w) (m1 : 1 ≤ m) (m6 : m ≤ 6) (hok : nodeB ⟨3, n, c, z, p⟩ = true) :
    Calls Tryd.prog 23 #[.agg #[.int .i64 3, .string n, .slice Ac c.length cc, .slice Az z.length cz, .int .i64 p], .int .i64 (m : Int), .int .i64 two] w fun e w' => e = .returned (.int .i64 (stepW ⟨3, n, c, z, p⟩ (m : Int) two)) ∧ Below w.heap.size w w' := by
  have bc := (Below.refl w.heap.size w).alloc (Nat.le_refl _) (.cells #[.int .i64 3, .string n, .slice Ac c.length cc, .slice Az z.length cz, .int .i64 p] 50)
  have B := Blk.new w 50 #[.int .i64 3, .string n, .slice Ac c.length cc, .slice Az z.length cz, .int .i64 p]
  obtain ⟨c0, c1, c2, c3, c4⟩ := B.c5
  have hCb := hC.on bc
  have hZb := hZ.on bc
  have hFb := hF.on bc
  have hlc : c.length ≤ 1048576 := hf.2.1
  have hlz : z.length ≤ 1048576 := hf.2.2
  have H6 := Lib.hid (node_places hok)
  have hw1 : widthB (m : Int) = true := width_of (by omega) (by omega)
  obtain ⟨R, hR⟩ : ∃ R, stepW ⟨3, n, c, z, p⟩ (m : Int) two = R := ⟨_, rfl⟩
  have HR := Lib.hid hR
  have HOK := Lib.hid hok
  rw [hR]
  clear hC hZ hF hR hok
  go_enter Tryd.func23, Tryd.ntmps23
  go_wp2_with fail
  generalize w.alloc (.cells #[.int .i64 3, .string n, .slice Ac c.length cc, .slice Az z.length cz, .int .i64 p] 50) = wb at *
  refine (implNodeOk_any ⟨3, n, c, z, p⟩ Ac cc Az cz wb hCb hZb hf hFb).mono ?_
  rintro e w1 ⟨rfl, hb1⟩
  have hW1 := bel_step bc hb1
  replace B := B.on hb1
  replace hCb := hCb.on hb1
  replace hZb := hZb.on hb1
  clear c0 c1 c2 c3 c4 bc hb1 hFb
  rw [HOK.out]
  obtain ⟨c0, c1, c2, c3, c4⟩ := B.c5
  go_wp2_with fail
  refine (widthOk_any (m : Int) w1).mono ?_
  rintro e w2 ⟨rfl, rfl⟩
  rw [hw1]
  have HS := Lib.hid (show R = if placesB z m = true then (z.length : Int) else -1 by rw [← HR.out]; exact stepW_is HOK.out hw1 (fun h => by cases h))
  go_wp2_with fail
  refine (placesIn_any Az cz m z w1 _ hZb hlz H6.out).mono ?_
  rintro e w2 ⟨rfl, rfl⟩
  cases hc : placesB z m with
  | false =>
    have HE := Lib.hid (show R = -1 by rw [HS.out, hc]; rfl)
    clear hc
    go_wp2
    go_ret
    exact ⟨ret_int HE.out.symm, hW1⟩
  | true =>
    have HE := Lib.hid (show R = (z.length : Int) by rw [HS.out, hc]; rfl)
    clear hc
    go_wp2
    go_ret
    exact ⟨ret_int HE.out.symm, hW1⟩
set_option maxRecDepth 100000 in
set_option maxHeartbeats 2000000 in
theorem implStep_5 (n : ByteArray) (c : List Cnd) (z : List Int) (p : Int) (Ac : Option Addr) (cc : Nat) (Az : Option Addr) (cz : Nat) (m : Nat) (two : Int) (w : World) (hC : Cnds w w.heap.size Ac c) (hZ : Ints w w.heap.size Az z) (hf : fitD 1048576 ⟨5, n, c, z, p⟩) (hF : FormsAt w) (m1 : 1 ≤ m) (m6 : m ≤ 6) (hok : nodeB ⟨5, n, c, z, p⟩ = true) :
    Calls Tryd.prog 23 #[.agg #[.int .i64 5, .string n, .slice Ac c.length cc, .slice Az z.length cz, .int .i64 p], .int .i64 (m : Int), .int .i64 two] w fun e w' => e = .returned (.int .i64 (stepW ⟨5, n, c, z, p⟩ (m : Int) two)) ∧ Below w.heap.size w w' := by
  have bc := (Below.refl w.heap.size w).alloc (Nat.le_refl _) (.cells #[.int .i64 5, .string n, .slice Ac c.length cc, .slice Az z.length cz, .int .i64 p] 50)
  have B := Blk.new w 50 #[.int .i64 5, .string n, .slice Ac c.length cc, .slice Az z.length cz, .int .i64 p]
  obtain ⟨c0, c1, c2, c3, c4⟩ := B.c5
  have hCb := hC.on bc
  have hZb := hZ.on bc
  have hFb := hF.on bc
  have hlc : c.length ≤ 1048576 := hf.2.1
  have hlz : z.length ≤ 1048576 := hf.2.2
  have H6 := Lib.hid (node_places hok)
  have hw1 : widthB (m : Int) = true := width_of (by omega) (by omega)
  obtain ⟨R, hR⟩ : ∃ R, stepW ⟨5, n, c, z, p⟩ (m : Int) two = R := ⟨_, rfl⟩
  have HR := Lib.hid hR
  have HOK := Lib.hid hok
  rw [hR]
  clear hC hZ hF hR hok
  go_enter Tryd.func23, Tryd.ntmps23
  go_wp2_with fail
  generalize w.alloc (.cells #[.int .i64 5, .string n, .slice Ac c.length cc, .slice Az z.length cz, .int .i64 p] 50) = wb at *
  refine (implNodeOk_any ⟨5, n, c, z, p⟩ Ac cc Az cz wb hCb hZb hf hFb).mono ?_
  rintro e w1 ⟨rfl, hb1⟩
  have hW1 := bel_step bc hb1
  replace B := B.on hb1
  replace hCb := hCb.on hb1
  replace hZb := hZb.on hb1
  clear c0 c1 c2 c3 c4 bc hb1 hFb
  rw [HOK.out]
  obtain ⟨c0, c1, c2, c3, c4⟩ := B.c5
  go_wp2_with fail
  refine (widthOk_any (m : Int) w1).mono ?_
  rintro e w2 ⟨rfl, rfl⟩
  rw [hw1]
  have HS := Lib.hid (show widthB two = true → R = if (m : Int) = two then (m : Int) else -1 by intro h; rw [← HR.out]; exact stepW_is HOK.out hw1 (fun _ => h))
  have HN := Lib.hid (show ¬ widthB two = true → R = -1 by intro h; rw [← HR.out]; exact stepW_no fun h3 => h (h3.2.2 rfl))
  by_cases h : two = (m : Int)
  · subst h
    have HE := Lib.hid (show R = (m : Int) by rw [HS.out hw1, if_pos rfl])
    go_wp2
    go_ret
    exact ⟨ret_int HE.out.symm, hW1⟩
  · have hb : (two == (m : Int)) = false := by simpa using h
    have hb2 : (two != (m : Int)) = true := by simpa using h
    have HE := Lib.hid (show R = -1 by
      by_cases h2 : widthB two = true
      · rw [HS.out h2, if_neg fun e => h e.symm]
      · exact HN.out h2)
    clear h
    go_wp2
    go_ret
    exact ⟨ret_int HE.out.symm, hW1⟩
set_option maxRecDepth 100000 in
set_option maxHeartbeats 2000000 in
theorem implStep_6 (n : ByteArray) (c : List Cnd) (z : List Int) (p : Int) (Ac : Option Addr) (cc : Nat) (Az : Option Addr) (cz : Nat) (m : Nat) (two : Int) (w : World) (hC : Cnds w w.heap.size Ac c) (hZ : Ints w w.heap.size Az z) (hf : fitD 1048576 ⟨6, n, c, z, p⟩) (hF : FormsAt w) (m1 : 1 ≤ m) (m6 : m ≤ 6) (hok : nodeB ⟨6, n, c, z, p⟩ = true) :
    Calls Tryd.prog 23 #[.agg #[.int .i64 6, .string n, .slice Ac c.length cc, .slice Az z.length cz, .int .i64 p], .int .i64 (m : Int), .int .i64 two] w fun e w' => e = .returned (.int .i64 (stepW ⟨6, n, c, z, p⟩ (m : Int) two)) ∧ Below w.heap.size w w' := by
  have bc := (Below.refl w.heap.size w).alloc (Nat.le_refl _) (.cells #[.int .i64 6, .string n, .slice Ac c.length cc, .slice Az z.length cz, .int .i64 p] 50)
  have B := Blk.new w 50 #[.int .i64 6, .string n, .slice Ac c.length cc, .slice Az z.length cz, .int .i64 p]
  obtain ⟨c0, c1, c2, c3, c4⟩ := B.c5
  have hCb := hC.on bc
  have hZb := hZ.on bc
  have hFb := hF.on bc
  have hlc : c.length ≤ 1048576 := hf.2.1
  have hlz : z.length ≤ 1048576 := hf.2.2
  have H6 := Lib.hid (node_places hok)
  have hw1 : widthB (m : Int) = true := width_of (by omega) (by omega)
  obtain ⟨R, hR⟩ : ∃ R, stepW ⟨6, n, c, z, p⟩ (m : Int) two = R := ⟨_, rfl⟩
  have HR := Lib.hid hR
  have HOK := Lib.hid hok
  rw [hR]
  clear hC hZ hF hR hok
  go_enter Tryd.func23, Tryd.ntmps23
  go_wp2_with fail
  generalize w.alloc (.cells #[.int .i64 6, .string n, .slice Ac c.length cc, .slice Az z.length cz, .int .i64 p] 50) = wb at *
  refine (implNodeOk_any ⟨6, n, c, z, p⟩ Ac cc Az cz wb hCb hZb hf hFb).mono ?_
  rintro e w1 ⟨rfl, hb1⟩
  have hW1 := bel_step bc hb1
  replace B := B.on hb1
  replace hCb := hCb.on hb1
  replace hZb := hZb.on hb1
  clear c0 c1 c2 c3 c4 bc hb1 hFb
  rw [HOK.out]
  obtain ⟨c0, c1, c2, c3, c4⟩ := B.c5
  go_wp2_with fail
  refine (widthOk_any (m : Int) w1).mono ?_
  rintro e w2 ⟨rfl, rfl⟩
  rw [hw1]
  have HE := Lib.hid (show R = (m : Int) by rw [← HR.out]; exact stepW_is HOK.out hw1 (fun h => by cases h))
  go_wp2
  go_ret
  exact ⟨ret_int HE.out.symm, hW1⟩
set_option maxRecDepth 100000 in
set_option maxHeartbeats 2000000 in
theorem implStep_7 (n : ByteArray) (c : List Cnd) (z : List Int) (p : Int) (Ac : Option Addr) (cc : Nat) (Az : Option Addr) (cz : Nat) (m : Nat) (two : Int) (w : World) (hC : Cnds w w.heap.size Ac c) (hZ : Ints w w.heap.size Az z) (hf : fitD 1048576 ⟨7, n, c, z, p⟩) (hF : FormsAt w) (m1 : 1 ≤ m) (m6 : m ≤ 6) (hok : nodeB ⟨7, n, c, z, p⟩ = true) :
    Calls Tryd.prog 23 #[.agg #[.int .i64 7, .string n, .slice Ac c.length cc, .slice Az z.length cz, .int .i64 p], .int .i64 (m : Int), .int .i64 two] w fun e w' => e = .returned (.int .i64 (stepW ⟨7, n, c, z, p⟩ (m : Int) two)) ∧ Below w.heap.size w w' := by
  have bc := (Below.refl w.heap.size w).alloc (Nat.le_refl _) (.cells #[.int .i64 7, .string n, .slice Ac c.length cc, .slice Az z.length cz, .int .i64 p] 50)
  have B := Blk.new w 50 #[.int .i64 7, .string n, .slice Ac c.length cc, .slice Az z.length cz, .int .i64 p]
  obtain ⟨c0, c1, c2, c3, c4⟩ := B.c5
  have hCb := hC.on bc
  have hZb := hZ.on bc
  have hFb := hF.on bc
  have hlc : c.length ≤ 1048576 := hf.2.1
  have hlz : z.length ≤ 1048576 := hf.2.2
  have H6 := Lib.hid (node_places hok)
  have hw1 : widthB (m : Int) = true := width_of (by omega) (by omega)
  obtain ⟨R, hR⟩ : ∃ R, stepW ⟨7, n, c, z, p⟩ (m : Int) two = R := ⟨_, rfl⟩
  have HR := Lib.hid hR
  have HOK := Lib.hid hok
  rw [hR]
  clear hC hZ hF hR hok
  go_enter Tryd.func23, Tryd.ntmps23
  go_wp2_with fail
  generalize w.alloc (.cells #[.int .i64 7, .string n, .slice Ac c.length cc, .slice Az z.length cz, .int .i64 p] 50) = wb at *
  refine (implNodeOk_any ⟨7, n, c, z, p⟩ Ac cc Az cz wb hCb hZb hf hFb).mono ?_
  rintro e w1 ⟨rfl, hb1⟩
  have hW1 := bel_step bc hb1
  replace B := B.on hb1
  replace hCb := hCb.on hb1
  replace hZb := hZb.on hb1
  clear c0 c1 c2 c3 c4 bc hb1 hFb
  rw [HOK.out]
  obtain ⟨c0, c1, c2, c3, c4⟩ := B.c5
  go_wp2_with fail
  refine (widthOk_any (m : Int) w1).mono ?_
  rintro e w2 ⟨rfl, rfl⟩
  rw [hw1]
  have HS := Lib.hid (show R = if placesB z m = true ∧ p < (m : Int) then (if 0 ≤ p then (z.length : Int) + 2 else (z.length : Int) + 1) else -1 by rw [← HR.out]; exact stepW_is HOK.out hw1 (fun h => by cases h))
  have hp := node_p7 HOK.out rfl
  simp only at hp
  have hwr1 : IntKind.i64.wrap ((z.length : Int) + 1) = (z.length : Int) + 1 := by rw [IntKind.wrap_i64]; omega
  have hwr2 : IntKind.i64.wrap ((z.length : Int) + 1 + 1) = (z.length : Int) + 2 := by rw [IntKind.wrap_i64]; omega
  by_cases h1 : p < (m : Int)
  rotate_left
  · have HE := Lib.hid (show R = -1 by rw [HS.out]; exact if_neg fun h => h1 h.2)
    have h1b : (m : Int) ≤ p := by omega
    clear h1
    go_wp2
    go_ret
    exact ⟨ret_int HE.out.symm, hW1⟩
  have h1b : decide ((m : Int) ≤ p) = false := decide_eq_false (by omega)
  by_cases h2 : p = -1
  · subst h2
    go_wp2_with fail
    refine (placesIn_any Az cz m z w1 _ hZb hlz H6.out).mono ?_
    rintro e w2 ⟨rfl, rfl⟩
    cases hc : placesB z m with
    | false =>
      have HE := Lib.hid (show R = -1 by rw [HS.out, hc]; exact if_neg fun h => by cases h.1)
      clear hc
      go_wp2
      go_ret
      exact ⟨ret_int HE.out.symm, hW1⟩
    | true =>
      have HE := Lib.hid (show R = (z.length : Int) + 1 by rw [HS.out, hc, if_pos ⟨rfl, h1⟩]; rfl)
      clear hc
      go_wp2
      go_ret
      exact ⟨ret_int HE.out.symm, hW1⟩
  · have h2b : (p != -1) = true := by simpa using h2
    have h2c : (p == -1) = false := by simpa using h2
    go_wp2_with fail
    refine (placesIn_any Az cz m z w1 _ hZb hlz H6.out).mono ?_
    rintro e w2 ⟨rfl, rfl⟩
    cases hc : placesB z m with
    | false =>
      have HE := Lib.hid (show R = -1 by rw [HS.out, hc]; exact if_neg fun h => by cases h.1)
      clear hc
      go_wp2
      go_ret
      exact ⟨ret_int HE.out.symm, hW1⟩
    | true =>
      have HE := Lib.hid (show R = (z.length : Int) + 2 by rw [HS.out, hc, if_pos ⟨rfl, h1⟩, if_pos (by omega)])
      clear hc
      go_wp2
      go_ret
      exact ⟨ret_int HE.out.symm, hW1⟩
set_option maxRecDepth 100000 in
set_option maxHeartbeats 2000000 in
theorem implStepWidth_any (d : Nd) (Ac : Option Addr) (cc : Nat) (Az : Option Addr) (cz : Nat) (one two : Int) (w : World) (hC : Cnds w w.heap.size Ac d.c) (hZ : Ints w w.heap.size Az d.z) (hf : fitD 1048576 d) (hF : FormsAt w) :
    Calls Tryd.prog 23 #[.agg #[.int .i64 d.k, .string d.n, .slice Ac d.c.length cc, .slice Az d.z.length cz, .int .i64 d.p], .int .i64 one, .int .i64 two] w fun e w' => e = .returned (.int .i64 (stepW d one two)) ∧ Below w.heap.size w w' := by
  by_cases hh : nodeB d = true ∧ widthB one = true
  · obtain ⟨hok, h1⟩ := hh
    have hk := node_kind hok
    obtain ⟨k, n, c, z, p⟩ := d
    simp only at hk hC hZ ⊢
    obtain ⟨m, rfl, m1, m6⟩ := width_nat h1
    have h7 : k = 1 ∨ k = 2 ∨ k = 3 ∨ k = 4 ∨ k = 5 ∨ k = 6 ∨ k = 7 := by omega
    rcases h7 with rfl | rfl | rfl | rfl | rfl | rfl | rfl
    · exact implStep_1 n c z p Ac cc Az cz m two w hC hZ hf hF m1 m6 hok
    · exact implStep_2 n c z p Ac cc Az cz m two w hC hZ hf hF m1 m6 hok
    · exact implStep_3 n c z p Ac cc Az cz m two w hC hZ hf hF m1 m6 hok
    · exact implStep_4 n c z p Ac cc Az cz m two w hC hZ hf hF m1 m6 hok
    · exact implStep_5 n c z p Ac cc Az cz m two w hC hZ hf hF m1 m6 hok
    · exact implStep_6 n c z p Ac cc Az cz m two w hC hZ hf hF m1 m6 hok
    · exact implStep_7 n c z p Ac cc Az cz m two w hC hZ hf hF m1 m6 hok
  · have HN := Lib.hid (show stepW d one two = -1 from stepW_no fun h => hh ⟨h.1, h.2.1⟩)
    have bc := (Below.refl w.heap.size w).alloc (Nat.le_refl _) (.cells #[.int .i64 d.k, .string d.n, .slice Ac d.c.length cc, .slice Az d.z.length cz, .int .i64 d.p] 50)
    have B := Blk.new w 50 #[.int .i64 d.k, .string d.n, .slice Ac d.c.length cc, .slice Az d.z.length cz, .int .i64 d.p]
    obtain ⟨c0, c1, c2, c3, c4⟩ := B.c5
    have hCb := hC.on bc
    have hZb := hZ.on bc
    have hFb := hF.on bc
    have HH := Lib.hid hh
    clear hC hZ hF hh
    go_enter Tryd.func23, Tryd.ntmps23
    go_wp2_with fail
    generalize w.alloc (.cells #[.int .i64 d.k, .string d.n, .slice Ac d.c.length cc, .slice Az d.z.length cz, .int .i64 d.p] 50) = wb at *
    refine (implNodeOk_any d Ac cc Az cz wb hCb hZb hf hFb).mono ?_
    rintro e w1 ⟨rfl, hb1⟩
    have hW1 := bel_step bc hb1
    clear c0 c1 c2 c3 c4 bc hb1 hFb B hCb hZb
    cases hok : nodeB d with
    | false =>
      clear hok
      go_wp2
      go_ret
      exact ⟨ret_int HN.out.symm, hW1⟩
    | true =>
      have h1 : widthB one = false := by
        cases hw : widthB one with
        | false => rfl
        | true => exact absurd ⟨hok, hw⟩ HH.out
      clear hok
      go_wp2_with fail
      refine (widthOk_any one w1).mono ?_
      rintro e w2 ⟨rfl, rfl⟩
      rw [h1]
      go_wp2
      go_ret
      exact ⟨ret_int HN.out.symm, hW1⟩
end Go.Proofs.YtejgofhpjkebbaaDoor
