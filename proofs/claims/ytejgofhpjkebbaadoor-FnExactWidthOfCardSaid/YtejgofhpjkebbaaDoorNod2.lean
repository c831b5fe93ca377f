/- The model's NodeOk, l8Looks, ViewOk: what each returns; nothing that lay has turned. -/
import Derived.Test.YtejgofhpjkebbaaDoorNodL
import Derived.Test.YtejgofhpjkebbaaDoorCndS
namespace Go.Proofs.YtejgofhpjkebbaaDoor
open Go.RowKit

theorem l1Places_six (A : Option Addr) (c : Nat) (ps : List Int) (w : World) (B : Nat) (hI : Ints w B A ps) (hl : ps.length ≤ 1073741824) :
    Calls Tryd.prog 51 #[.slice A ps.length c, .int .i64 6] w fun e w' => e = .returned (.bool (placesB ps 6)) ∧ w = w' := l1Places_any A c 6 ps w B hI hl (by omega)
theorem condsD_no {d : Nd} (h : d.k ≠ 2) : condsD d = decide (d.c.length = 0) := by unfold condsD; rw [if_neg h]
theorem nameD_no {d : Nd} (h : d.k ≠ 1) : nameD d = decide (d.n.size = 0) := by unfold nameD; rw [if_neg h]
theorem placeD_no {d : Nd} (h : d.k ≠ 7) : placeD d = decide (d.p = -1) := by unfold placeD; rw [if_neg h]
theorem placesD_no {d : Nd} (h : ¬ (d.k = 3 ∨ d.k = 4 ∨ d.k = 7)) (hz : ¬ d.z.length = 0) : placesD d = false := by unfold placesD; rw [decide_eq_false h, decide_eq_false hz]; rfl
theorem placesD_len {d : Nd} (h : placesB d.z 6 = false) : placesD d = false := by unfold placesD; rw [h]; simp
theorem toList_nil {n : ByteArray} (h : n.size = 0) : n.toList = [] := by
  rw [ByteArray.toList_eq]; exact List.length_eq_zero_iff.1 (by rw [Array.length_toList]; exact h)
theorem toList_not {n : ByteArray} (h : ¬ n.size = 0) : n.toList ≠ [] := fun e => h (by
  rw [ByteArray.toList_eq] at e
  have := congrArg List.length e
  rwa [Array.length_toList] at this)
set_option maxRecDepth 100000 in
set_option maxHeartbeats 1000000 in
theorem specNode_1 (n : ByteArray) (c : List Cnd) (z : List Int) (p : Int) (Ac : Option Addr) (cc : Nat) (Az : Option Addr) (cz : Nat) (w : World) (hC : Cnds w w.heap.size Ac c) (hZ : Ints w w.heap.size Az z) (hf : fitD 1048576 ⟨1, n, c, z, p⟩) :
    Calls Tryd.prog 31 #[.agg #[.int .i64 1, .string n, .slice Ac c.length cc, .slice Az z.length cz, .int .i64 p]] w fun e w' => e = .returned (.bool (nodeB ⟨1, n, c, z, p⟩)) ∧ Below w.heap.size w w' := by
  obtain ⟨hn, hlc, hlz⟩ : n.size ≤ 1048576 ∧ c.length ≤ 1048576 ∧ z.length ≤ 1048576 := hf
  obtain ⟨R, hR⟩ : ∃ R, nodeB ⟨1, n, c, z, p⟩ = R := ⟨_, rfl⟩
  have HQ := Lib.hid hR
  rw [hR]
  clear hR
  have bc := (Below.refl w.heap.size w).alloc (Nat.le_refl _) (.cells #[.int .i64 1, .string n, .slice Ac c.length cc, .slice Az z.length cz, .int .i64 p] 50)
  have B := Blk.new w 50 #[.int .i64 1, .string n, .slice Ac c.length cc, .slice Az z.length cz, .int .i64 p]
  obtain ⟨c0, c1, c2, c3, c4⟩ := B.c5
  have hCb := hC.on bc
  have hZb := hZ.on bc
  clear hC hZ
  go_enter Tryd.func31, Tryd.ntmps31
  go_wp2_with fail
  generalize w.alloc (.cells #[.int .i64 1, .string n, .slice Ac c.length cc, .slice Az z.length cz, .int .i64 p] 50) = wb at *
  refine (l1In_any 1 1 7 wb).mono ?_
  rintro e w1 ⟨rfl, rfl⟩
  rw [show inB 1 1 7 = true from rfl]
  go_wp2_with fail
  refine (l4Name_any n wb (by omega)).mono ?_
  rintro e w1 ⟨rfl, rfl⟩
  cases hnm : nameB n with
  | false =>
    have HD := Lib.hid (show R = false by rw [← HQ.out]; exact nodeB_n (show nameD _ = false from hnm))
    clear HQ
    go_wp2
    go_ret
    exact ⟨ret_bool HD.out.symm, bc⟩
  | true =>
    have HN := Lib.hid (show nameD ⟨1, n, c, z, p⟩ = true from hnm)
    clear hnm
    by_cases hc0 : c.length = 0
    rotate_left
    · have hcg : 0 < c.length := by omega
      have HC0 := Lib.hid hc0
      clear hc0
      have HD := Lib.hid (show R = false by rw [← HQ.out]; exact nodeB_c (by rw [condsD_no (show (1 : Int) ≠ 2 by decide)]; exact decide_eq_false HC0.out))
      clear HQ
      go_wp2
      go_ret
      exact ⟨ret_bool HD.out.symm, bc⟩
    have hcg : decide (0 < c.length) = false := decide_eq_false (by omega)
    have HC := Lib.hid (show condsD ⟨1, n, c, z, p⟩ = true by rw [condsD_no (show (1 : Int) ≠ 2 by decide)]; exact decide_eq_true hc0)
    have HR := Lib.hid (show rightB c = true by rw [List.length_eq_zero_iff.1 hc0]; rfl)
    clear hc0
    go_wp2_with fail
    refine (l7Right_any Ac cc c wb hCb (by omega)).mono ?_
    rintro e w1 ⟨rfl, hb1⟩
    rw [HR.out]
    have hW1 := bel_step bc hb1
    have B1 := B.on hb1
    have hZ1 := hZb.on hb1
    clear c0 c1 c2 c3 c4 hCb hZb bc B hb1 hcg HR
    obtain ⟨c0, c1, c2, c3, c4⟩ := B1.c5
    by_cases hz0 : z.length = 0
    rotate_left
    · have hzg : 0 < z.length := by omega
      have HZ0 := Lib.hid hz0
      clear hz0
      have HD := Lib.hid (show R = false by rw [← HQ.out]; exact nodeB_z (placesD_no (d := ⟨1, n, c, z, p⟩) (show ¬ ((1 : Int) = 3 ∨ (1 : Int) = 4 ∨ (1 : Int) = 7) by decide) HZ0.out))
      clear HQ
      go_wp2
      go_ret
      exact ⟨ret_bool HD.out.symm, hW1⟩
    have hzg : decide (0 < z.length) = false := decide_eq_false (by omega)
    have hpl : placesB z 6 = true := by rw [List.length_eq_zero_iff.1 hz0]; rfl
    have HP := Lib.hid (show placesD ⟨1, n, c, z, p⟩ = true by unfold placesD; rw [hpl, decide_eq_true hz0]; rw [Bool.or_true, Bool.true_and, Bool.true_and]; show decide (z.length ≤ 3) = true; exact decide_eq_true (by omega))
    have HPL := Lib.hid hpl
    clear hz0 hpl
    go_wp2_with fail
    refine (l1Places_six Az cz z w1 _ hZ1 (by omega)).mono ?_
    rintro e w2 ⟨rfl, rfl⟩
    rw [HPL.out]
    by_cases hp : p = -1
    rotate_left
    · have hpn : (p != -1) = true := by simpa using hp
      have HP0 := Lib.hid hp
      clear hp
      have HD := Lib.hid (show R = false by rw [← HQ.out]; exact nodeB_p (by rw [placeD_no (show (1 : Int) ≠ 7 by decide)]; exact decide_eq_false HP0.out))
      clear HQ
      go_wp2
      go_ret
      exact ⟨ret_bool HD.out.symm, hW1⟩
    have HPD := Lib.hid (show placeD ⟨1, n, c, z, p⟩ = true by rw [placeD_no (show (1 : Int) ≠ 7 by decide)]; exact decide_eq_true hp)
    subst hp
    go_wp2_with fail
    refine (l1In_any (-1) (-1) 5 w1).mono ?_
    rintro e w2 ⟨rfl, rfl⟩
    rw [show inB (-1) (-1) 5 = true from rfl]
    obtain ⟨b, hb⟩ : ∃ b, decide ((z.length : Int) ≤ 3) = b := ⟨_, rfl⟩
    have HE := Lib.hid (show R = b by
      rw [← HQ.out, nodeB_is rfl HN.out HC.out HP.out, HPD.out, ← hb]
      exact (decide_eq_true (by have : ¬ 0 < z.length := of_decide_eq_false hzg; omega)).symm)
    clear HQ
    go_wp2
    go_ret
    exact ⟨ret_bool HE.out.symm, hW1⟩
set_option maxRecDepth 100000 in
set_option maxHeartbeats 1000000 in
theorem specNode_2 (n : ByteArray) (c : List Cnd) (z : List Int) (p : Int) (Ac : Option Addr) (cc : Nat) (Az : Option Addr) (cz : Nat) (w : World) (hC : Cnds w w.heap.size Ac c) (hZ : Ints w w.heap.size Az z) (hf : fitD 1048576 ⟨2, n, c, z, p⟩) :
    Calls Tryd.prog 31 #[.agg #[.int .i64 2, .string n, .slice Ac c.length cc, .slice Az z.length cz, .int .i64 p]] w fun e w' => e = .returned (.bool (nodeB ⟨2, n, c, z, p⟩)) ∧ Below w.heap.size w w' := by
  obtain ⟨hn, hlc, hlz⟩ : n.size ≤ 1048576 ∧ c.length ≤ 1048576 ∧ z.length ≤ 1048576 := hf
  obtain ⟨R, hR⟩ : ∃ R, nodeB ⟨2, n, c, z, p⟩ = R := ⟨_, rfl⟩
  have HQ := Lib.hid hR
  rw [hR]
  clear hR
  have bc := (Below.refl w.heap.size w).alloc (Nat.le_refl _) (.cells #[.int .i64 2, .string n, .slice Ac c.length cc, .slice Az z.length cz, .int .i64 p] 50)
  have B := Blk.new w 50 #[.int .i64 2, .string n, .slice Ac c.length cc, .slice Az z.length cz, .int .i64 p]
  obtain ⟨c0, c1, c2, c3, c4⟩ := B.c5
  have hCb := hC.on bc
  have hZb := hZ.on bc
  clear hC hZ
  go_enter Tryd.func31, Tryd.ntmps31
  go_wp2_with fail
  generalize w.alloc (.cells #[.int .i64 2, .string n, .slice Ac c.length cc, .slice Az z.length cz, .int .i64 p] 50) = wb at *
  refine (l1In_any 2 1 7 wb).mono ?_
  rintro e w1 ⟨rfl, rfl⟩
  rw [show inB 2 1 7 = true from rfl]
  by_cases hn0 : n.size = 0
  rotate_left
  · have hnl : n.toList.isEmpty = false := by simpa using toList_not hn0
    have HN0 := Lib.hid hn0
    clear hn0
    have HD := Lib.hid (show R = false by rw [← HQ.out]; exact nodeB_n (by rw [nameD_no (show (2 : Int) ≠ 1 by decide)]; exact decide_eq_false HN0.out))
    clear HQ
    go_wp2
    go_ret
    exact ⟨ret_bool HD.out.symm, bc⟩
  have hnl : n.toList.isEmpty = true := by rw [toList_nil hn0]; rfl
  have HN := Lib.hid (show nameD ⟨2, n, c, z, p⟩ = true by rw [nameD_no (show (2 : Int) ≠ 1 by decide)]; exact decide_eq_true hn0)
  clear hn0
  go_wp2_with fail
  refine (l7Right_any Ac cc c wb hCb (by omega)).mono ?_
  rintro e w1 ⟨rfl, hb1⟩
  have hW1 := bel_step bc hb1
  have B1 := B.on hb1
  have hZ1 := hZb.on hb1
  clear c0 c1 c2 c3 c4 hCb hZb bc B hb1
  obtain ⟨c0, c1, c2, c3, c4⟩ := B1.c5
  cases hr : rightB c with
  | false =>
    have HD := Lib.hid (show R = false by rw [← HQ.out]; exact nodeB_c (show condsD ⟨2, n, c, z, p⟩ = false from hr))
    clear HQ
    go_wp2
    go_ret
    exact ⟨ret_bool HD.out.symm, hW1⟩
  | true =>
    have HC := Lib.hid (show condsD ⟨2, n, c, z, p⟩ = true from hr)
    clear hr
    by_cases hz0 : z.length = 0
    rotate_left
    · have hzg : 0 < z.length := by omega
      have HZ0 := Lib.hid hz0
      clear hz0
      have HD := Lib.hid (show R = false by rw [← HQ.out]; exact nodeB_z (placesD_no (d := ⟨2, n, c, z, p⟩) (show ¬ ((2 : Int) = 3 ∨ (2 : Int) = 4 ∨ (2 : Int) = 7) by decide) HZ0.out))
      clear HQ
      go_wp2
      go_ret
      exact ⟨ret_bool HD.out.symm, hW1⟩
    have hzg : decide (0 < z.length) = false := decide_eq_false (by omega)
    have hpl : placesB z 6 = true := by rw [List.length_eq_zero_iff.1 hz0]; rfl
    have HP := Lib.hid (show placesD ⟨2, n, c, z, p⟩ = true by unfold placesD; rw [hpl, decide_eq_true hz0]; rw [Bool.or_true, Bool.true_and, Bool.true_and]; show decide (z.length ≤ 3) = true; exact decide_eq_true (by omega))
    have HPL := Lib.hid hpl
    clear hz0 hpl
    go_wp2_with fail
    refine (l1Places_six Az cz z w1 _ hZ1 (by omega)).mono ?_
    rintro e w2 ⟨rfl, rfl⟩
    rw [HPL.out]
    by_cases hp : p = -1
    rotate_left
    · have hpn : (p != -1) = true := by simpa using hp
      have HP0 := Lib.hid hp
      clear hp
      have HD := Lib.hid (show R = false by rw [← HQ.out]; exact nodeB_p (by rw [placeD_no (show (2 : Int) ≠ 7 by decide)]; exact decide_eq_false HP0.out))
      clear HQ
      go_wp2
      go_ret
      exact ⟨ret_bool HD.out.symm, hW1⟩
    have HPD := Lib.hid (show placeD ⟨2, n, c, z, p⟩ = true by rw [placeD_no (show (2 : Int) ≠ 7 by decide)]; exact decide_eq_true hp)
    subst hp
    go_wp2_with fail
    refine (l1In_any (-1) (-1) 5 w1).mono ?_
    rintro e w2 ⟨rfl, rfl⟩
    rw [show inB (-1) (-1) 5 = true from rfl]
    obtain ⟨b, hb⟩ : ∃ b, decide ((z.length : Int) ≤ 3) = b := ⟨_, rfl⟩
    have HE := Lib.hid (show R = b by
      rw [← HQ.out, nodeB_is rfl HN.out HC.out HP.out, HPD.out, ← hb]
      exact (decide_eq_true (by have : ¬ 0 < z.length := of_decide_eq_false hzg; omega)).symm)
    clear HQ
    go_wp2
    go_ret
    exact ⟨ret_bool HE.out.symm, hW1⟩
set_option maxRecDepth 100000 in
set_option maxHeartbeats 1000000 in
theorem specNode_3 (n : ByteArray) (c : List Cnd) (z : List Int) (p : Int) (Ac : Option Addr) (cc : Nat) (Az : Option Addr) (cz : Nat) (w : World) (hC : Cnds w w.heap.size Ac c) (hZ : Ints w w.heap.size Az z) (hf : fitD 1048576 ⟨3, n, c, z, p⟩) :
    Calls Tryd.prog 31 #[.agg #[.int .i64 3, .string n, .slice Ac c.length cc, .slice Az z.length cz, .int .i64 p]] w fun e w' => e = .returned (.bool (nodeB ⟨3, n, c, z, p⟩)) ∧ Below w.heap.size w w' := by
  obtain ⟨hn, hlc, hlz⟩ : n.size ≤ 1048576 ∧ c.length ≤ 1048576 ∧ z.length ≤ 1048576 := hf
  obtain ⟨R, hR⟩ : ∃ R, nodeB ⟨3, n, c, z, p⟩ = R := ⟨_, rfl⟩
  have HQ := Lib.hid hR
  rw [hR]
  clear hR
  have bc := (Below.refl w.heap.size w).alloc (Nat.le_refl _) (.cells #[.int .i64 3, .string n, .slice Ac c.length cc, .slice Az z.length cz, .int .i64 p] 50)
  have B := Blk.new w 50 #[.int .i64 3, .string n, .slice Ac c.length cc, .slice Az z.length cz, .int .i64 p]
  obtain ⟨c0, c1, c2, c3, c4⟩ := B.c5
  have hCb := hC.on bc
  have hZb := hZ.on bc
  clear hC hZ
  go_enter Tryd.func31, Tryd.ntmps31
  go_wp2_with fail
  generalize w.alloc (.cells #[.int .i64 3, .string n, .slice Ac c.length cc, .slice Az z.length cz, .int .i64 p] 50) = wb at *
  refine (l1In_any 3 1 7 wb).mono ?_
  rintro e w1 ⟨rfl, rfl⟩
  rw [show inB 3 1 7 = true from rfl]
  by_cases hn0 : n.size = 0
  rotate_left
  · have hnl : n.toList.isEmpty = false := by simpa using toList_not hn0
    have HN0 := Lib.hid hn0
    clear hn0
    have HD := Lib.hid (show R = false by rw [← HQ.out]; exact nodeB_n (by rw [nameD_no (show (3 : Int) ≠ 1 by decide)]; exact decide_eq_false HN0.out))
    clear HQ
    go_wp2
    go_ret
    exact ⟨ret_bool HD.out.symm, bc⟩
  have hnl : n.toList.isEmpty = true := by rw [toList_nil hn0]; rfl
  have HN := Lib.hid (show nameD ⟨3, n, c, z, p⟩ = true by rw [nameD_no (show (3 : Int) ≠ 1 by decide)]; exact decide_eq_true hn0)
  clear hn0
  by_cases hc0 : c.length = 0
  rotate_left
  · have hcg : 0 < c.length := by omega
    have HC0 := Lib.hid hc0
    clear hc0
    have HD := Lib.hid (show R = false by rw [← HQ.out]; exact nodeB_c (by rw [condsD_no (show (3 : Int) ≠ 2 by decide)]; exact decide_eq_false HC0.out))
    clear HQ
    go_wp2
    go_ret
    exact ⟨ret_bool HD.out.symm, bc⟩
  have hcg : decide (0 < c.length) = false := decide_eq_false (by omega)
  have HC := Lib.hid (show condsD ⟨3, n, c, z, p⟩ = true by rw [condsD_no (show (3 : Int) ≠ 2 by decide)]; exact decide_eq_true hc0)
  have HR := Lib.hid (show rightB c = true by rw [List.length_eq_zero_iff.1 hc0]; rfl)
  clear hc0
  go_wp2_with fail
  refine (l7Right_any Ac cc c wb hCb (by omega)).mono ?_
  rintro e w1 ⟨rfl, hb1⟩
  rw [HR.out]
  have hW1 := bel_step bc hb1
  have B1 := B.on hb1
  have hZ1 := hZb.on hb1
  clear c0 c1 c2 c3 c4 hCb hZb bc B hb1 hcg HR
  obtain ⟨c0, c1, c2, c3, c4⟩ := B1.c5
  go_wp2_with fail
  refine (l1Places_six Az cz z w1 _ hZ1 (by omega)).mono ?_
  rintro e w2 ⟨rfl, rfl⟩
  cases hpl : placesB z 6 with
  | false =>
    have HD := Lib.hid (show R = false by rw [← HQ.out]; exact nodeB_z (placesD_len (d := ⟨3, n, c, z, p⟩) hpl))
    clear HQ
    go_wp2
    go_ret
    exact ⟨ret_bool HD.out.symm, hW1⟩
  | true =>
    have HPL := Lib.hid hpl
    clear hpl
    by_cases hp : p = -1
    rotate_left
    · have hpn : (p != -1) = true := by simpa using hp
      have HP0 := Lib.hid hp
      clear hp
      have HD := Lib.hid (show R = false by rw [← HQ.out]; exact nodeB_p (by rw [placeD_no (show (3 : Int) ≠ 7 by decide)]; exact decide_eq_false HP0.out))
      clear HQ
      go_wp2
      go_ret
      exact ⟨ret_bool HD.out.symm, hW1⟩
    have HPD := Lib.hid (show placeD ⟨3, n, c, z, p⟩ = true by rw [placeD_no (show (3 : Int) ≠ 7 by decide)]; exact decide_eq_true hp)
    subst hp
    go_wp2_with fail
    refine (l1In_any (-1) (-1) 5 w1).mono ?_
    rintro e w2 ⟨rfl, rfl⟩
    rw [show inB (-1) (-1) 5 = true from rfl]
    go_wp2_with fail
    refine (l1In_any (z.length : Int) 1 6 w1).mono ?_
    rintro e w2 ⟨rfl, rfl⟩
    obtain ⟨b, hb⟩ : ∃ b, inB (z.length : Int) 1 6 = b := ⟨_, rfl⟩
    have HL := Lib.hid (show lenB 3 z.length = b by exact hb)
    have HE := Lib.hid (show R = b by
      rw [← HQ.out]; unfold nodeB; rw [HN.out, HC.out, HPD.out]; unfold placesD; rw [HPL.out]
      show (true && (true && (true && ((true && (true && lenB 3 z.length)) && true)))) = b
      rw [HL.out]; simp)
    rw [hb]
    clear HQ
    go_wp2
    go_ret
    exact ⟨ret_bool HE.out.symm, hW1⟩
set_option maxRecDepth 100000 in
set_option maxHeartbeats 1000000 in
theorem specNode_4 (n : ByteArray) (c : List Cnd) (z : List Int) (p : Int) (Ac : Option Addr) (cc : Nat) (Az : Option Addr) (cz : Nat) (w : World) (hC : Cnds w w.heap.size Ac c) (hZ : Ints w w.heap.size Az z) (hf : fitD 1048576 ⟨4, n, c, z, p⟩) :
    Calls Tryd.prog 31 #[.agg #[.int .i64 4, .string n, .slice Ac c.length cc, .slice Az z.length cz, .int .i64 p]] w fun e w' => e = .returned (.bool (nodeB ⟨4, n, c, z, p⟩)) ∧ Below w.heap.size w w' := by
  obtain ⟨hn, hlc, hlz⟩ : n.size ≤ 1048576 ∧ c.length ≤ 1048576 ∧ z.length ≤ 1048576 := hf
  obtain ⟨R, hR⟩ : ∃ R, nodeB ⟨4, n, c, z, p⟩ = R := ⟨_, rfl⟩
  have HQ := Lib.hid hR
  rw [hR]
  clear hR
  have bc := (Below.refl w.heap.size w).alloc (Nat.le_refl _) (.cells #[.int .i64 4, .string n, .slice Ac c.length cc, .slice Az z.length cz, .int .i64 p] 50)
  have B := Blk.new w 50 #[.int .i64 4, .string n, .slice Ac c.length cc, .slice Az z.length cz, .int .i64 p]
  obtain ⟨c0, c1, c2, c3, c4⟩ := B.c5
  have hCb := hC.on bc
  have hZb := hZ.on bc
  clear hC hZ
  go_enter Tryd.func31, Tryd.ntmps31
  go_wp2_with fail
  generalize w.alloc (.cells #[.int .i64 4, .string n, .slice Ac c.length cc, .slice Az z.length cz, .int .i64 p] 50) = wb at *
  refine (l1In_any 4 1 7 wb).mono ?_
  rintro e w1 ⟨rfl, rfl⟩
  rw [show inB 4 1 7 = true from rfl]
  by_cases hn0 : n.size = 0
  rotate_left
  · have hnl : n.toList.isEmpty = false := by simpa using toList_not hn0
    have HN0 := Lib.hid hn0
    clear hn0
    have HD := Lib.hid (show R = false by rw [← HQ.out]; exact nodeB_n (by rw [nameD_no (show (4 : Int) ≠ 1 by decide)]; exact decide_eq_false HN0.out))
    clear HQ
    go_wp2
    go_ret
    exact ⟨ret_bool HD.out.symm, bc⟩
  have hnl : n.toList.isEmpty = true := by rw [toList_nil hn0]; rfl
  have HN := Lib.hid (show nameD ⟨4, n, c, z, p⟩ = true by rw [nameD_no (show (4 : Int) ≠ 1 by decide)]; exact decide_eq_true hn0)
  clear hn0
  by_cases hc0 : c.length = 0
  rotate_left
  · have hcg : 0 < c.length := by omega
    have HC0 := Lib.hid hc0
    clear hc0
    have HD := Lib.hid (show R = false by rw [← HQ.out]; exact nodeB_c (by rw [condsD_no (show (4 : Int) ≠ 2 by decide)]; exact decide_eq_false HC0.out))
    clear HQ
    go_wp2
    go_ret
    exact ⟨ret_bool HD.out.symm, bc⟩
  have hcg : decide (0 < c.length) = false := decide_eq_false (by omega)
  have HC := Lib.hid (show condsD ⟨4, n, c, z, p⟩ = true by rw [condsD_no (show (4 : Int) ≠ 2 by decide)]; exact decide_eq_true hc0)
  have HR := Lib.hid (show rightB c = true by rw [List.length_eq_zero_iff.1 hc0]; rfl)
  clear hc0
  go_wp2_with fail
  refine (l7Right_any Ac cc c wb hCb (by omega)).mono ?_
  rintro e w1 ⟨rfl, hb1⟩
  rw [HR.out]
  have hW1 := bel_step bc hb1
  have B1 := B.on hb1
  have hZ1 := hZb.on hb1
  clear c0 c1 c2 c3 c4 hCb hZb bc B hb1 hcg HR
  obtain ⟨c0, c1, c2, c3, c4⟩ := B1.c5
  go_wp2_with fail
  refine (l1Places_six Az cz z w1 _ hZ1 (by omega)).mono ?_
  rintro e w2 ⟨rfl, rfl⟩
  cases hpl : placesB z 6 with
  | false =>
    have HD := Lib.hid (show R = false by rw [← HQ.out]; exact nodeB_z (placesD_len (d := ⟨4, n, c, z, p⟩) hpl))
    clear HQ
    go_wp2
    go_ret
    exact ⟨ret_bool HD.out.symm, hW1⟩
  | true =>
    have HPL := Lib.hid hpl
    clear hpl
    by_cases hp : p = -1
    rotate_left
    · have hpn : (p != -1) = true := by simpa using hp
      have HP0 := Lib.hid hp
      clear hp
      have HD := Lib.hid (show R = false by rw [← HQ.out]; exact nodeB_p (by rw [placeD_no (show (4 : Int) ≠ 7 by decide)]; exact decide_eq_false HP0.out))
      clear HQ
      go_wp2
      go_ret
      exact ⟨ret_bool HD.out.symm, hW1⟩
    have HPD := Lib.hid (show placeD ⟨4, n, c, z, p⟩ = true by rw [placeD_no (show (4 : Int) ≠ 7 by decide)]; exact decide_eq_true hp)
    subst hp
    go_wp2_with fail
    refine (l1In_any (-1) (-1) 5 w1).mono ?_
    rintro e w2 ⟨rfl, rfl⟩
    rw [show inB (-1) (-1) 5 = true from rfl]
    obtain ⟨b, hb⟩ : ∃ b, ((z.length : Int) == 2) = b := ⟨_, rfl⟩
    have HL := Lib.hid (show lenB 4 z.length = b by rw [← hb]; show decide (z.length = 2) = _; rw [Bool.eq_iff_iff]; simp; omega)
    have HE := Lib.hid (show R = b by
      rw [← HQ.out]; unfold nodeB; rw [HN.out, HC.out, HPD.out]; unfold placesD; rw [HPL.out]
      show (true && (true && (true && ((true && (true && lenB 4 z.length)) && true)))) = b
      rw [HL.out]; simp)
    clear HQ
    go_wp2
    go_ret
    exact ⟨ret_bool HE.out.symm, hW1⟩
set_option maxRecDepth 100000 in
set_option maxHeartbeats 1000000 in
theorem specNode_5 (n : ByteArray) (c : List Cnd) (z : List Int) (p : Int) (Ac : Option Addr) (cc : Nat) (Az : Option Addr) (cz : Nat) (w : World) (hC : Cnds w w.heap.size Ac c) (hZ : Ints w w.heap.size Az z) (hf : fitD 1048576 ⟨5, n, c, z, p⟩) :
    Calls Tryd.prog 31 #[.agg #[.int .i64 5, .string n, .slice Ac c.length cc, .slice Az z.length cz, .int .i64 p]] w fun e w' => e = .returned (.bool (nodeB ⟨5, n, c, z, p⟩)) ∧ Below w.heap.size w w' := by
  obtain ⟨hn, hlc, hlz⟩ : n.size ≤ 1048576 ∧ c.length ≤ 1048576 ∧ z.length ≤ 1048576 := hf
  obtain ⟨R, hR⟩ : ∃ R, nodeB ⟨5, n, c, z, p⟩ = R := ⟨_, rfl⟩
  have HQ := Lib.hid hR
  rw [hR]
  clear hR
  have bc := (Below.refl w.heap.size w).alloc (Nat.le_refl _) (.cells #[.int .i64 5, .string n, .slice Ac c.length cc, .slice Az z.length cz, .int .i64 p] 50)
  have B := Blk.new w 50 #[.int .i64 5, .string n, .slice Ac c.length cc, .slice Az z.length cz, .int .i64 p]
  obtain ⟨c0, c1, c2, c3, c4⟩ := B.c5
  have hCb := hC.on bc
  have hZb := hZ.on bc
  clear hC hZ
  go_enter Tryd.func31, Tryd.ntmps31
  go_wp2_with fail
  generalize w.alloc (.cells #[.int .i64 5, .string n, .slice Ac c.length cc, .slice Az z.length cz, .int .i64 p] 50) = wb at *
  refine (l1In_any 5 1 7 wb).mono ?_
  rintro e w1 ⟨rfl, rfl⟩
  rw [show inB 5 1 7 = true from rfl]
  by_cases hn0 : n.size = 0
  rotate_left
  · have hnl : n.toList.isEmpty = false := by simpa using toList_not hn0
    have HN0 := Lib.hid hn0
    clear hn0
    have HD := Lib.hid (show R = false by rw [← HQ.out]; exact nodeB_n (by rw [nameD_no (show (5 : Int) ≠ 1 by decide)]; exact decide_eq_false HN0.out))
    clear HQ
    go_wp2
    go_ret
    exact ⟨ret_bool HD.out.symm, bc⟩
  have hnl : n.toList.isEmpty = true := by rw [toList_nil hn0]; rfl
  have HN := Lib.hid (show nameD ⟨5, n, c, z, p⟩ = true by rw [nameD_no (show (5 : Int) ≠ 1 by decide)]; exact decide_eq_true hn0)
  clear hn0
  by_cases hc0 : c.length = 0
  rotate_left
  · have hcg : 0 < c.length := by omega
    have HC0 := Lib.hid hc0
    clear hc0
    have HD := Lib.hid (show R = false by rw [← HQ.out]; exact nodeB_c (by rw [condsD_no (show (5 : Int) ≠ 2 by decide)]; exact decide_eq_false HC0.out))
    clear HQ
    go_wp2
    go_ret
    exact ⟨ret_bool HD.out.symm, bc⟩
  have hcg : decide (0 < c.length) = false := decide_eq_false (by omega)
  have HC := Lib.hid (show condsD ⟨5, n, c, z, p⟩ = true by rw [condsD_no (show (5 : Int) ≠ 2 by decide)]; exact decide_eq_true hc0)
  have HR := Lib.hid (show rightB c = true by rw [List.length_eq_zero_iff.1 hc0]; rfl)
  clear hc0
  go_wp2_with fail
  refine (l7Right_any Ac cc c wb hCb (by omega)).mono ?_
  rintro e w1 ⟨rfl, hb1⟩
  rw [HR.out]
  have hW1 := bel_step bc hb1
  have B1 := B.on hb1
  have hZ1 := hZb.on hb1
  clear c0 c1 c2 c3 c4 hCb hZb bc B hb1 hcg HR
  obtain ⟨c0, c1, c2, c3, c4⟩ := B1.c5
  by_cases hz0 : z.length = 0
  rotate_left
  · have hzg : 0 < z.length := by omega
    have HZ0 := Lib.hid hz0
    clear hz0
    have HD := Lib.hid (show R = false by rw [← HQ.out]; exact nodeB_z (placesD_no (d := ⟨5, n, c, z, p⟩) (show ¬ ((5 : Int) = 3 ∨ (5 : Int) = 4 ∨ (5 : Int) = 7) by decide) HZ0.out))
    clear HQ
    go_wp2
    go_ret
    exact ⟨ret_bool HD.out.symm, hW1⟩
  have hzg : decide (0 < z.length) = false := decide_eq_false (by omega)
  have hpl : placesB z 6 = true := by rw [List.length_eq_zero_iff.1 hz0]; rfl
  have HP := Lib.hid (show placesD ⟨5, n, c, z, p⟩ = true by unfold placesD; rw [hpl, decide_eq_true hz0]; rw [Bool.or_true, Bool.true_and, Bool.true_and]; show decide (z.length ≤ 3) = true; exact decide_eq_true (by omega))
  have HPL := Lib.hid hpl
  clear hz0 hpl
  go_wp2_with fail
  refine (l1Places_six Az cz z w1 _ hZ1 (by omega)).mono ?_
  rintro e w2 ⟨rfl, rfl⟩
  rw [HPL.out]
  by_cases hp : p = -1
  rotate_left
  · have hpn : (p != -1) = true := by simpa using hp
    have HP0 := Lib.hid hp
    clear hp
    have HD := Lib.hid (show R = false by rw [← HQ.out]; exact nodeB_p (by rw [placeD_no (show (5 : Int) ≠ 7 by decide)]; exact decide_eq_false HP0.out))
    clear HQ
    go_wp2
    go_ret
    exact ⟨ret_bool HD.out.symm, hW1⟩
  have HPD := Lib.hid (show placeD ⟨5, n, c, z, p⟩ = true by rw [placeD_no (show (5 : Int) ≠ 7 by decide)]; exact decide_eq_true hp)
  subst hp
  go_wp2_with fail
  refine (l1In_any (-1) (-1) 5 w1).mono ?_
  rintro e w2 ⟨rfl, rfl⟩
  rw [show inB (-1) (-1) 5 = true from rfl]
  obtain ⟨b, hb⟩ : ∃ b, decide ((z.length : Int) ≤ 3) = b := ⟨_, rfl⟩
  have HE := Lib.hid (show R = b by
    rw [← HQ.out, nodeB_is rfl HN.out HC.out HP.out, HPD.out, ← hb]
    exact (decide_eq_true (by have : ¬ 0 < z.length := of_decide_eq_false hzg; omega)).symm)
  clear HQ
  go_wp2
  go_ret
  exact ⟨ret_bool HE.out.symm, hW1⟩
set_option maxRecDepth 100000 in
set_option maxHeartbeats 1000000 in
theorem specNode_6 (n : ByteArray) (c : List Cnd) (z : List Int) (p : Int) (Ac : Option Addr) (cc : Nat) (Az : Option Addr) (cz : Nat) (w : World) (hC : Cnds w w.heap.size Ac c) (hZ : Ints w w.heap.size Az z) (hf : fitD 1048576 ⟨6, n, c, z, p⟩) :
    Calls Tryd.prog 31 #[.agg #[.int .i64 6, .string n, .slice Ac c.length cc, .slice Az z.length cz, .int .i64 p]] w fun e w' => e = .returned (.bool (nodeB ⟨6, n, c, z, p⟩)) ∧ Below w.heap.size w w' := by
  obtain ⟨hn, hlc, hlz⟩ : n.size ≤ 1048576 ∧ c.length ≤ 1048576 ∧ z.length ≤ 1048576 := hf
  obtain ⟨R, hR⟩ : ∃ R, nodeB ⟨6, n, c, z, p⟩ = R := ⟨_, rfl⟩
  have HQ := Lib.hid hR
  rw [hR]
  clear hR
  have bc := (Below.refl w.heap.size w).alloc (Nat.le_refl _) (.cells #[.int .i64 6, .string n, .slice Ac c.length cc, .slice Az z.length cz, .int .i64 p] 50)
  have B := Blk.new w 50 #[.int .i64 6, .string n, .slice Ac c.length cc, .slice Az z.length cz, .int .i64 p]
  obtain ⟨c0, c1, c2, c3, c4⟩ := B.c5
  have hCb := hC.on bc
  have hZb := hZ.on bc
  clear hC hZ
  go_enter Tryd.func31, Tryd.ntmps31
  go_wp2_with fail
  generalize w.alloc (.cells #[.int .i64 6, .string n, .slice Ac c.length cc, .slice Az z.length cz, .int .i64 p] 50) = wb at *
  refine (l1In_any 6 1 7 wb).mono ?_
  rintro e w1 ⟨rfl, rfl⟩
  rw [show inB 6 1 7 = true from rfl]
  by_cases hn0 : n.size = 0
  rotate_left
  · have hnl : n.toList.isEmpty = false := by simpa using toList_not hn0
    have HN0 := Lib.hid hn0
    clear hn0
    have HD := Lib.hid (show R = false by rw [← HQ.out]; exact nodeB_n (by rw [nameD_no (show (6 : Int) ≠ 1 by decide)]; exact decide_eq_false HN0.out))
    clear HQ
    go_wp2
    go_ret
    exact ⟨ret_bool HD.out.symm, bc⟩
  have hnl : n.toList.isEmpty = true := by rw [toList_nil hn0]; rfl
  have HN := Lib.hid (show nameD ⟨6, n, c, z, p⟩ = true by rw [nameD_no (show (6 : Int) ≠ 1 by decide)]; exact decide_eq_true hn0)
  clear hn0
  by_cases hc0 : c.length = 0
  rotate_left
  · have hcg : 0 < c.length := by omega
    have HC0 := Lib.hid hc0
    clear hc0
    have HD := Lib.hid (show R = false by rw [← HQ.out]; exact nodeB_c (by rw [condsD_no (show (6 : Int) ≠ 2 by decide)]; exact decide_eq_false HC0.out))
    clear HQ
    go_wp2
    go_ret
    exact ⟨ret_bool HD.out.symm, bc⟩
  have hcg : decide (0 < c.length) = false := decide_eq_false (by omega)
  have HC := Lib.hid (show condsD ⟨6, n, c, z, p⟩ = true by rw [condsD_no (show (6 : Int) ≠ 2 by decide)]; exact decide_eq_true hc0)
  have HR := Lib.hid (show rightB c = true by rw [List.length_eq_zero_iff.1 hc0]; rfl)
  clear hc0
  go_wp2_with fail
  refine (l7Right_any Ac cc c wb hCb (by omega)).mono ?_
  rintro e w1 ⟨rfl, hb1⟩
  rw [HR.out]
  have hW1 := bel_step bc hb1
  have B1 := B.on hb1
  have hZ1 := hZb.on hb1
  clear c0 c1 c2 c3 c4 hCb hZb bc B hb1 hcg HR
  obtain ⟨c0, c1, c2, c3, c4⟩ := B1.c5
  by_cases hz0 : z.length = 0
  rotate_left
  · have hzg : 0 < z.length := by omega
    have HZ0 := Lib.hid hz0
    clear hz0
    have HD := Lib.hid (show R = false by rw [← HQ.out]; exact nodeB_z (placesD_no (d := ⟨6, n, c, z, p⟩) (show ¬ ((6 : Int) = 3 ∨ (6 : Int) = 4 ∨ (6 : Int) = 7) by decide) HZ0.out))
    clear HQ
    go_wp2
    go_ret
    exact ⟨ret_bool HD.out.symm, hW1⟩
  have hzg : decide (0 < z.length) = false := decide_eq_false (by omega)
  have hpl : placesB z 6 = true := by rw [List.length_eq_zero_iff.1 hz0]; rfl
  have HP := Lib.hid (show placesD ⟨6, n, c, z, p⟩ = true by unfold placesD; rw [hpl, decide_eq_true hz0]; rw [Bool.or_true, Bool.true_and, Bool.true_and]; show decide (z.length ≤ 3) = true; exact decide_eq_true (by omega))
  have HPL := Lib.hid hpl
  clear hz0 hpl
  go_wp2_with fail
  refine (l1Places_six Az cz z w1 _ hZ1 (by omega)).mono ?_
  rintro e w2 ⟨rfl, rfl⟩
  rw [HPL.out]
  by_cases hp : p = -1
  rotate_left
  · have hpn : (p != -1) = true := by simpa using hp
    have HP0 := Lib.hid hp
    clear hp
    have HD := Lib.hid (show R = false by rw [← HQ.out]; exact nodeB_p (by rw [placeD_no (show (6 : Int) ≠ 7 by decide)]; exact decide_eq_false HP0.out))
    clear HQ
    go_wp2
    go_ret
    exact ⟨ret_bool HD.out.symm, hW1⟩
  have HPD := Lib.hid (show placeD ⟨6, n, c, z, p⟩ = true by rw [placeD_no (show (6 : Int) ≠ 7 by decide)]; exact decide_eq_true hp)
  subst hp
  go_wp2_with fail
  refine (l1In_any (-1) (-1) 5 w1).mono ?_
  rintro e w2 ⟨rfl, rfl⟩
  rw [show inB (-1) (-1) 5 = true from rfl]
  obtain ⟨b, hb⟩ : ∃ b, decide ((z.length : Int) ≤ 3) = b := ⟨_, rfl⟩
  have HE := Lib.hid (show R = b by
    rw [← HQ.out, nodeB_is rfl HN.out HC.out HP.out, HPD.out, ← hb]
    exact (decide_eq_true (by have : ¬ 0 < z.length := of_decide_eq_false hzg; omega)).symm)
  clear HQ
  go_wp2
  go_ret
  exact ⟨ret_bool HE.out.symm, hW1⟩
set_option maxRecDepth 100000 in
set_option maxHeartbeats 1000000 in
theorem specNode_7 (n : ByteArray) (c : List Cnd) (z : List Int) (p : Int) (Ac : Option Addr) (cc : Nat) (Az : Option Addr) (cz : Nat) (w : World) (hC : Cnds w w.heap.size Ac c) (hZ : Ints w w.heap.size Az z) (hf : fitD 1048576 ⟨7, n, c, z, p⟩) :
    Calls Tryd.prog 31 #[.agg #[.int .i64 7, .string n, .slice Ac c.length cc, .slice Az z.length cz, .int .i64 p]] w fun e w' => e = .returned (.bool (nodeB ⟨7, n, c, z, p⟩)) ∧ Below w.heap.size w w' := by
  obtain ⟨hn, hlc, hlz⟩ : n.size ≤ 1048576 ∧ c.length ≤ 1048576 ∧ z.length ≤ 1048576 := hf
  obtain ⟨R, hR⟩ : ∃ R, nodeB ⟨7, n, c, z, p⟩ = R := ⟨_, rfl⟩
  have HQ := Lib.hid hR
  rw [hR]
  clear hR
  have bc := (Below.refl w.heap.size w).alloc (Nat.le_refl _) (.cells #[.int .i64 7, .string n, .slice Ac c.length cc, .slice Az z.length cz, .int .i64 p] 50)
  have B := Blk.new w 50 #[.int .i64 7, .string n, .slice Ac c.length cc, .slice Az z.length cz, .int .i64 p]
  obtain ⟨c0, c1, c2, c3, c4⟩ := B.c5
  have hCb := hC.on bc
  have hZb := hZ.on bc
  clear hC hZ
  go_enter Tryd.func31, Tryd.ntmps31
  go_wp2_with fail
  generalize w.alloc (.cells #[.int .i64 7, .string n, .slice Ac c.length cc, .slice Az z.length cz, .int .i64 p] 50) = wb at *
  refine (l1In_any 7 1 7 wb).mono ?_
  rintro e w1 ⟨rfl, rfl⟩
  rw [show inB 7 1 7 = true from rfl]
  by_cases hn0 : n.size = 0
  rotate_left
  · have hnl : n.toList.isEmpty = false := by simpa using toList_not hn0
    have HN0 := Lib.hid hn0
    clear hn0
    have HD := Lib.hid (show R = false by rw [← HQ.out]; exact nodeB_n (by rw [nameD_no (show (7 : Int) ≠ 1 by decide)]; exact decide_eq_false HN0.out))
    clear HQ
    go_wp2
    go_ret
    exact ⟨ret_bool HD.out.symm, bc⟩
  have hnl : n.toList.isEmpty = true := by rw [toList_nil hn0]; rfl
  have HN := Lib.hid (show nameD ⟨7, n, c, z, p⟩ = true by rw [nameD_no (show (7 : Int) ≠ 1 by decide)]; exact decide_eq_true hn0)
  clear hn0
  by_cases hc0 : c.length = 0
  rotate_left
  · have hcg : 0 < c.length := by omega
    have HC0 := Lib.hid hc0
    clear hc0
    have HD := Lib.hid (show R = false by rw [← HQ.out]; exact nodeB_c (by rw [condsD_no (show (7 : Int) ≠ 2 by decide)]; exact decide_eq_false HC0.out))
    clear HQ
    go_wp2
    go_ret
    exact ⟨ret_bool HD.out.symm, bc⟩
  have hcg : decide (0 < c.length) = false := decide_eq_false (by omega)
  have HC := Lib.hid (show condsD ⟨7, n, c, z, p⟩ = true by rw [condsD_no (show (7 : Int) ≠ 2 by decide)]; exact decide_eq_true hc0)
  have HR := Lib.hid (show rightB c = true by rw [List.length_eq_zero_iff.1 hc0]; rfl)
  clear hc0
  go_wp2_with fail
  refine (l7Right_any Ac cc c wb hCb (by omega)).mono ?_
  rintro e w1 ⟨rfl, hb1⟩
  rw [HR.out]
  have hW1 := bel_step bc hb1
  have B1 := B.on hb1
  have hZ1 := hZb.on hb1
  clear c0 c1 c2 c3 c4 hCb hZb bc B hb1 hcg HR
  obtain ⟨c0, c1, c2, c3, c4⟩ := B1.c5
  go_wp2_with fail
  refine (l1Places_six Az cz z w1 _ hZ1 (by omega)).mono ?_
  rintro e w2 ⟨rfl, rfl⟩
  cases hpl : placesB z 6 with
  | false =>
    have HD := Lib.hid (show R = false by rw [← HQ.out]; exact nodeB_z (placesD_len (d := ⟨7, n, c, z, p⟩) hpl))
    clear HQ
    go_wp2
    go_ret
    exact ⟨ret_bool HD.out.symm, hW1⟩
  | true =>
    have HPL := Lib.hid hpl
    clear hpl
    go_wp2_with fail
    refine (l1In_any p (-1) 5 w1).mono ?_
    rintro e w2 ⟨rfl, rfl⟩
    cases hp : inB p (-1) 5 with
    | false =>
      have HD := Lib.hid (show R = false by rw [← HQ.out]; exact nodeB_p (show placeD ⟨7, n, c, z, p⟩ = false from hp))
      clear HQ
      go_wp2
      go_ret
      exact ⟨ret_bool HD.out.symm, hW1⟩
    | true =>
      have HPD := Lib.hid (show placeD ⟨7, n, c, z, p⟩ = true from hp)
      clear hp
      obtain ⟨b, hb⟩ : ∃ b, decide ((z.length : Int) ≤ 3) = b := ⟨_, rfl⟩
      have HL := Lib.hid (show lenB 7 z.length = b by rw [← hb]; show decide (z.length ≤ 3) = _; exact decide_eq_decide.2 (by omega))
      have HE := Lib.hid (show R = b by
        rw [← HQ.out]; unfold nodeB; rw [HN.out, HC.out, HPD.out]; unfold placesD; rw [HPL.out]
        show (true && (true && (true && ((true && (true && lenB 7 z.length)) && true)))) = b
        rw [HL.out]; simp)
      clear HQ
      go_wp2
      go_ret
      exact ⟨ret_bool HE.out.symm, hW1⟩
set_option maxRecDepth 100000 in
set_option maxHeartbeats 2000000 in
theorem specNodeOk_any (d : Nd) (Ac : Option Addr) (cc : Nat) (Az : Option Addr) (cz : Nat) (w : World) (hC : Cnds w w.heap.size Ac d.c) (hZ : Ints w w.heap.size Az d.z) (hf : fitD 1048576 d) :
    Calls Tryd.prog 31 #[.agg #[.int .i64 d.k, .string d.n, .slice Ac d.c.length cc, .slice Az d.z.length cz, .int .i64 d.p]] w fun e w' => e = .returned (.bool (nodeB d)) ∧ Below w.heap.size w w' := by
  by_cases hk : 1 ≤ d.k ∧ d.k ≤ 7
  · obtain ⟨k, n, c, z, p⟩ := d
    simp only at hk hC hZ ⊢
    have h7 : k = 1 ∨ k = 2 ∨ k = 3 ∨ k = 4 ∨ k = 5 ∨ k = 6 ∨ k = 7 := by omega
    rcases h7 with rfl | rfl | rfl | rfl | rfl | rfl | rfl
    · exact specNode_1 n c z p Ac cc Az cz w hC hZ hf
    · exact specNode_2 n c z p Ac cc Az cz w hC hZ hf
    · exact specNode_3 n c z p Ac cc Az cz w hC hZ hf
    · exact specNode_4 n c z p Ac cc Az cz w hC hZ hf
    · exact specNode_5 n c z p Ac cc Az cz w hC hZ hf
    · exact specNode_6 n c z p Ac cc Az cz w hC hZ hf
    · exact specNode_7 n c z p Ac cc Az cz w hC hZ hf
  · have hin : inB d.k 1 7 = false := by
      unfold inB
      rw [Bool.and_eq_false_iff, decide_eq_false_iff_not, decide_eq_false_iff_not]
      omega
    have HF := Lib.hid (nodeB_k hin)
    have bc := (Below.refl w.heap.size w).alloc (Nat.le_refl _) (.cells #[.int .i64 d.k, .string d.n, .slice Ac d.c.length cc, .slice Az d.z.length cz, .int .i64 d.p] 50)
    obtain ⟨c0, c1, c2, c3, c4⟩ := (Blk.new w 50 #[.int .i64 d.k, .string d.n, .slice Ac d.c.length cc, .slice Az d.z.length cz, .int .i64 d.p]).c5
    have h1 : (d.k == 1) = false := by simp; omega
    have h3 : (d.k == 3) = false := by simp; omega
    have h4 : (d.k == 4) = false := by simp; omega
    have h7 : (d.k == 7) = false := by simp; omega
    go_enter Tryd.func31, Tryd.ntmps31
    go_wp2_with fail
    generalize w.alloc (.cells #[.int .i64 d.k, .string d.n, .slice Ac d.c.length cc, .slice Az d.z.length cz, .int .i64 d.p] 50) = wb at *
    refine (l1In_any d.k 1 7 wb).mono ?_
    rintro e w1 ⟨rfl, rfl⟩
    rw [hin]
    go_wp2
    go_ret
    exact ⟨ret_bool HF.out.symm, bc⟩
theorem l8Looks_any (k : Int) (w : World) :
    Calls Tryd.prog 32 #[.int .i64 k] w fun e w' => e = .returned (.int .i64 (looksN k : Nat)) ∧ w = w' := by
  by_cases h1 : k = 1
  · subst h1
    go_enter Tryd.func32, Tryd.ntmps32
    go_wp2
    go_ret
    exact ⟨rfl, rfl⟩
  by_cases h4 : k = 4
  · subst h4
    go_enter Tryd.func32, Tryd.ntmps32
    go_wp2
    go_ret
    exact ⟨rfl, rfl⟩
  by_cases h5 : k = 5
  · subst h5
    go_enter Tryd.func32, Tryd.ntmps32
    go_wp2
    go_ret
    exact ⟨rfl, rfl⟩
  have HL := Lib.hid (show looksN k = 1 by unfold looksN; rw [if_neg h1, if_neg (by omega)])
  have e1 : (k == 1) = false := by simpa using h1
  have e4 : (k == 4) = false := by simpa using h4
  have e5 : (k == 5) = false := by simpa using h5
  clear h1 h4 h5
  go_enter Tryd.func32, Tryd.ntmps32
  go_wp2
  go_ret
  exact ⟨by rw [HL.out]; rfl, rfl⟩

set_option maxRecDepth 100000 in
set_option maxHeartbeats 1000000 in
theorem specViewOk_any (A : Option Addr) (c : Nat) (v : List Nd) (w : World) (hT : Nds w w.heap.size A v) (hf : fitN 1048576 v) (hl : v.length ≤ 1048576) :
    Calls Tryd.prog 15 #[.slice A v.length c] w fun e w' => e = .returned (.bool (viewB v)) ∧ Below w.heap.size w w' := by
  have HFT := Lib.hid hf
  have HFB := Lib.hid (freeAt_bound v)
  clear hf
  go_enter Tryd.func15, Tryd.ntmps15
  go_wp2
  go_loopw [3, 4] (fun f i wr => ∃ k : Nat, k ≤ v.length ∧ i = .int .i64 k ∧ f = .int .i64 (freeAt v k) ∧ (List.range k).all (okNd v) = true ∧ Below w.heap.size w wr) (fun _ i _ => v.length - (intOf i).toNat)
  case atStart => exact ⟨0, Nat.zero_le _, rfl, rfl, rfl, Below.refl _ _⟩
  case round =>
    obtain ⟨k, hk, rfl, rfl, ht, hW⟩ := hrel
    have HT := Lib.hid ht
    have hTr := hT.on hW
    have hfb := HFB.out k hk
    clear ht hT
    by_cases hlt : k < v.length
    · obtain ⟨b, off, Ac, cc, Az, cz, rfl, hb, c0, c1, c2, c3, c4, hC, hZ⟩ := hTr.here hlt
      have HO := Lib.hid (show okNd v k = (nodeB (ndx v k) && decide ((looksN (ndx v k).k : Int) ≤ freeAt v k)) from rfl)
      have HS := Lib.hid (freeAt_succ hlt)
      have hlk := looksN_le (ndx v k).k
      obtain ⟨F, hF⟩ : ∃ F, freeAt v k = F := ⟨_, rfl⟩
      rw [hF] at hfb HO HS ⊢
      clear hF hTr
      go_wp2_with fail
      refine (specNodeOk_any (ndx v k) Ac cc Az cz wr hC hZ (HFT.out k hlt)).mono ?_
      rintro e w1 ⟨rfl, hb1⟩
      have hW1 := bel_step hW hb1
      have d0 := (hb1.cell (p := ⟨b, off + k * 5, none⟩) hb).trans c0
      clear c0 c1 c2 c3 c4 hC hZ hW hb1
      cases hok : nodeB (ndx v k) with
      | false =>
        have HF := Lib.hid (viewB_stop hlt (by rw [HO.out, hok]; rfl))
        clear hok
        go_wp2
        go_ret
        exact ⟨ret_bool HF.out.symm, hW1⟩
      | true =>
        have HOK := Lib.hid hok
        clear hok
        go_wp2_with fail
        refine (l8Looks_any (ndx v k).k w1).mono ?_
        rintro e w2 ⟨rfl, rfl⟩
        by_cases hlo : (looksN (ndx v k).k : Int) ≤ F
        · have hls : decide (F < (looksN (ndx v k).k : Int)) = false := by simp; omega
          have HR := Lib.hid (show (List.range (k + 1)).all (okNd v) = true by rw [okNd_succ, HT.out, HO.out, HOK.out, decide_eq_true hlo]; rfl)
          clear hlo
          go_wp2_with fail
          refine (l8Looks_any (ndx v k).k w1).mono ?_
          rintro e w2 ⟨rfl, rfl⟩
          have hw1 : IntKind.i64.wrap (F + 1) = F + 1 := by rw [IntKind.wrap_i64]; omega
          have hw2 : IntKind.i64.wrap (F + 1 - (looksN (ndx v k).k : Int)) = F + 1 - (looksN (ndx v k).k : Int) := by rw [IntKind.wrap_i64]; omega
          generalize (looksN (ndx v k).k : Int) = L at *
          go_wp2
          go_roundw
          case rel => exact ⟨k + 1, by omega, by go_num, by rw [HS.out], HR.out, hW1⟩
          case measure => simp [intOf]; omega
        · have hls : F < (looksN (ndx v k).k : Int) := by omega
          have HF := Lib.hid (viewB_stop hlt (by rw [HO.out, HOK.out, decide_eq_false hlo]; rfl))
          clear hlo
          generalize (looksN (ndx v k).k : Int) = L at *
          go_wp2
          go_ret
          exact ⟨ret_bool HF.out.symm, hW1⟩
    · have hd : decide (k < v.length) = false := by simpa using hlt
      obtain rfl : k = v.length := by omega
      have HE := Lib.hid (viewB_end HT.out)
      by_cases h1 : freeAt v v.length = 1
      · have h1b : (freeAt v v.length == 1) = true := by simpa using h1
        obtain ⟨b, hb⟩ : ∃ b, decide ((v.length : Int) ≤ 9) = b := ⟨_, rfl⟩
        have HR := Lib.hid (show viewB v = b by rw [HE.out, decide_eq_true h1, ← hb, Bool.true_and]; exact decide_eq_decide.2 (by omega))
        clear h1
        generalize freeAt v v.length = F at *
        go_wp2
        go_ret
        exact ⟨ret_bool HR.out.symm, hW⟩
      · have h1b : (freeAt v v.length == 1) = false := by simpa using h1
        have HR := Lib.hid (show viewB v = false by rw [HE.out, decide_eq_false h1]; rfl)
        clear h1
        generalize freeAt v v.length = F at *
        go_wp2
        go_ret
        exact ⟨ret_bool HR.out.symm, hW⟩
end Go.Proofs.YtejgofhpjkebbaaDoor
