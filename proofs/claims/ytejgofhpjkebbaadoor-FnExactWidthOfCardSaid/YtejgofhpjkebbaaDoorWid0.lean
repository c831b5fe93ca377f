/- Widths: plain facts; the model's StepWidth: what it returns; nothing that lay has turned. -/
import Derived.Test.YtejgofhpjkebbaaDoorNod2
namespace Go.Proofs.YtejgofhpjkebbaaDoor
open Go.RowKit

def widthB (x : Int) : Bool := inB x 1 6
/-- How many numbers the rows of a right node have, where those of what it looks at have one and two. -/
def stepD (d : Nd) (one two : Int) : Int :=
  if d.k = 2 then (if condsB d.c one = true then one else -1)
  else if d.k = 3 then (if placesB d.z one.toNat = true then (d.z.length : Int) else -1)
  else if d.k = 4 then (if ix d.z 0 < one ∧ ix d.z 1 < two ∧ one + two ≤ 6 then one + two else -1)
  else if d.k = 5 then (if one = two then one else -1)
  else if d.k = 6 then one
  else if d.k = 7 then (if placesB d.z one.toNat = true ∧ d.p < one then (if 0 ≤ d.p then (d.z.length : Int) + 2 else (d.z.length : Int) + 1) else -1)
  else -1
def stepW (d : Nd) (one two : Int) : Int := if nodeB d = true ∧ widthB one = true ∧ (looksN d.k = 2 → widthB two = true) then stepD d one two else -1
theorem width_nat {x : Int} (h : widthB x = true) : ∃ m : Nat, x = (m : Int) ∧ 1 ≤ m ∧ m ≤ 6 := by
  unfold widthB inB at h
  rw [Bool.and_eq_true, decide_eq_true_eq, decide_eq_true_eq] at h
  exact ⟨x.toNat, by omega, by omega, by omega⟩
theorem width_of {x : Int} (h1 : 1 ≤ x) (h2 : x ≤ 6) : widthB x = true := by
  unfold widthB inB
  rw [decide_eq_true h1, decide_eq_true h2]; rfl
theorem node_len4 {d : Nd} (h : nodeB d = true) (hk : d.k = 4) : d.z.length = 2 := by
  have h2 := (nodeB_all h).2.2.2.1
  unfold placesD lenB at h2
  rw [hk] at h2
  simp at h2
  exact h2.2
theorem node_len3 {d : Nd} (h : nodeB d = true) (hk : d.k = 3) : 1 ≤ d.z.length ∧ d.z.length ≤ 6 := by
  have h2 := (nodeB_all h).2.2.2.1
  unfold placesD lenB at h2
  rw [hk] at h2
  simp [inB] at h2
  omega
theorem node_len7 {d : Nd} (h : nodeB d = true) (hk : d.k = 7) : d.z.length ≤ 3 := by
  have h2 := (nodeB_all h).2.2.2.1
  unfold placesD lenB at h2
  rw [hk] at h2
  simp at h2
  exact h2.2
theorem node_p7 {d : Nd} (h : nodeB d = true) (hk : d.k = 7) : -1 ≤ d.p ∧ d.p ≤ 5 := by
  have h2 := (nodeB_all h).2.2.2.2
  unfold placeD inB at h2
  rw [if_pos hk] at h2
  simpa using h2
theorem node_places {d : Nd} (h : nodeB d = true) : placesB d.z 6 = true := by
  have h2 := (nodeB_all h).2.2.2.1
  unfold placesD at h2
  simp only [Bool.and_eq_true] at h2
  exact h2.2.1
theorem node_kind {d : Nd} (h : nodeB d = true) : 1 ≤ d.k ∧ d.k ≤ 7 := by
  have h2 := (nodeB_all h).1
  unfold inB at h2
  simpa using h2
theorem stepD_width {d : Nd} {one two : Int} (h : nodeB d = true) (h1 : widthB one = true) (hs : ¬ stepD d one two < 0) : widthB (stepD d one two) = true := by
  obtain ⟨m, rfl, m1, m6⟩ := width_nat h1
  unfold stepD at hs ⊢
  split at hs
  · rename_i hk
    rw [if_pos hk]
    split at hs
    · rename_i hc; rw [if_pos hc]; exact h1
    · omega
  rename_i k2
  rw [if_neg k2]
  split at hs
  · rename_i hk
    rw [if_pos hk]
    have := node_len3 h hk
    split at hs
    · rename_i hc; rw [if_pos hc]; exact width_of (by omega) (by omega)
    · omega
  rename_i k3
  rw [if_neg k3]
  split at hs
  · rename_i hk
    rw [if_pos hk]
    split at hs
    · rename_i hc
      rw [if_pos hc]
      have hz := node_places h
      have hl := node_len4 h hk
      have h1 : ix d.z 1 ≥ 0 := by
        unfold placesB at hz
        rw [ix_eq d.z 1 (by omega)]
        have := List.all_eq_true.1 hz _ (List.getElem_mem (show 1 < d.z.length by omega))
        unfold inB at this
        simp at this
        exact this.1
      exact width_of (by omega) (by omega)
    · omega
  rename_i k4
  rw [if_neg k4]
  split at hs
  · rename_i hk
    rw [if_pos hk]
    split at hs
    · rename_i hc; rw [if_pos hc]; exact h1
    · omega
  rename_i k5
  rw [if_neg k5]
  split at hs
  · rename_i hk
    rw [if_pos hk]; exact h1
  rename_i k6
  rw [if_neg k6]
  split at hs
  · rename_i hk
    rw [if_pos hk]
    have := node_len7 h hk
    split at hs
    · rename_i hc
      rw [if_pos hc]
      split
      · exact width_of (by omega) (by omega)
      · exact width_of (by omega) (by omega)
    · omega
  · omega

set_option maxRecDepth 100000 in
set_option maxHeartbeats 1000000 in
theorem l9Step_2 (n : ByteArray) (c : List Cnd) (z : List Int) (p : Int) (Ac : Option Addr) (cc : Nat) (Az : Option Addr) (cz : Nat) (one two : Int) (w : World) (hC : Cnds w w.heap.size Ac c) (hf : fitD 1048576 ⟨2, n, c, z, p⟩) :
    Calls Tryd.prog 34 #[.agg #[.int .i64 2, .string n, .slice Ac c.length cc, .slice Az z.length cz, .int .i64 p], .int .i64 one, .int .i64 two] w fun e w' => e = .returned (.int .i64 (if condsB c one = true then one else -1)) ∧ Below w.heap.size w w' := by
  obtain ⟨hn, hlc, hlz⟩ : n.size ≤ 1048576 ∧ c.length ≤ 1048576 ∧ z.length ≤ 1048576 := hf
  have bc := (Below.refl w.heap.size w).alloc (Nat.le_refl _) (.cells #[.int .i64 2, .string n, .slice Ac c.length cc, .slice Az z.length cz, .int .i64 p] 50)
  have B := Blk.new w 50 #[.int .i64 2, .string n, .slice Ac c.length cc, .slice Az z.length cz, .int .i64 p]
  obtain ⟨c0, c1, c2, c3, c4⟩ := B.c5
  have hCb := hC.on bc
  clear hC
  obtain ⟨R, hR⟩ : ∃ R, (if condsB c one = true then one else -1) = R := ⟨_, rfl⟩
  have HR := Lib.hid hR
  rw [hR]
  clear hR
  go_enter Tryd.func34, Tryd.ntmps34
  go_wp2_with fail
  generalize w.alloc (.cells #[.int .i64 2, .string n, .slice Ac c.length cc, .slice Az z.length cz, .int .i64 p] 50) = wb at *
  refine (specCondsOk_any Ac cc c one wb hCb (by omega)).mono ?_
  rintro e w1 ⟨rfl, hb1⟩
  have hW1 := bel_step bc hb1
  cases hc : condsB c one with
  | false =>
    have HE := Lib.hid (show R = -1 by rw [← HR.out, hc]; rfl)
    clear hc
    go_wp2
    go_ret
    exact ⟨ret_int HE.out.symm, hW1⟩
  | true =>
    have HE := Lib.hid (show R = one by rw [← HR.out, hc]; rfl)
    clear hc
    go_wp2
    go_ret
    exact ⟨ret_int HE.out.symm, hW1⟩
set_option maxRecDepth 100000 in
set_option maxHeartbeats 1000000 in
theorem l9Step_3 (n : ByteArray) (c : List Cnd) (z : List Int) (p : Int) (Ac : Option Addr) (cc : Nat) (Az : Option Addr) (cz : Nat) (m : Nat) (two : Int) (w : World) (hm : m ≤ 6) (hZ : Ints w w.heap.size Az z) (hf : fitD 1048576 ⟨3, n, c, z, p⟩) :
    Calls Tryd.prog 34 #[.agg #[.int .i64 3, .string n, .slice Ac c.length cc, .slice Az z.length cz, .int .i64 p], .int .i64 (m : Int), .int .i64 two] w fun e w' => e = .returned (.int .i64 (if placesB z m = true then (z.length : Int) else -1)) ∧ Below w.heap.size w w' := by
  obtain ⟨hn, hlc, hlz⟩ : n.size ≤ 1048576 ∧ c.length ≤ 1048576 ∧ z.length ≤ 1048576 := hf
  have bc := (Below.refl w.heap.size w).alloc (Nat.le_refl _) (.cells #[.int .i64 3, .string n, .slice Ac c.length cc, .slice Az z.length cz, .int .i64 p] 50)
  have B := Blk.new w 50 #[.int .i64 3, .string n, .slice Ac c.length cc, .slice Az z.length cz, .int .i64 p]
  obtain ⟨c0, c1, c2, c3, c4⟩ := B.c5
  have hZb := hZ.on bc
  clear hZ
  obtain ⟨R, hR⟩ : ∃ R, (if placesB z m = true then (z.length : Int) else -1) = R := ⟨_, rfl⟩
  have HR := Lib.hid hR
  rw [hR]
  clear hR
  go_enter Tryd.func34, Tryd.ntmps34
  go_wp2_with fail
  generalize w.alloc (.cells #[.int .i64 3, .string n, .slice Ac c.length cc, .slice Az z.length cz, .int .i64 p] 50) = wb at *
  refine (l1Places_any Az cz m z wb _ hZb (by omega) (by omega)).mono ?_
  rintro e w1 ⟨rfl, rfl⟩
  cases hc : placesB z m with
  | false =>
    have HE := Lib.hid (show R = -1 by rw [← HR.out, hc]; rfl)
    clear hc
    go_wp2
    go_ret
    exact ⟨ret_int HE.out.symm, bc⟩
  | true =>
    have HE := Lib.hid (show R = (z.length : Int) by rw [← HR.out, hc]; rfl)
    clear hc
    go_wp2
    go_ret
    exact ⟨ret_int HE.out.symm, bc⟩
set_option maxRecDepth 100000 in
set_option maxHeartbeats 1000000 in
theorem l9Step_4 (n : ByteArray) (c : List Cnd) (z : List Int) (p : Int) (Ac : Option Addr) (cc : Nat) (Az : Option Addr) (cz : Nat) (m q : Nat) (w : World) (hm : m ≤ 6) (hq : q ≤ 6) (hZ : Ints w w.heap.size Az z) (hl : z.length = 2) :
    Calls Tryd.prog 34 #[.agg #[.int .i64 4, .string n, .slice Ac c.length cc, .slice Az z.length cz, .int .i64 p], .int .i64 (m : Int), .int .i64 (q : Int)] w fun e w' => e = .returned (.int .i64 (if ix z 0 < (m : Int) ∧ ix z 1 < (q : Int) ∧ (m : Int) + (q : Int) ≤ 6 then (m : Int) + (q : Int) else -1)) ∧ Below w.heap.size w w' := by
  have bc := (Below.refl w.heap.size w).alloc (Nat.le_refl _) (.cells #[.int .i64 4, .string n, .slice Ac c.length cc, .slice Az z.length cz, .int .i64 p] 50)
  have B := Blk.new w 50 #[.int .i64 4, .string n, .slice Ac c.length cc, .slice Az z.length cz, .int .i64 p]
  obtain ⟨c0, c1, c2, c3, c4⟩ := B.c5
  obtain ⟨b, off, rfl, hb, hz⟩ := (hZ.on bc) (by omega)
  have z0 := hz 0 (by omega)
  rw [Nat.add_zero] at z0
  have z1 := hz 1 (by omega)
  have hw : IntKind.i64.wrap ((m : Int) + (q : Int)) = (m : Int) + (q : Int) := by rw [IntKind.wrap_i64]; omega
  rw [hl] at bc c0 c1 c2 c3 c4 z0 z1 ⊢
  clear hZ hz B
  by_cases h0 : ix z 0 < (m : Int)
  rotate_left
  · have HR := Lib.hid (show (if ix z 0 < (m : Int) ∧ ix z 1 < (q : Int) ∧ (m : Int) + (q : Int) ≤ 6 then (m : Int) + (q : Int) else -1) = -1 from if_neg fun h => h0 h.1)
    have h0b : decide (ix z 0 < (m : Int)) = false := decide_eq_false h0
    clear h0
    generalize (if ix z 0 < (m : Int) ∧ ix z 1 < (q : Int) ∧ (m : Int) + (q : Int) ≤ 6 then (m : Int) + (q : Int) else -1) = R at *
    go_enter Tryd.func34, Tryd.ntmps34
    go_wp2
    go_ret
    exact ⟨ret_int HR.out.symm, bc⟩
  by_cases h1 : ix z 1 < (q : Int)
  rotate_left
  · have HR := Lib.hid (show (if ix z 0 < (m : Int) ∧ ix z 1 < (q : Int) ∧ (m : Int) + (q : Int) ≤ 6 then (m : Int) + (q : Int) else -1) = -1 from if_neg fun h => h1 h.2.1)
    have h1b : decide (ix z 1 < (q : Int)) = false := decide_eq_false h1
    clear h1
    generalize (if ix z 0 < (m : Int) ∧ ix z 1 < (q : Int) ∧ (m : Int) + (q : Int) ≤ 6 then (m : Int) + (q : Int) else -1) = R at *
    go_enter Tryd.func34, Tryd.ntmps34
    go_wp2
    go_ret
    exact ⟨ret_int HR.out.symm, bc⟩
  by_cases h2 : (m : Int) + (q : Int) ≤ 6
  rotate_left
  · have HR := Lib.hid (show (if ix z 0 < (m : Int) ∧ ix z 1 < (q : Int) ∧ (m : Int) + (q : Int) ≤ 6 then (m : Int) + (q : Int) else -1) = -1 from if_neg fun h => h2 h.2.2)
    have h2b : decide ((m : Int) + (q : Int) ≤ 6) = false := decide_eq_false h2
    generalize (if ix z 0 < (m : Int) ∧ ix z 1 < (q : Int) ∧ (m : Int) + (q : Int) ≤ 6 then (m : Int) + (q : Int) else -1) = R at *
    go_enter Tryd.func34, Tryd.ntmps34
    go_wp2
    go_ret
    exact ⟨ret_int HR.out.symm, bc⟩
  have HR := Lib.hid (show (if ix z 0 < (m : Int) ∧ ix z 1 < (q : Int) ∧ (m : Int) + (q : Int) ≤ 6 then (m : Int) + (q : Int) else -1) = (m : Int) + (q : Int) from if_pos ⟨h0, h1, h2⟩)
  generalize (if ix z 0 < (m : Int) ∧ ix z 1 < (q : Int) ∧ (m : Int) + (q : Int) ≤ 6 then (m : Int) + (q : Int) else -1) = R at *
  go_enter Tryd.func34, Tryd.ntmps34
  go_wp2
  go_ret
  exact ⟨ret_int HR.out.symm, bc⟩
set_option maxRecDepth 100000 in
set_option maxHeartbeats 1000000 in
theorem l9Step_5 (n : ByteArray) (c : List Cnd) (z : List Int) (p : Int) (Ac : Option Addr) (cc : Nat) (Az : Option Addr) (cz : Nat) (one two : Int) (w : World) :
    Calls Tryd.prog 34 #[.agg #[.int .i64 5, .string n, .slice Ac c.length cc, .slice Az z.length cz, .int .i64 p], .int .i64 one, .int .i64 two] w fun e w' => e = .returned (.int .i64 (if one = two then one else -1)) ∧ Below w.heap.size w w' := by
  have bc := (Below.refl w.heap.size w).alloc (Nat.le_refl _) (.cells #[.int .i64 5, .string n, .slice Ac c.length cc, .slice Az z.length cz, .int .i64 p] 50)
  obtain ⟨c0, c1, c2, c3, c4⟩ := (Blk.new w 50 #[.int .i64 5, .string n, .slice Ac c.length cc, .slice Az z.length cz, .int .i64 p]).c5
  by_cases h : one = two
  · subst h
    rw [if_pos rfl]
    go_enter Tryd.func34, Tryd.ntmps34
    go_wp2
    go_ret
    exact ⟨rfl, bc⟩
  · have hb : (one == two) = false := by simpa using h
    rw [if_neg h]
    clear h
    go_enter Tryd.func34, Tryd.ntmps34
    go_wp2
    go_ret
    exact ⟨rfl, bc⟩
set_option maxRecDepth 100000 in
set_option maxHeartbeats 1000000 in
theorem l9Step_1 (n : ByteArray) (c : List Cnd) (z : List Int) (p : Int) (Ac : Option Addr) (cc : Nat) (Az : Option Addr) (cz : Nat) (one two : Int) (w : World) :
    Calls Tryd.prog 34 #[.agg #[.int .i64 1, .string n, .slice Ac c.length cc, .slice Az z.length cz, .int .i64 p], .int .i64 one, .int .i64 two] w fun e w' => e = .returned (.int .i64 (-1)) ∧ Below w.heap.size w w' := by
  have bc := (Below.refl w.heap.size w).alloc (Nat.le_refl _) (.cells #[.int .i64 1, .string n, .slice Ac c.length cc, .slice Az z.length cz, .int .i64 p] 50)
  obtain ⟨c0, c1, c2, c3, c4⟩ := (Blk.new w 50 #[.int .i64 1, .string n, .slice Ac c.length cc, .slice Az z.length cz, .int .i64 p]).c5
  go_enter Tryd.func34, Tryd.ntmps34
  go_wp2
  go_ret
  exact ⟨rfl, bc⟩
set_option maxRecDepth 100000 in
set_option maxHeartbeats 1000000 in
theorem l9Step_6 (n : ByteArray) (c : List Cnd) (z : List Int) (p : Int) (Ac : Option Addr) (cc : Nat) (Az : Option Addr) (cz : Nat) (one two : Int) (w : World) :
    Calls Tryd.prog 34 #[.agg #[.int .i64 6, .string n, .slice Ac c.length cc, .slice Az z.length cz, .int .i64 p], .int .i64 one, .int .i64 two] w fun e w' => e = .returned (.int .i64 one) ∧ Below w.heap.size w w' := by
  have bc := (Below.refl w.heap.size w).alloc (Nat.le_refl _) (.cells #[.int .i64 6, .string n, .slice Ac c.length cc, .slice Az z.length cz, .int .i64 p] 50)
  obtain ⟨c0, c1, c2, c3, c4⟩ := (Blk.new w 50 #[.int .i64 6, .string n, .slice Ac c.length cc, .slice Az z.length cz, .int .i64 p]).c5
  go_enter Tryd.func34, Tryd.ntmps34
  go_wp2
  go_ret
  exact ⟨rfl, bc⟩
set_option maxRecDepth 100000 in
set_option maxHeartbeats 1000000 in
theorem l9Step_7 (n : ByteArray) (c : List Cnd) (z : List Int) (p : Int) (Ac : Option Addr) (cc : Nat) (Az : Option Addr) (cz : Nat) (m : Nat) (two : Int) (w : World) (hm : m ≤ 6) (hZ : Ints w w.heap.size Az z) (hf : fitD 1048576 ⟨7, n, c, z, p⟩) :
    Calls Tryd.prog 34 #[.agg #[.int .i64 7, .string n, .slice Ac c.length cc, .slice Az z.length cz, .int .i64 p], .int .i64 (m : Int), .int .i64 two] w fun e w' => e = .returned (.int .i64 (if placesB z m = true ∧ p < (m : Int) then (if 0 ≤ p then (z.length : Int) + 2 else (z.length : Int) + 1) else -1)) ∧ Below w.heap.size w w' := by
  obtain ⟨hn, hlc, hlz⟩ : n.size ≤ 1048576 ∧ c.length ≤ 1048576 ∧ z.length ≤ 1048576 := hf
  have bc := (Below.refl w.heap.size w).alloc (Nat.le_refl _) (.cells #[.int .i64 7, .string n, .slice Ac c.length cc, .slice Az z.length cz, .int .i64 p] 50)
  have B := Blk.new w 50 #[.int .i64 7, .string n, .slice Ac c.length cc, .slice Az z.length cz, .int .i64 p]
  obtain ⟨c0, c1, c2, c3, c4⟩ := B.c5
  have hZb := hZ.on bc
  have hw1 : IntKind.i64.wrap ((z.length : Int) + 1) = (z.length : Int) + 1 := by rw [IntKind.wrap_i64]; omega
  have hw2 : IntKind.i64.wrap ((z.length : Int) + 1 + 1) = (z.length : Int) + 2 := by rw [IntKind.wrap_i64]; omega
  obtain ⟨R, hR⟩ : ∃ R, (if placesB z m = true ∧ p < (m : Int) then (if 0 ≤ p then (z.length : Int) + 2 else (z.length : Int) + 1) else -1) = R := ⟨_, rfl⟩
  have HR := Lib.hid hR
  rw [hR]
  clear hZ hR
  go_enter Tryd.func34, Tryd.ntmps34
  go_wp2_with fail
  generalize w.alloc (.cells #[.int .i64 7, .string n, .slice Ac c.length cc, .slice Az z.length cz, .int .i64 p] 50) = wb at *
  refine (l1Places_any Az cz m z wb _ hZb (by omega) (by omega)).mono ?_
  rintro e w1 ⟨rfl, rfl⟩
  cases hc : placesB z m with
  | false =>
    have HE := Lib.hid (show R = -1 by rw [← HR.out, hc]; exact if_neg fun h => by cases h.1)
    clear hc
    go_wp2
    go_ret
    exact ⟨ret_int HE.out.symm, bc⟩
  | true =>
    by_cases h1 : p < (m : Int)
    · by_cases h2 : 0 ≤ p
      · have HE := Lib.hid (show R = (z.length : Int) + 2 by rw [← HR.out, hc, if_pos ⟨rfl, h1⟩, if_pos h2])
        clear hc
        go_wp2
        go_ret
        exact ⟨ret_int HE.out.symm, bc⟩
      · have HE := Lib.hid (show R = (z.length : Int) + 1 by rw [← HR.out, hc, if_pos ⟨rfl, h1⟩, if_neg h2])
        have h2b : decide (0 ≤ p) = false := decide_eq_false h2
        clear hc
        go_wp2
        go_ret
        exact ⟨ret_int HE.out.symm, bc⟩
    · have HE := Lib.hid (show R = -1 by rw [← HR.out]; exact if_neg fun h => h1 h.2)
      have h1b : decide (p < (m : Int)) = false := decide_eq_false h1
      clear hc
      go_wp2
      go_ret
      exact ⟨ret_int HE.out.symm, bc⟩
theorem l9Step_any (d : Nd) (Ac : Option Addr) (cc : Nat) (Az : Option Addr) (cz : Nat) (one two : Int) (w : World) (hC : Cnds w w.heap.size Ac d.c) (hZ : Ints w w.heap.size Az d.z) (hf : fitD 1048576 d) (hok : nodeB d = true) (h1 : widthB one = true) (h2 : looksN d.k = 2 → widthB two = true) :
    Calls Tryd.prog 34 #[.agg #[.int .i64 d.k, .string d.n, .slice Ac d.c.length cc, .slice Az d.z.length cz, .int .i64 d.p], .int .i64 one, .int .i64 two] w fun e w' => e = .returned (.int .i64 (stepD d one two)) ∧ Below w.heap.size w w' := by
  have hk := node_kind hok
  have hl4 := node_len4 hok
  obtain ⟨k, n, c, z, p⟩ := d
  simp only at hk hC hZ hl4 h2 ⊢
  obtain ⟨m, rfl, m1, m6⟩ := width_nat h1
  have h7 : k = 1 ∨ k = 2 ∨ k = 3 ∨ k = 4 ∨ k = 5 ∨ k = 6 ∨ k = 7 := by omega
  rcases h7 with rfl | rfl | rfl | rfl | rfl | rfl | rfl
  · exact l9Step_1 n c z p Ac cc Az cz _ two w
  · exact l9Step_2 n c z p Ac cc Az cz _ two w hC hf
  · exact l9Step_3 n c z p Ac cc Az cz m two w m6 hZ hf
  · obtain ⟨q, rfl, q1, q6⟩ := width_nat (h2 rfl)
    exact l9Step_4 n c z p Ac cc Az cz m q w m6 q6 hZ (hl4 rfl)
  · exact l9Step_5 n c z p Ac cc Az cz _ two w
  · exact l9Step_6 n c z p Ac cc Az cz _ two w
  · exact l9Step_7 n c z p Ac cc Az cz m two w m6 hZ hf
theorem stepW_no {d : Nd} {one two : Int} (h : ¬ (nodeB d = true ∧ widthB one = true ∧ (looksN d.k = 2 → widthB two = true))) : stepW d one two = -1 := if_neg h
theorem stepW_is {d : Nd} {one two : Int} (h0 : nodeB d = true) (h1 : widthB one = true) (h2 : looksN d.k = 2 → widthB two = true) : stepW d one two = stepD d one two := if_pos ⟨h0, h1, h2⟩
theorem stepW_table {d : Nd} {one two : Int} (hk : d.k = 1) : stepW d one two = -1 := by
  unfold stepW
  split
  · unfold stepD
    rw [hk]; rfl
  · rfl
end Go.Proofs.YtejgofhpjkebbaaDoor
