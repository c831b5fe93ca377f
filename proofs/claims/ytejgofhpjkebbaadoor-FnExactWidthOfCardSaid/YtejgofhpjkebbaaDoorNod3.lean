/- The program's NodeOk and ViewOk, its table of the nodes' forms where it lies; nothing that lay has turned. The variable lies as the text lays it. -/
import Derived.Test.YtejgofhpjkebbaaDoorNodL
import Derived.Test.YtejgofhpjkebbaaDoorCndW
namespace Go.Proofs.YtejgofhpjkebbaaDoor
open Go.RowKit

def wordN : List ByteArray := [⟨#[]⟩, ⟨#[116, 97, 98, 108, 101]⟩, ⟨#[119, 104, 101, 114, 101]⟩, ⟨#[107, 101, 101, 112]⟩, ⟨#[106, 111, 105, 110]⟩, ⟨#[98, 111, 116, 104]⟩, ⟨#[111, 110, 99, 101]⟩, ⟨#[103, 114, 111, 117, 112]⟩]
def wnx (k : Nat) : ByteArray := wordN[k]?.getD ⟨#[]⟩
def looksF (k : Nat) : Nat := if k ≤ 1 then 0 else if k = 4 ∨ k = 5 then 2 else 1
def leastF (k : Nat) : Nat := if k = 3 then 1 else if k = 4 then 2 else 0
def mostF (k : Nat) : Nat := if k = 3 then 6 else if k = 4 then 2 else if k = 7 then 3 else 0
/-- The program's own variable holds the nodes' forms. -/
def FormsAt (w : World) : Prop := ∀ k, k < 8 → w.cell? ⟨0, k * 4, none⟩ = some (.string (wnx k)) ∧ w.cell? ⟨0, k * 4 + 1, none⟩ = some (.int .i64 (looksF k)) ∧ w.cell? ⟨0, k * 4 + 2, none⟩ = some (.int .i64 (leastF k)) ∧ w.cell? ⟨0, k * 4 + 3, none⟩ = some (.int .i64 (mostF k))
theorem FormsAt.on {w w' : World} (h : FormsAt w) (hb : Below w.heap.size w w') : FormsAt w' := fun k hk => by
  obtain ⟨h0, h1, h2, h3⟩ := h k hk
  exact ⟨(hb.cell (cell_lt h0)).trans h0, (hb.cell (cell_lt h1)).trans h1, (hb.cell (cell_lt h2)).trans h2, (hb.cell (cell_lt h3)).trans h3⟩
theorem FormsAt.drewN {w : World} (h : FormsAt w) (n : Nat) : FormsAt (w.drewN n) := h
theorem looksF_eq {k : Nat} (h : 1 ≤ k) : (looksF k : Nat) = looksN (k : Int) := by
  unfold looksF looksN
  by_cases h1 : k = 1
  · subst h1; rfl
  · rw [if_neg (by omega), if_neg (show ¬ (k : Int) = 1 by omega)]
    by_cases h4 : k = 4 ∨ k = 5
    · rw [if_pos h4, if_pos (by omega)]
    · rw [if_neg h4, if_neg (by omega)]
theorem looksF_le (k : Nat) : looksF k ≤ 2 := by
  unfold looksF
  split
  · omega
  · split <;> omega
theorem kind_nat {k : Int} (h : inB k 1 7 = true) : ∃ q : Nat, k = (q : Int) ∧ 1 ≤ q ∧ q ≤ 7 := by
  unfold inB at h
  rw [Bool.and_eq_true, decide_eq_true_eq, decide_eq_true_eq] at h
  exact ⟨k.toNat, by omega, by omega, by omega⟩
theorem placesD_eq {d : Nd} {q : Nat} (hq : d.k = (q : Int)) (h1 : 1 ≤ q) (h7 : q ≤ 7) : placesD d = (decide (leastF q ≤ d.z.length) && (decide (d.z.length ≤ mostF q) && placesB d.z 6)) := by
  obtain ⟨k, n, c, z, p⟩ := d
  simp only at hq
  subst hq
  unfold placesD
  simp only
  have hz : z.length = 0 → placesB z 6 = true := fun h => by rw [List.length_eq_zero_iff.1 h]; rfl
  have h : q = 1 ∨ q = 2 ∨ q = 3 ∨ q = 4 ∨ q = 5 ∨ q = 6 ∨ q = 7 := by omega
  have hgen : ∀ m : Nat, ¬ ((m : Int) = 3 ∨ (m : Int) = 4 ∨ (m : Int) = 7) → leastF m = 0 → mostF m = 0 → lenB (m : Int) z.length = decide (z.length ≤ 3) → ((decide ((m : Int) = 3 ∨ (m : Int) = 4 ∨ (m : Int) = 7) || decide (z.length = 0)) && (placesB z 6 && lenB (m : Int) z.length)) = (decide (leastF m ≤ z.length) && (decide (z.length ≤ mostF m) && placesB z 6)) := by
    intro m e1 e2 e3 e4
    rw [decide_eq_false e1, e2, e3, e4, Bool.false_or]
    by_cases h0 : z.length = 0
    · rw [decide_eq_true h0, hz h0, decide_eq_true (by omega), decide_eq_true (by omega), decide_eq_true (by omega)]
    · rw [decide_eq_false h0, decide_eq_false (p := z.length ≤ 0) (by omega)]; simp
  rcases h with rfl | rfl | rfl | rfl | rfl | rfl | rfl
  · exact hgen 1 (by decide) rfl rfl rfl
  · exact hgen 2 (by decide) rfl rfl rfl
  · show ((true || _) && (placesB z 6 && (decide ((1 : Int) ≤ (z.length : Int)) && decide ((z.length : Int) ≤ 6)))) = (decide (1 ≤ z.length) && (decide (z.length ≤ 6) && placesB z 6))
    rw [Bool.true_or, Bool.true_and, Bool.eq_iff_iff]
    simp only [Bool.and_eq_true, decide_eq_true_eq]
    constructor <;> rintro ⟨h1, h2, h3⟩ <;> refine ⟨?_, ?_, ?_⟩ <;> first | assumption | omega
  · show ((true || _) && (placesB z 6 && decide (z.length = 2))) = (decide (2 ≤ z.length) && (decide (z.length ≤ 2) && placesB z 6))
    rw [Bool.true_or, Bool.true_and, Bool.eq_iff_iff]
    simp only [Bool.and_eq_true, decide_eq_true_eq]
    constructor
    · rintro ⟨h1, h2⟩; exact ⟨by omega, by omega, h1⟩
    · rintro ⟨h1, h2, h3⟩; exact ⟨h3, by omega⟩
  · exact hgen 5 (by decide) rfl rfl rfl
  · exact hgen 6 (by decide) rfl rfl rfl
  · show ((true || _) && (placesB z 6 && decide (z.length ≤ 3))) = (decide (0 ≤ z.length) && (decide (z.length ≤ 3) && placesB z 6))
    rw [decide_eq_true (Nat.zero_le _), Bool.true_or, Bool.true_and, Bool.true_and, Bool.and_comm]

def nodeV (d : Nd) (Ac : Option Addr) (cc : Nat) (Az : Option Addr) (cz : Nat) : Array Value := #[.int .i64 d.k, .string d.n, .slice Ac d.c.length cc, .slice Az d.z.length cz, .int .i64 d.p]
theorem size_toList {n : ByteArray} : n.toList.isEmpty = decide (n.size = 0) := by
  rw [ByteArray.toList_eq, Bool.eq_iff_iff, List.isEmpty_iff, decide_eq_true_eq, ← List.length_eq_zero_iff, Array.length_toList]; rfl

set_option maxRecDepth 100000 in
set_option maxHeartbeats 1000000 in
theorem nodeNameOk_any (d : Nd) (Ac : Option Addr) (cc : Nat) (Az : Option Addr) (cz : Nat) (w : World) (hf : fitD 1048576 d) :
    Calls Tryd.prog 56 #[.agg #[.int .i64 d.k, .string d.n, .slice Ac d.c.length cc, .slice Az d.z.length cz, .int .i64 d.p]] w fun e w' => e = .returned (.bool (nameD d)) ∧ Below w.heap.size w w' := by
  have hn := hf.1
  have bc := (Below.refl w.heap.size w).alloc (Nat.le_refl _) (.cells #[.int .i64 d.k, .string d.n, .slice Ac d.c.length cc, .slice Az d.z.length cz, .int .i64 d.p] 50)
  obtain ⟨c0, c1, c2, c3, c4⟩ := (Blk.new w 50 #[.int .i64 d.k, .string d.n, .slice Ac d.c.length cc, .slice Az d.z.length cz, .int .i64 d.p]).c5
  by_cases hk : d.k = 1
  · have hkb : (d.k == 1) = true := by simpa using hk
    have HD := Lib.hid (show nameD d = nameB d.n by unfold nameD; rw [if_pos hk])
    clear hk
    go_enter Tryd.func56, Tryd.ntmps56
    go_wp2_with fail
    generalize w.alloc (.cells #[.int .i64 d.k, .string d.n, .slice Ac d.c.length cc, .slice Az d.z.length cz, .int .i64 d.p] 50) = wb at *
    refine (nameOk_any d.n wb (by omega)).mono ?_
    rintro e w1 ⟨rfl, rfl⟩
    rw [← HD.out]
    go_wp2
    go_ret
    exact ⟨rfl, bc⟩
  · have hkb : (d.k == 1) = false := by simpa using hk
    have HD := Lib.hid (show nameD d = d.n.toList.isEmpty by rw [size_toList]; unfold nameD; rw [if_neg hk])
    clear hk
    obtain ⟨b, hb⟩ : ∃ b, d.n.toList.isEmpty = b := ⟨_, rfl⟩
    go_enter Tryd.func56, Tryd.ntmps56
    go_wp2
    go_ret
    exact ⟨ret_bool (by rw [HD.out, hb]), bc⟩
set_option maxRecDepth 100000 in
set_option maxHeartbeats 1000000 in
theorem nodeCondsOk_any (d : Nd) (Ac : Option Addr) (cc : Nat) (Az : Option Addr) (cz : Nat) (w : World) (hC : Cnds w w.heap.size Ac d.c) (hf : fitD 1048576 d) :
    Calls Tryd.prog 57 #[.agg #[.int .i64 d.k, .string d.n, .slice Ac d.c.length cc, .slice Az d.z.length cz, .int .i64 d.p]] w fun e w' => e = .returned (.bool (condsD d)) ∧ Below w.heap.size w w' := by
  have hl := hf.2.1
  have bc := (Below.refl w.heap.size w).alloc (Nat.le_refl _) (.cells #[.int .i64 d.k, .string d.n, .slice Ac d.c.length cc, .slice Az d.z.length cz, .int .i64 d.p] 50)
  obtain ⟨c0, c1, c2, c3, c4⟩ := (Blk.new w 50 #[.int .i64 d.k, .string d.n, .slice Ac d.c.length cc, .slice Az d.z.length cz, .int .i64 d.p]).c5
  have hCb := hC.on bc
  by_cases hk : d.k = 2
  · have hkb : (d.k == 2) = true := by simpa using hk
    have HD := Lib.hid (show condsD d = rightB d.c by unfold condsD; rw [if_pos hk])
    clear hk hC
    go_enter Tryd.func57, Tryd.ntmps57
    go_wp2_with fail
    generalize w.alloc (.cells #[.int .i64 d.k, .string d.n, .slice Ac d.c.length cc, .slice Az d.z.length cz, .int .i64 d.p] 50) = wb at *
    refine (condsRight_any Ac cc d.c wb hCb (by omega)).mono ?_
    rintro e w1 ⟨rfl, hb1⟩
    rw [← HD.out]
    have hW := bel_step bc hb1
    go_wp2
    go_ret
    exact ⟨rfl, hW⟩
  · have hkb : (d.k == 2) = false := by simpa using hk
    obtain ⟨b, hb⟩ : ∃ b, ((d.c.length : Int) == 0) = b := ⟨_, rfl⟩
    have HD := Lib.hid (show condsD d = b by
      rw [← hb]; unfold condsD; rw [if_neg hk, Bool.eq_iff_iff, decide_eq_true_eq, beq_iff_eq]; omega)
    clear hk
    go_enter Tryd.func57, Tryd.ntmps57
    go_wp2
    go_ret
    exact ⟨ret_bool (by rw [HD.out]), bc⟩
set_option maxRecDepth 100000 in
set_option maxHeartbeats 1000000 in
theorem nodeSumOk_any (d : Nd) (Ac : Option Addr) (cc : Nat) (Az : Option Addr) (cz : Nat) (w : World) :
    Calls Tryd.prog 59 #[.agg #[.int .i64 d.k, .string d.n, .slice Ac d.c.length cc, .slice Az d.z.length cz, .int .i64 d.p]] w fun e w' => e = .returned (.bool (placeD d)) ∧ Below w.heap.size w w' := by
  have bc := (Below.refl w.heap.size w).alloc (Nat.le_refl _) (.cells #[.int .i64 d.k, .string d.n, .slice Ac d.c.length cc, .slice Az d.z.length cz, .int .i64 d.p] 50)
  obtain ⟨c0, c1, c2, c3, c4⟩ := (Blk.new w 50 #[.int .i64 d.k, .string d.n, .slice Ac d.c.length cc, .slice Az d.z.length cz, .int .i64 d.p]).c5
  by_cases hp : d.p = -1
  · have hpb : (d.p == -1) = true := by simpa using hp
    have HD := Lib.hid (show placeD d = true by
      unfold placeD
      split
      · rw [hp]; rfl
      · exact decide_eq_true hp)
    clear hp
    go_enter Tryd.func59, Tryd.ntmps59
    go_wp2
    go_ret
    exact ⟨ret_bool HD.out.symm, bc⟩
  · have hpb : (d.p == -1) = false := by simpa using hp
    by_cases hk : d.k = 7
    · have hkb : (d.k == 7) = true := by simpa using hk
      have HD := Lib.hid (show placeD d = inB d.p 0 5 by
        unfold placeD inB
        rw [if_pos hk]
        congr 1
        exact decide_eq_decide.2 (by omega))
      clear hk hp
      go_enter Tryd.func59, Tryd.ntmps59
      go_wp2_with fail
      generalize w.alloc (.cells #[.int .i64 d.k, .string d.n, .slice Ac d.c.length cc, .slice Az d.z.length cz, .int .i64 d.p] 50) = wb at *
      refine (placeOk_any d.p wb).mono ?_
      rintro e w1 ⟨rfl, rfl⟩
      rw [← HD.out]
      go_wp2
      go_ret
      exact ⟨rfl, bc⟩
    · have hkb : (d.k == 7) = false := by simpa using hk
      have HD := Lib.hid (show placeD d = false by unfold placeD; rw [if_neg hk]; exact decide_eq_false hp)
      clear hk hp
      go_enter Tryd.func59, Tryd.ntmps59
      go_wp2
      go_ret
      exact ⟨ret_bool HD.out.symm, bc⟩
theorem places_stop {ps : List Int} {k : Nat} (h : k < ps.length) (h0 : inB (ix ps k) 0 5 = false) : placesB ps 6 = false := all_stop (fun p => inB p 0 (((6 : Nat) : Int) - 1)) ps k h h0
set_option maxRecDepth 100000 in
set_option maxHeartbeats 2000000 in
theorem nodePlacesOk_any (d : Nd) (Ac : Option Addr) (cc : Nat) (Az : Option Addr) (cz : Nat) (w : World) (hZ : Ints w w.heap.size Az d.z) (hf : fitD 1048576 d) (hk : inB d.k 1 7 = true) (hF : FormsAt w) :
    Calls Tryd.prog 58 #[.agg #[.int .i64 d.k, .string d.n, .slice Ac d.c.length cc, .slice Az d.z.length cz, .int .i64 d.p]] w fun e w' => e = .returned (.bool (placesD d)) ∧ Below w.heap.size w w' := by
  have hlz := hf.2.2
  obtain ⟨q, hq, q1, q7⟩ := kind_nat hk
  have HPD := Lib.hid (placesD_eq hq q1 q7)
  generalize placesD d = R at *
  have bc := (Below.refl w.heap.size w).alloc (Nat.le_refl _) (.cells #[.int .i64 d.k, .string d.n, .slice Ac d.c.length cc, .slice Az d.z.length cz, .int .i64 d.p] 50)
  have B := Blk.new w 50 #[.int .i64 d.k, .string d.n, .slice Ac d.c.length cc, .slice Az d.z.length cz, .int .i64 d.p]
  have hFb := hF.on bc
  have hZb := hZ.on bc
  rw [hq] at bc B hFb hZb ⊢
  clear hf hk hq hF hZ
  have hlt : w.heap.size < (w.alloc (.cells #[.int .i64 (q : Int), .string d.n, .slice Ac d.c.length cc, .slice Az d.z.length cz, .int .i64 d.p] 50)).heap.size := B.lt
  obtain ⟨c0, c1, c2, c3, c4⟩ := B.c5
  obtain ⟨f0, f1, f2, f3⟩ := hFb q (by omega)
  have q8 : (q : Int) < 8 := by omega
  have bc2 := bc.alloc bc.size (.cells #[.string (wnx q), .int .i64 (looksF q), .int .i64 (leastF q), .int .i64 (mostF q)] 70)
  have hZ2 := hZb.on ((Below.refl _ _).alloc (Nat.le_refl _) (.cells #[.string (wnx q), .int .i64 (looksF q), .int .i64 (leastF q), .int .i64 (mostF q)] 70))
  clear B hFb hZb
  by_cases h1 : leastF q ≤ d.z.length
  · have d1 : decide (d.z.length < leastF q) = false := decide_eq_false (by omega)
    have H1 := Lib.hid h1
    clear h1
    by_cases h2 : d.z.length ≤ mostF q
    · have d2 : decide (mostF q < d.z.length) = false := decide_eq_false (by omega)
      have HR := Lib.hid (show R = placesB d.z 6 by rw [HPD.out, decide_eq_true H1.out, decide_eq_true h2]; rfl)
      clear h2 HPD
      go_enter Tryd.func58, Tryd.ntmps58
      go_wp2_with fail
      generalize (w.alloc (.cells #[.int .i64 (q : Int), .string d.n, .slice Ac d.c.length cc, .slice Az d.z.length cz, .int .i64 d.p] 50)).alloc (.cells #[.string (wnx q), .int .i64 (looksF q), .int .i64 (leastF q), .int .i64 (mostF q)] 70) = wb at *
      clear c0 c1 c2 c3 c4 f0 f1 f2 f3 bc hlt
      go_loop [27] (fun i => ∃ k : Nat, k ≤ d.z.length ∧ i = .int .i64 k ∧ (d.z.take k).all (fun x => inB x 0 5) = true) (fun i => d.z.length - (intOf i).toNat)
      case atStart => exact ⟨0, Nat.zero_le _, rfl, by simp⟩
      case round =>
        obtain ⟨k, hk, rfl, ht⟩ := hrel
        have HT := Lib.hid ht
        clear ht
        by_cases hlt : k < d.z.length
        · obtain ⟨b, off, rfl, hb, hc⟩ := hZ2 (by omega)
          have hck := hc k hlt
          clear hc
          go_wp2_with fail
          refine (placeOk_any (ix d.z k) wb).mono ?_
          rintro e w1 ⟨rfl, rfl⟩
          cases hi : inB (ix d.z k) 0 5 with
          | false =>
            have HF := Lib.hid (show R = false by rw [HR.out]; exact places_stop hlt hi)
            clear hi
            go_wp2
            go_ret
            exact ⟨ret_bool HF.out.symm, bc2⟩
          | true =>
            have HS := Lib.hid (show (d.z.take (k + 1)).all (fun x => inB x 0 5) = true by rw [all_take_succ _ _ _ hlt, HT.out, hi]; rfl)
            clear hi
            go_wp2
            go_round
            case rel => exact ⟨k + 1, by omega, by go_num, HS.out⟩
            case measure => simp [intOf]; omega
        · have hd : decide (k < d.z.length) = false := by simpa using hlt
          have HF := Lib.hid (show R = true by
            rw [HR.out]
            have := HT.out
            rw [List.take_of_length_le (by omega)] at this
            exact this)
          go_wp2
          go_ret
          exact ⟨ret_bool HF.out.symm, bc2⟩
    · have d2 : mostF q < d.z.length := by omega
      have HR := Lib.hid (show R = false by rw [HPD.out, decide_eq_true H1.out, decide_eq_false h2]; rfl)
      clear h2 HPD
      go_enter Tryd.func58, Tryd.ntmps58
      go_wp2
      go_ret
      exact ⟨ret_bool HR.out.symm, bc2⟩
  · have d1 : d.z.length < leastF q := by omega
    have HR := Lib.hid (show R = false by rw [HPD.out, decide_eq_false h1]; rfl)
    clear h1 HPD
    go_enter Tryd.func58, Tryd.ntmps58
    go_wp2
    go_ret
    exact ⟨ret_bool HR.out.symm, bc2⟩
set_option maxRecDepth 100000 in
set_option maxHeartbeats 2000000 in
theorem implNodeOk_any (d : Nd) (Ac : Option Addr) (cc : Nat) (Az : Option Addr) (cz : Nat) (w : World) (hC : Cnds w w.heap.size Ac d.c) (hZ : Ints w w.heap.size Az d.z) (hf : fitD 1048576 d) (hF : FormsAt w) :
    Calls Tryd.prog 39 #[.agg #[.int .i64 d.k, .string d.n, .slice Ac d.c.length cc, .slice Az d.z.length cz, .int .i64 d.p]] w fun e w' => e = .returned (.bool (nodeB d)) ∧ Below w.heap.size w w' := by
  obtain ⟨R, hR⟩ : ∃ R, nodeB d = R := ⟨_, rfl⟩
  have HQ := Lib.hid hR
  rw [hR]
  clear hR
  have bc := (Below.refl w.heap.size w).alloc (Nat.le_refl _) (.cells #[.int .i64 d.k, .string d.n, .slice Ac d.c.length cc, .slice Az d.z.length cz, .int .i64 d.p] 50)
  have B := Blk.new w 50 #[.int .i64 d.k, .string d.n, .slice Ac d.c.length cc, .slice Az d.z.length cz, .int .i64 d.p]
  obtain ⟨c0, c1, c2, c3, c4⟩ := B.c5
  have hCb := hC.on bc
  have hZb := hZ.on bc
  have hFb := hF.on bc
  clear hC hZ hF
  by_cases h1 : d.k < 1
  · have HF := Lib.hid (show R = false by rw [← HQ.out]; exact nodeB_k (by unfold inB; rw [decide_eq_false (by omega)]; rfl))
    go_enter Tryd.func39, Tryd.ntmps39
    go_wp2
    go_ret
    exact ⟨ret_bool HF.out.symm, bc⟩
  by_cases h7 : 7 < d.k
  · have HF := Lib.hid (show R = false by rw [← HQ.out]; exact nodeB_k (by unfold inB; rw [decide_eq_false (p := d.k ≤ 7) (by omega), Bool.and_false]))
    have d1 : decide (d.k < 1) = false := decide_eq_false h1
    go_enter Tryd.func39, Tryd.ntmps39
    go_wp2
    go_ret
    exact ⟨ret_bool HF.out.symm, bc⟩
  have d1 : decide (d.k < 1) = false := decide_eq_false h1
  have d7 : decide (7 < d.k) = false := decide_eq_false h7
  have HK := Lib.hid (show inB d.k 1 7 = true by unfold inB; rw [decide_eq_true (by omega), decide_eq_true (by omega)]; rfl)
  clear h1 h7
  go_enter Tryd.func39, Tryd.ntmps39
  go_wp2_with fail
  generalize w.alloc (.cells #[.int .i64 d.k, .string d.n, .slice Ac d.c.length cc, .slice Az d.z.length cz, .int .i64 d.p] 50) = wb at *
  refine (nodeNameOk_any d Ac cc Az cz wb hf).mono ?_
  rintro e w1 ⟨rfl, hb⟩
  have hW1 := bel_step bc hb
  replace B := B.on hb
  replace hCb := hCb.on hb
  replace hZb := hZb.on hb
  replace hFb := hFb.on hb
  clear hb bc c0 c1 c2 c3 c4
  obtain ⟨c0, c1, c2, c3, c4⟩ := B.c5
  cases hn : nameD d with
  | false =>
    have HF := Lib.hid (show R = false by rw [← HQ.out]; exact nodeB_n hn)
    clear hn
    go_wp2
    go_ret
    exact ⟨ret_bool HF.out.symm, hW1⟩
  | true =>
    have HN := Lib.hid hn
    clear hn
    go_wp2_with fail
    refine (nodeCondsOk_any d Ac cc Az cz w1 hCb hf).mono ?_
    rintro e w2 ⟨rfl, hb⟩
    have hW2 := bel_step hW1 hb
    replace B := B.on hb
    replace hZb := hZb.on hb
    replace hFb := hFb.on hb
    clear hb hW1 hCb c0 c1 c2 c3 c4
    obtain ⟨c0, c1, c2, c3, c4⟩ := B.c5
    cases hc : condsD d with
    | false =>
      have HF := Lib.hid (show R = false by rw [← HQ.out]; exact nodeB_c hc)
      clear hc
      go_wp2
      go_ret
      exact ⟨ret_bool HF.out.symm, hW2⟩
    | true =>
      have HC := Lib.hid hc
      clear hc
      go_wp2_with fail
      refine (nodePlacesOk_any d Ac cc Az cz w2 hZb hf HK.out hFb).mono ?_
      rintro e w3 ⟨rfl, hb⟩
      have hW3 := bel_step hW2 hb
      replace B := B.on hb
      clear hb hW2 hZb hFb c0 c1 c2 c3 c4
      obtain ⟨c0, c1, c2, c3, c4⟩ := B.c5
      cases hp : placesD d with
      | false =>
        have HF := Lib.hid (show R = false by rw [← HQ.out]; exact nodeB_z hp)
        clear hp
        go_wp2
        go_ret
        exact ⟨ret_bool HF.out.symm, hW3⟩
      | true =>
        have HE := Lib.hid (show R = placeD d by rw [← HQ.out]; exact nodeB_is HK.out HN.out HC.out hp)
        clear hp
        go_wp2_with fail
        refine (nodeSumOk_any d Ac cc Az cz w3).mono ?_
        rintro e w4 ⟨rfl, hb⟩
        have hW4 := bel_step hW3 hb
        rw [← HE.out]
        go_wp2
        go_ret
        exact ⟨rfl, hW4⟩
set_option maxRecDepth 100000 in
set_option maxHeartbeats 4000000 in
theorem implViewOk_any (A : Option Addr) (c : Nat) (v : List Nd) (w : World) (hT : Nds w w.heap.size A v) (hf : fitN 1048576 v) (hF : FormsAt w) :
    Calls Tryd.prog 20 #[.slice A v.length c] w fun e w' => e = .returned (.bool (viewB v)) ∧ Below w.heap.size w w' := by
  have HFT := Lib.hid hf
  have HFB := Lib.hid (freeAt_bound v)
  clear hf
  by_cases h9 : 9 < v.length
  · have HF := Lib.hid (show viewB v = false by unfold viewB; rw [decide_eq_false (p := v.length ≤ 9) (by omega)]; simp)
    have h9i : (9 : Int) < (v.length : Int) := by omega
    go_enter Tryd.func20, Tryd.ntmps20
    go_wp2
    go_ret
    exact ⟨ret_bool HF.out.symm, Below.refl _ _⟩
  have d9 : decide ((9 : Int) < (v.length : Int)) = false := decide_eq_false (by omega)
  have hl9 : v.length ≤ 9 := by omega
  clear h9
  go_enter Tryd.func20, Tryd.ntmps20
  go_wp2
  go_loopw [3, 11] (fun f i wr => ∃ k : Nat, k ≤ v.length ∧ i = .int .i64 k ∧ f = .int .i64 (freeAt v k) ∧ (List.range k).all (okNd v) = true ∧ Below w.heap.size w wr) (fun _ i _ => v.length - (intOf i).toNat)
  case atStart => exact ⟨0, Nat.zero_le _, rfl, rfl, rfl, Below.refl _ _⟩
  case round =>
    obtain ⟨k, hk, rfl, rfl, ht, hW⟩ := hrel
    have HT := Lib.hid ht
    have hTr := hT.on hW
    have hFr := hF.on hW
    have hfb := HFB.out k hk
    clear ht hT hF d9
    by_cases hlt : k < v.length
    · obtain ⟨b, off, Ac, cc, Az, cz, rfl, hb, c0, c1, c2, c3, c4, hC, hZ⟩ := hTr.here hlt
      have HO := Lib.hid (show okNd v k = (nodeB (ndx v k) && decide ((looksN (ndx v k).k : Int) ≤ freeAt v k)) from rfl)
      have HS := Lib.hid (freeAt_succ hlt)
      obtain ⟨F, hF⟩ : ∃ F, freeAt v k = F := ⟨_, rfl⟩
      rw [hF] at hfb HO HS ⊢
      have bc := (Below.refl wr.heap.size wr).alloc (Nat.le_refl _) (.cells #[.int .i64 (ndx v k).k, .string (ndx v k).n, .slice Ac (ndx v k).c.length cc, .slice Az (ndx v k).z.length cz, .int .i64 (ndx v k).p] 50)
      have B := Blk.new wr 50 #[.int .i64 (ndx v k).k, .string (ndx v k).n, .slice Ac (ndx v k).c.length cc, .slice Az (ndx v k).z.length cz, .int .i64 (ndx v k).p]
      have hCb := hC.on bc
      have hZb := hZ.on bc
      have hFb := hFr.on bc
      have hWb := bel_step hW bc
      clear hF hTr hC hZ hFr bc hW
      go_wp2_with fail
      generalize wr.alloc (.cells #[.int .i64 (ndx v k).k, .string (ndx v k).n, .slice Ac (ndx v k).c.length cc, .slice Az (ndx v k).z.length cz, .int .i64 (ndx v k).p] 50) = wb at *
      refine (implNodeOk_any (ndx v k) Ac cc Az cz wb hCb hZb (HFT.out k hlt) hFb).mono ?_
      rintro e w1 ⟨rfl, hb1⟩
      have hW1 := bel_step hWb hb1
      replace B := B.on hb1
      replace hFb := hFb.on hb1
      obtain ⟨b0, b1, b2, b3, b4⟩ := B.c5
      clear c0 c1 c2 c3 c4 hCb hZb hWb hb1 B
      cases hok : nodeB (ndx v k) with
      | false =>
        have HF := Lib.hid (viewB_stop hlt (by rw [HO.out, hok]; rfl))
        clear hok
        go_wp2
        go_ret
        exact ⟨ret_bool HF.out.symm, hW1⟩
      | true =>
        obtain ⟨q, hq, q1, q7⟩ := kind_nat (nodeB_all hok).1
        have HOK := Lib.hid hok
        rw [hq] at HO HS b0
        rw [← looksF_eq q1] at HO HS
        obtain ⟨f0, f1, f2, f3⟩ := hFb q (by omega)
        have q8 : (q : Int) < 8 := by omega
        have hl2 := looksF_le q
        clear hok hq hFb
        by_cases hlo : ((looksF q : Nat) : Int) ≤ F
        · have hls : decide (F < ((looksF q : Nat) : Int)) = false := by simp; omega
          have HR := Lib.hid (show (List.range (k + 1)).all (okNd v) = true by rw [okNd_succ, HT.out, HO.out, HOK.out, decide_eq_true hlo]; rfl)
          have hw1 : IntKind.i64.wrap (1 - ((looksF q : Nat) : Int)) = 1 - ((looksF q : Nat) : Int) := by rw [IntKind.wrap_i64]; omega
          have hw2 : IntKind.i64.wrap (F + (1 - ((looksF q : Nat) : Int))) = F + (1 - ((looksF q : Nat) : Int)) := by rw [IntKind.wrap_i64]; omega
          have HS2 := Lib.hid (show F + (1 - ((looksF q : Nat) : Int)) = freeAt v (k + 1) by rw [HS.out]; omega)
          clear hlo
          generalize ((looksF q : Nat) : Int) = L at *
          go_wp2
          go_roundw
          case rel => exact ⟨k + 1, by omega, by go_num, by rw [HS2.out], HR.out, hW1⟩
          case measure => simp [intOf]; omega
        · have hls : F < ((looksF q : Nat) : Int) := by omega
          have HF := Lib.hid (viewB_stop hlt (by rw [HO.out, HOK.out, decide_eq_false hlo]; rfl))
          clear hlo
          generalize ((looksF q : Nat) : Int) = L at *
          go_wp2
          go_ret
          exact ⟨ret_bool HF.out.symm, hW1⟩
    · have hd : decide (k < v.length) = false := by simpa using hlt
      obtain rfl : k = v.length := by omega
      have HE := Lib.hid (viewB_end HT.out)
      obtain ⟨b, hb⟩ : ∃ b, (freeAt v v.length == 1) = b := ⟨_, rfl⟩
      have HR := Lib.hid (show viewB v = b by
        rw [HE.out, ← hb, decide_eq_true hl9, Bool.and_true]
        rw [Bool.eq_iff_iff, decide_eq_true_eq, beq_iff_eq])
      generalize freeAt v v.length = F at *
      go_wp2
      go_ret
      exact ⟨ret_bool HR.out.symm, hW⟩
end Go.Proofs.YtejgofhpjkebbaaDoor
