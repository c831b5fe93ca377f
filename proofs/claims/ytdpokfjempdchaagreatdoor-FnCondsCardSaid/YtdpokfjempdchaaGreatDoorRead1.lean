/- Contracts of the model's readers: l1ReadMost reads a number; l1Split cuts a text at a byte; ReadRow. -/
import Derived.Test.YtdpokfjempdchaaGreatDoorJK1
import Derived.Test.YtdpokfjempdchaaGreatDoorJA
import Derived.WalkSpells
namespace Go.Proofs.YtdpokfjempdchaaGreatDoor
open Go.RowKit

/-- What a reader of a number answers. -/
def numAns (o : Option Int) : Value := match o with | some n => .tuple #[.int .i64 n, .bool true] | none => .tuple #[.int .i64 0, .bool false]

theorem bl_get (s : ByteArray) (k : Nat) (h : k < s.size) : (bl s)[k]? = some s[k] := by
  unfold bl
  rw [Array.getElem?_toList, Array.getElem?_eq_getElem h]; rfl
theorem dval_succ (s : ByteArray) (i k : Nat) (h : k < s.size) (hi : i ≤ k) : valFrom 0 (((bl s).drop i).take (k + 1 - i)) = valFrom 0 (((bl s).drop i).take (k - i)) * 10 + (s[k].toNat - 48) := by
  have hl : k - i < ((bl s).drop i).length := by rw [List.length_drop, bl_length]; omega
  rw [show k + 1 - i = (k - i) + 1 by omega, List.take_succ_eq_append_getElem hl, valFrom_snoc]
  congr 2
  have : ((bl s).drop i)[k - i]? = some s[k] := by rw [List.getElem?_drop, show i + (k - i) = k by omega, bl_get s k h]
  rw [List.getElem?_eq_getElem hl] at this
  rw [Option.some.inj this]
theorem dall_succ (s : ByteArray) (i k : Nat) (h : k < s.size) (hi : i ≤ k) : (((bl s).drop i).take (k + 1 - i)).all isDig = ((((bl s).drop i).take (k - i)).all isDig && isDig s[k]) := by
  have hl : k - i < ((bl s).drop i).length := by rw [List.length_drop, bl_length]; omega
  rw [show k + 1 - i = (k - i) + 1 by omega, List.take_succ_eq_append_getElem hl, List.all_append]
  have : ((bl s).drop i)[k - i]? = some s[k] := by rw [List.getElem?_drop, show i + (k - i) = k by omega, bl_get s k h]
  rw [List.getElem?_eq_getElem hl] at this
  rw [Option.some.inj this]
  simp
theorem dall_stop (s : ByteArray) (i k : Nat) (h : k < s.size) (hi : i ≤ k) (hn : isDig s[k] = false) : ((bl s).drop i).all isDig = false := by
  rw [List.all_eq_false]
  refine ⟨s[k], ?_, by simp [hn]⟩
  rw [List.mem_iff_getElem?]
  exact ⟨k - i, by rw [List.getElem?_drop, show i + (k - i) = k by omega, bl_get s k h]⟩
theorem isNeg_some {s : ByteArray} (h : 0 < s.size) : isNeg (bl s) = (s[0] == 45) := by
  have := bl_get s 0 h
  cases hx : bl s with
  | nil => rw [hx] at this; simp at this
  | cons c r => rw [hx] at this; simp at this; unfold isNeg; rw [this]
theorem digs_drop (s : ByteArray) (i : Nat) (h : (isNeg (bl s) = true ∧ i = 1) ∨ (isNeg (bl s) = false ∧ i = 0)) : digs (bl s) = (bl s).drop i := by
  unfold digs
  rcases h with ⟨h, rfl⟩ | ⟨h, rfl⟩
  · rw [if_pos h]; simp
  · rw [h]; simp
theorem dig_byte {c : UInt8} (h1 : 48 ≤ c.toNat) (h2 : c.toNat ≤ 57) : isDig c = true := isDig_iff.2 ⟨h1, h2⟩
theorem dig_no {c : UInt8} (h : c.toNat < 48 ∨ 57 < c.toNat) : isDig c = false := by
  cases hd : isDig c with
  | false => rfl
  | true => have := isDig_iff.1 hd; omega
theorem dhead (s : ByteArray) (i : Nat) (h : i < s.size) : ((bl s).drop i).head? = some s[i] := by
  rw [List.head?_eq_getElem?, List.getElem?_drop, Nat.add_zero, bl_get s i h]

/-- What readNum gives, from how the text begins and what its digits are. -/
theorem readNum_long {s : ByteArray} {most i : Nat} (hd : digs (bl s) = (bl s).drop i) (h : s.size - i < 1 ∨ most < s.size - i) : readNum most (bl s) = none := by
  unfold readNum
  rw [hd, if_pos (by rw [List.length_drop, bl_length]; omega)]
theorem readNum_odd {s : ByteArray} {most i : Nat} (hd : digs (bl s) = (bl s).drop i) (h2 : ((bl s).drop i).all isDig = false) : readNum most (bl s) = none := by
  unfold readNum
  rw [hd]
  split
  · rfl
  · first | rfl | rw [if_pos h2]
theorem readNum_nought {s : ByteArray} {most i : Nat} (hd : digs (bl s) = (bl s).drop i) (hi : i < s.size) (h48 : s[i].toNat = 48) (h3 : isNeg (bl s) = true ∨ 1 < s.size) : readNum most (bl s) = none := by
  unfold readNum
  rw [hd]
  split
  · rfl
  · split
    · rfl
    · rw [if_pos ⟨by rw [dhead s i hi]; congr 1; exact UInt8.toNat_inj.1 h48, by rw [bl_length]; exact h3⟩]
theorem readNum_is {s : ByteArray} {most i : Nat} (hd : digs (bl s) = (bl s).drop i) (hi : i < s.size) (hm : s.size - i ≤ most) (h2 : ((bl s).drop i).all isDig = true) (h3 : ¬ (s[i].toNat = 48 ∧ (isNeg (bl s) = true ∨ 1 < s.size))) :
    readNum most (bl s) = some (if isNeg (bl s) = true then -(valFrom 0 ((bl s).drop i) : Int) else (valFrom 0 ((bl s).drop i) : Int)) := by
  unfold readNum
  rw [hd, if_neg (by rw [List.length_drop, bl_length]; omega), if_neg (by rw [h2]; simp), if_neg]
  · rfl
  · rintro ⟨e, e2⟩
    rw [dhead s i hi] at e
    rw [bl_length] at e2
    exact h3 ⟨by rw [Option.some.inj e]; rfl, e2⟩
theorem ret_num (o : Option Int) (n : Int) (h : o = some n) : Ending.returned (.tuple #[.int .i64 n, .bool true]) = .returned (numAns o) := by rw [h]; rfl
theorem ret_none (o : Option Int) (h : o = none) : Ending.returned (.tuple #[.int .i64 0, .bool false]) = .returned (numAns o) := by rw [h]; rfl
theorem dval_lt (s : ByteArray) (i k : Nat) (h : (((bl s).drop i).take (k - i)).all isDig = true) (hk : k - i ≤ 17) : valFrom 0 (((bl s).drop i).take (k - i)) < 100000000000000000 := by
  have h1 := valFrom_lt _ h 0
  have h2 : (((bl s).drop i).take (k - i)).length ≤ 17 := Nat.le_trans (List.length_take_le _ _) hk
  have h3 : 10 ^ (((bl s).drop i).take (k - i)).length ≤ 10 ^ 17 := Nat.pow_le_pow_right (by omega) h2
  have : (10 : Nat) ^ 17 = 100000000000000000 := by decide
  omega

set_option maxRecDepth 100000 in
set_option maxHeartbeats 4000000 in
theorem l1ReadMost_0 (s : ByteArray) (most : Nat) (w : World) (hm : most ≤ 17) (hs : s.size ≤ 1099511627776) (h0 : 0 < s.size) (hb0 : s[0].toNat ≠ 45) :
    Calls Tryz.prog 70 #[.string s, .int .i64 most] w fun e w' => e = .returned (numAns (readNum most (bl s))) ∧ w = w' := by
  have hne : s.toList.isEmpty = false := by
    rw [ByteArray.toList_eq]
    have := bl_length s
    unfold bl at this
    cases hx : s.data.toList with
    | nil => rw [hx] at this; simp at this; omega
    | cons _ _ => rfl
  have hN : isNeg (bl s) = false := by
    rw [isNeg_some h0]
    rw [beq_eq_false_iff_ne]; intro e; apply hb0; rw [e]; rfl
  have hd := digs_drop s 0 (.inr ⟨hN, rfl⟩)
  have h45 : ((s[0].toNat : Int) == 45) = false := by rw [beq_eq_false_iff_ne]; omega
  have HB0 := Lib.hid hb0
  have HN := Lib.hid hN
  have HD := Lib.hid hd
  clear hb0 hN hd
  by_cases hlong : s.size - 0 < 1 ∨ most < s.size - 0
  · have HR := Lib.hid (ret_none _ (readNum_long HD.out hlong))
    by_cases hl1 : s.size - 0 < 1
    · omega
      
    · have hx : decide ((s.size : Int) - 0 < 1) = false := by simp; omega
      have hy : decide ((most : Int) < (s.size : Int) - 0) = true := by simp; omega
      go_enter Tryz.func70, Tryz.ntmps70
      go_wp2
      go_ret2
      exact ⟨HR.out, rfl⟩
  have hx : decide ((s.size : Int) - 0 < 1) = false := by simp; omega
  have hy : decide ((most : Int) < (s.size : Int) - 0) = false := by simp; omega
  have hsz : 0 < s.size := by omega
  have hsm : s.size - 0 ≤ most := by omega
  clear hlong
  go_enter Tryz.func70, Tryz.ntmps70
  go_wp2
  go_loop [8, 9] (fun n k => ∃ j : Nat, 0 ≤ j ∧ j ≤ s.size ∧ k = .int .i64 j ∧ n = .int .i64 (valFrom 0 (((bl s).drop 0).take (j - 0)) : Nat) ∧ (((bl s).drop 0).take (j - 0)).all isDig = true) (fun _ k => s.size - (intOf k).toNat)
  case atStart => exact ⟨0, Nat.le_refl _, by omega, rfl, by simp [valFrom], by simp⟩
  case round =>
    obtain ⟨j, hji, hjs, rfl, rfl, hall⟩ := hrel
    have hvlt := dval_lt s 0 j hall (by omega)
    have HALL := Lib.hid hall
    obtain ⟨v, hv⟩ : ∃ v : Nat, v = valFrom 0 (((bl s).drop 0).take (j - 0)) := ⟨_, rfl⟩
    rw [← hv] at hvlt ⊢
    have HV := Lib.hid hv
    clear hall hv
    by_cases hlt : j < s.size
    · by_cases hc1 : s[j].toNat < 48
      · have HR := Lib.hid (ret_none _ (readNum_odd (most := most) HD.out (dall_stop s 0 j hlt hji (dig_no (.inl hc1)))))
        have hc1' : decide ((s[j].toNat : Int) < 48) = true := by simp; omega
        go_wp2
        go_ret2
        exact ⟨HR.out, rfl⟩
      · by_cases hc2 : 57 < s[j].toNat
        · have HR := Lib.hid (ret_none _ (readNum_odd (most := most) HD.out (dall_stop s 0 j hlt hji (dig_no (.inr hc2)))))
          have hc1' : decide ((s[j].toNat : Int) < 48) = false := by simp; omega
          have hc2' : decide ((57 : Int) < (s[j].toNat : Int)) = true := by simp; omega
          go_wp2
          go_ret2
          exact ⟨HR.out, rfl⟩
        · have hc1' : decide ((s[j].toNat : Int) < 48) = false := by simp; omega
          have hc2' : decide ((57 : Int) < (s[j].toNat : Int)) = false := by simp; omega
          have HSV := Lib.hid (dval_succ s 0 j hlt hji)
          have HSA := Lib.hid (dall_succ s 0 j hlt hji)
          have HDG := Lib.hid (dig_byte (c := s[j]) (by omega) (by omega))
          go_wp2
          go_round
          case rel => exact ⟨j + 1, by omega, by omega, by go_num, by rw [HSV.out, ← HV.out]; go_num, by rw [HSA.out, HALL.out, HDG.out]; rfl⟩
          case measure => simp [intOf]; omega
    · obtain rfl : j = s.size := by omega
      have htk : ((bl s).drop 0).take (s.size - 0) = (bl s).drop 0 := List.take_of_length_le (by rw [List.length_drop, bl_length]; exact Nat.le_refl _)
      have HALL2 : Hid (((bl s).drop 0).all isDig = true) := by have := HALL.out; rw [htk] at this; exact this
      have HV2 : Hid (v = valFrom 0 ((bl s).drop 0)) := by have := HV.out; rw [htk] at this; exact this
      clear htk HALL HV
      by_cases h48 : s[0].toNat = 48
      · have h48' : ((s[0].toNat : Int) == 48) = true := by rw [beq_iff_eq]; omega
        by_cases h1 : 1 < s.size
        · have h1' : decide ((1 : Int) < (s.size : Int)) = true := by simp; omega
          have HR := Lib.hid (ret_none _ (readNum_nought (most := most) HD.out hsz h48 (.inr h1)))
          go_wp2
          go_ret2
          exact ⟨HR.out, rfl⟩
        · have h1' : decide ((1 : Int) < (s.size : Int)) = false := by simp; omega
          have HR := Lib.hid (ret_num _ _ (readNum_is HD.out hsz hsm HALL2.out (fun h => by rcases h.2 with e | e; rw [HN.out] at e; cases e; exact h1 e)))
          rw [HN.out, ← HV2.out] at HR
          go_wp2
          go_ret2
          exact ⟨HR.out, rfl⟩
      · have h48' : ((s[0].toNat : Int) == 48) = false := by rw [beq_eq_false_iff_ne]; omega
        have HR := Lib.hid (ret_num _ _ (readNum_is HD.out hsz hsm HALL2.out (fun h => h48 h.1)))
        rw [HN.out, ← HV2.out] at HR
        go_wp2
        go_ret2
        exact ⟨HR.out, rfl⟩

set_option maxRecDepth 100000 in
set_option maxHeartbeats 4000000 in
theorem l1ReadMost_1 (s : ByteArray) (most : Nat) (w : World) (hm : most ≤ 17) (hs : s.size ≤ 1099511627776) (h0 : 0 < s.size) (hb0 : s[0].toNat = 45) :
    Calls Tryz.prog 70 #[.string s, .int .i64 most] w fun e w' => e = .returned (numAns (readNum most (bl s))) ∧ w = w' := by
  have hne : s.toList.isEmpty = false := by
    rw [ByteArray.toList_eq]
    have := bl_length s
    unfold bl at this
    cases hx : s.data.toList with
    | nil => rw [hx] at this; simp at this; omega
    | cons _ _ => rfl
  have hN : isNeg (bl s) = true := by
    rw [isNeg_some h0]
    rw [beq_iff_eq]; exact UInt8.toNat_inj.1 hb0
  have hd := digs_drop s 1 (.inl ⟨hN, rfl⟩)
  have h45 : ((s[0].toNat : Int) == 45) = true := by rw [beq_iff_eq]; omega
  have HB0 := Lib.hid hb0
  have HN := Lib.hid hN
  have HD := Lib.hid hd
  clear hb0 hN hd
  by_cases hlong : s.size - 1 < 1 ∨ most < s.size - 1
  · have HR := Lib.hid (ret_none _ (readNum_long HD.out hlong))
    by_cases hl1 : s.size - 1 < 1
    · have hx : decide ((s.size : Int) - 1 < 1) = true := by simp; omega
      go_enter Tryz.func70, Tryz.ntmps70
      go_wp2
      go_ret2
      exact ⟨HR.out, rfl⟩
    · have hx : decide ((s.size : Int) - 1 < 1) = false := by simp; omega
      have hy : decide ((most : Int) < (s.size : Int) - 1) = true := by simp; omega
      go_enter Tryz.func70, Tryz.ntmps70
      go_wp2
      go_ret2
      exact ⟨HR.out, rfl⟩
  have hx : decide ((s.size : Int) - 1 < 1) = false := by simp; omega
  have hy : decide ((most : Int) < (s.size : Int) - 1) = false := by simp; omega
  have hsz : 1 < s.size := by omega
  have hsm : s.size - 1 ≤ most := by omega
  clear hlong
  go_enter Tryz.func70, Tryz.ntmps70
  go_wp2
  go_loop [8, 9] (fun n k => ∃ j : Nat, 1 ≤ j ∧ j ≤ s.size ∧ k = .int .i64 j ∧ n = .int .i64 (valFrom 0 (((bl s).drop 1).take (j - 1)) : Nat) ∧ (((bl s).drop 1).take (j - 1)).all isDig = true) (fun _ k => s.size - (intOf k).toNat)
  case atStart => exact ⟨1, Nat.le_refl _, by omega, rfl, by simp [valFrom], by simp⟩
  case round =>
    obtain ⟨j, hji, hjs, rfl, rfl, hall⟩ := hrel
    have hvlt := dval_lt s 1 j hall (by omega)
    have HALL := Lib.hid hall
    obtain ⟨v, hv⟩ : ∃ v : Nat, v = valFrom 0 (((bl s).drop 1).take (j - 1)) := ⟨_, rfl⟩
    rw [← hv] at hvlt ⊢
    have HV := Lib.hid hv
    clear hall hv
    by_cases hlt : j < s.size
    · by_cases hc1 : s[j].toNat < 48
      · have HR := Lib.hid (ret_none _ (readNum_odd (most := most) HD.out (dall_stop s 1 j hlt hji (dig_no (.inl hc1)))))
        have hc1' : decide ((s[j].toNat : Int) < 48) = true := by simp; omega
        go_wp2
        go_ret2
        exact ⟨HR.out, rfl⟩
      · by_cases hc2 : 57 < s[j].toNat
        · have HR := Lib.hid (ret_none _ (readNum_odd (most := most) HD.out (dall_stop s 1 j hlt hji (dig_no (.inr hc2)))))
          have hc1' : decide ((s[j].toNat : Int) < 48) = false := by simp; omega
          have hc2' : decide ((57 : Int) < (s[j].toNat : Int)) = true := by simp; omega
          go_wp2
          go_ret2
          exact ⟨HR.out, rfl⟩
        · have hc1' : decide ((s[j].toNat : Int) < 48) = false := by simp; omega
          have hc2' : decide ((57 : Int) < (s[j].toNat : Int)) = false := by simp; omega
          have HSV := Lib.hid (dval_succ s 1 j hlt hji)
          have HSA := Lib.hid (dall_succ s 1 j hlt hji)
          have HDG := Lib.hid (dig_byte (c := s[j]) (by omega) (by omega))
          go_wp2
          go_round
          case rel => exact ⟨j + 1, by omega, by omega, by go_num, by rw [HSV.out, ← HV.out]; go_num, by rw [HSA.out, HALL.out, HDG.out]; rfl⟩
          case measure => simp [intOf]; omega
    · obtain rfl : j = s.size := by omega
      have htk : ((bl s).drop 1).take (s.size - 1) = (bl s).drop 1 := List.take_of_length_le (by rw [List.length_drop, bl_length]; exact Nat.le_refl _)
      have HALL2 : Hid (((bl s).drop 1).all isDig = true) := by have := HALL.out; rw [htk] at this; exact this
      have HV2 : Hid (v = valFrom 0 ((bl s).drop 1)) := by have := HV.out; rw [htk] at this; exact this
      clear htk HALL HV
      by_cases h48 : s[1].toNat = 48
      · have h48' : ((s[1].toNat : Int) == 48) = true := by rw [beq_iff_eq]; omega
        have HR := Lib.hid (ret_none _ (readNum_nought (most := most) HD.out hsz h48 (.inl HN.out)))
        go_wp2
        go_ret2
        exact ⟨HR.out, rfl⟩
      · have h48' : ((s[1].toNat : Int) == 48) = false := by rw [beq_eq_false_iff_ne]; omega
        have HR := Lib.hid (ret_num _ _ (readNum_is HD.out hsz hsm HALL2.out (fun h => h48 h.1)))
        rw [HN.out, ← HV2.out] at HR
        go_wp2
        go_ret2
        exact ⟨HR.out, rfl⟩

set_option maxHeartbeats 1000000 in
theorem l1ReadMost_any (s : ByteArray) (most : Nat) (w : World) (hm : most ≤ 17) (hs : s.size ≤ 1099511627776) :
    Calls Tryz.prog 70 #[.string s, .int .i64 most] w fun e w' => e = .returned (numAns (readNum most (bl s))) ∧ w = w' := by
  by_cases h0 : 0 < s.size
  · by_cases hb : s[0].toNat = 45
    · exact l1ReadMost_1 s most w hm hs h0 hb
    · exact l1ReadMost_0 s most w hm hs h0 hb
  · obtain rfl : s = ⟨#[]⟩ := bl_eta s [] (List.length_eq_zero_iff.1 (by rw [bl_length]; omega))
    go_enter Tryz.func70, Tryz.ntmps70
    go_wp2
    go_ret2
    exact ⟨rfl, rfl⟩
theorem l1ReadMost_yes (s : ByteArray) (most : Nat) (n : Int) (w : World) (hm : most ≤ 17) (hs : s.size ≤ 1099511627776) (h : readNum most (bl s) = some n) :
    Calls Tryz.prog 70 #[.string s, .int .i64 most] w fun e w' => e = .returned (.tuple #[.int .i64 n, .bool true]) ∧ w = w' := by
  have := l1ReadMost_any s most w hm hs; rw [h] at this; exact this
theorem l1ReadMost_no (s : ByteArray) (most : Nat) (w : World) (hm : most ≤ 17) (hs : s.size ≤ 1099511627776) (h : readNum most (bl s) = none) :
    Calls Tryz.prog 70 #[.string s, .int .i64 most] w fun e w' => e = .returned (.tuple #[.int .i64 0, .bool false]) ∧ w = w' := by
  have := l1ReadMost_any s most w hm hs; rw [h] at this; exact this

/-- The words that l1Split has cut off when it stands at place k, the next word beginning at place f. -/
theorem spl_length (c : UInt8) : ∀ l : List UInt8, (spl c l).length = l.count c + 1
  | [] => rfl
  | b :: r => by
    have ih := spl_length c r
    unfold spl
    by_cases e : b = c
    · subst e; rw [if_pos rfl]; simp [ih]
    · rw [if_neg e, List.count_cons_of_ne e]
      split
      · rename_i h; rw [h] at ih; simp at ih
      · rename_i h; rw [h] at ih; simpa using ih
def piece (s : ByteArray) (a b : Nat) : ByteArray := s.extract a b
theorem piece_bl (s : ByteArray) (a b : Nat) : bl (piece s a b) = ((bl s).drop a).take (b - a) := by
  unfold piece bl
  rw [Lib.extract_data]
end Go.Proofs.YtdpokfjempdchaaGreatDoor
