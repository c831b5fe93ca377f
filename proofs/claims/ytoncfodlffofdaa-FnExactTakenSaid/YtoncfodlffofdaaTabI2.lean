/- Contracts of cmp.Compare at int64, of the search by halves (slices.BinarySearchFunc, as it is translated), and of the program's placeOfKey and rowsUpTo: what each returns; nothing has turned. -/
import Derived.Test.YtoncfodlffofdaaTab2
import Derived.Test.YtoncfodlffofdaaTabThy2
namespace Go.Proofs.Ytoncfodlffofdaa
open Go.RowKit

def cmpI (x y : Int) : Int := if x < y then -1 else if y < x then 1 else 0
set_option maxHeartbeats 1000000 in
theorem isNaN_any (x : Int) (w : World) : Calls Try.prog 153 #[.int .i64 x] w fun e w' => e = .returned (.bool false) ∧ w = w' := by
  have hx : (x != x) = false := by simp
  go_enter Try.func153, Try.ntmps153
  go_wp2
  go_ret
  exact ⟨rfl, rfl⟩
set_option maxHeartbeats 1000000 in
theorem compare_any (x y : Int) (w : World) : Calls Try.prog 149 #[.int .i64 x, .int .i64 y] w fun e w' => e = .returned (.int .i64 (cmpI x y)) ∧ w = w' := by
  go_enter Try.func149, Try.ntmps149
  go_wp2_with fail
  refine (isNaN_any x w).mono ?_
  rintro e w1 ⟨rfl, rfl⟩
  go_wp2_with fail
  refine (isNaN_any y w).mono ?_
  rintro e w1 ⟨rfl, rfl⟩
  by_cases h1 : x < y
  · have HF := Lib.hid (show cmpI x y = -1 by unfold cmpI; rw [if_pos h1])
    go_wp2
    go_ret
    exact ⟨by rw [HF.out]; rfl, rfl⟩
  · have d1 := decide_eq_false h1
    by_cases h2 : y < x
    · have HF := Lib.hid (show cmpI x y = 1 by unfold cmpI; rw [if_neg h1, if_pos h2])
      go_wp2
      go_ret
      exact ⟨by rw [HF.out]; rfl, rfl⟩
    · have d2 := decide_eq_false h2
      have HF := Lib.hid (show cmpI x y = 0 by unfold cmpI; rw [if_neg h1, if_neg h2])
      go_wp2
      go_ret
      exact ⟨by rw [HF.out]; rfl, rfl⟩
set_option maxHeartbeats 1000000 in
theorem place1_any (A : Option Addr) (c : Nat) (zs : List Int) (key : Int) (w : World) (B : Nat) (hI : Ints w B A zs) (h0 : 0 < zs.length) :
    Calls Try.prog 148 #[.slice A zs.length c, .int .i64 key] w fun e w' => e = .returned (.int .i64 (cmpI (ky zs) key)) ∧ w = w' := by
  obtain ⟨b, off, rfl, _, c1⟩ := hI.first h0
  go_enter Try.func148, Try.ntmps148
  go_wp2_with fail
  refine (compare_any (ky zs) key w).mono ?_
  rintro e w1 ⟨rfl, rfl⟩
  go_wp2
  go_ret
  exact ⟨rfl, rfl⟩
set_option maxRecDepth 100000 in
set_option maxHeartbeats 4000000 in
theorem search_any (A : Option Addr) (c : Nat) (rows : List (List Int)) (key : Int) (w : World) (B : Nat) (hR : Rws w B A rows) (hS : SK rows) (hp : ∀ j, j < rows.length → 0 < (rr rows j).length) (hl : rows.length ≤ 1099511627776) :
    Calls Try.prog 147 #[.slice A rows.length c, .int .i64 key, .func (.func 148) #[] #[]] w fun e w' => e = .returned (.tuple #[.int .i64 (plcK rows key), .bool (fndB rows key)]) ∧ w = w' := by
  have HP := Lib.hid hp
  have HS := Lib.hid hS
  clear hp hS
  go_enter Try.func147, Try.ntmps147
  go_wp2
  go_loop [9, 10] (fun a b => ∃ lo hi : Nat, a = .int .i64 lo ∧ b = .int .i64 hi ∧ lo ≤ hi ∧ hi ≤ rows.length ∧ (∀ j, j < lo → ky (rr rows j) < key) ∧ (∀ j, hi ≤ j → j < rows.length → key ≤ ky (rr rows j))) (fun a b => (intOf b).toNat - (intOf a).toNat)
  case atStart => exact ⟨0, rows.length, rfl, rfl, Nat.zero_le _, Nat.le_refl _, (fun j hj => absurd hj (by omega)), (fun j h1 h2 => absurd h2 (by omega))⟩
  case round =>
    obtain ⟨lo, hi, rfl, rfl, hlh, hin, i1, i2⟩ := hrel
    have I1 := Lib.hid i1
    have I2 := Lib.hid i2
    clear i1 i2
    by_cases hlt : lo < hi
    · obtain ⟨m, hmm⟩ : ∃ m, (lo + hi) / 2 = m := ⟨_, rfl⟩
      have hmi : ((lo : Int) + (hi : Int)) / 2 = (m : Int) := by omega
      have hm : m < rows.length := by omega
      have hm1 : lo ≤ m := by omega
      have hm2 : m < hi := by omega
      have hm0 : (0 : Int) ≤ (m : Int) := Int.natCast_nonneg _
      obtain ⟨b, off, Ar, cap, rfl, hb, h1, h2, h3⟩ := hR.here1 hm
      have hpos := HP.out _ hm
      by_cases hyx : ky (rr rows (m)) < key
      · have HC := Lib.hid (show cmpI (ky (rr rows (m))) key = -1 by unfold cmpI; rw [if_pos hyx])
        have HY := Lib.hid hyx
        clear hyx
        go_wp2_with fail
        refine (place1_any Ar cap (rr rows (m)) key w B h2 hpos).mono ?_
        rintro e w1 ⟨rfl, rfl⟩
        rw [HC.out]
        go_wp2
        go_round
        case rel =>
          refine ⟨m + 1, hi, by go_num, rfl, by omega, hin, fun j hj => ?_, I2.out⟩
          by_cases e : j = m
          · rw [e]; exact HY.out
          · have := sk_lt HS.out (show j < m by omega) hm; have := HY.out; omega
        case measure => simp [intOf]; omega
      · have HY := Lib.hid hyx
        have hc0 : ¬ cmpI (ky (rr rows (m))) key < 0 := by unfold cmpI; rw [if_neg hyx]; split <;> omega
        obtain ⟨q, hq⟩ : ∃ q, cmpI (ky (rr rows (m))) key = q := ⟨_, rfl⟩
        have HQ := Lib.hid hq
        rw [hq] at hc0
        have hd := decide_eq_false hc0
        clear hyx hq
        go_wp2_with fail
        refine (place1_any Ar cap (rr rows (m)) key w B h2 hpos).mono ?_
        rintro e w1 ⟨rfl, rfl⟩
        rw [HQ.out]
        go_wp2
        go_round
        case rel =>
          refine ⟨lo, m, rfl, by go_num, by omega, by omega, I1.out, fun j h4 h5 => ?_⟩
          by_cases e : j = m
          · rw [e]; have := HY.out; omega
          · have := sk_lt HS.out (show m < j by omega) h5; have := HY.out; omega
        case measure => simp [intOf]; omega
    · obtain rfl : hi = lo := by omega
      have HPL := Lib.hid (show plcK rows key = hi from plc_of hin I1.out (fun h => I2.out hi (Nat.le_refl _) h))
      by_cases hn : hi < rows.length
      · obtain ⟨b, off, Ar, cap, rfl, hb, h1, h2, h3⟩ := hR.here1 hn
        have hpos := HP.out _ hn
        have hge := I2.out hi (Nat.le_refl _) hn
        obtain ⟨q, hq⟩ : ∃ q, cmpI (ky (rr rows hi)) key = q := ⟨_, rfl⟩
        have HQ := Lib.hid hq
        have HF := Lib.hid (show fndB rows key = (q == 0) by
          unfold fndB
          rw [HPL.out, decide_eq_true hn, Bool.true_and, ← hq]
          unfold cmpI
          rw [if_neg (by omega)]
          by_cases e : ky (rr rows hi) = key
          · rw [if_neg (by omega), decide_eq_true e]; rfl
          · rw [if_pos (by omega), decide_eq_false e]; rfl)
        clear hq hge
        go_wp2_with fail
        refine (place1_any Ar cap (rr rows hi) key w B h2 hpos).mono ?_
        rintro e w1 ⟨rfl, rfl⟩
        rw [HQ.out]
        go_wp2
        go_ret2
        rw [HPL.out, HF.out]
        exact ⟨rfl, rfl⟩
      · have hd : decide (hi < rows.length) = false := by simpa using hn
        have HF := Lib.hid (show fndB rows key = false by unfold fndB; rw [HPL.out, decide_eq_false hn]; rfl)
        go_wp2
        go_ret2
        rw [HPL.out, HF.out]
        exact ⟨rfl, rfl⟩
set_option maxHeartbeats 1000000 in
theorem placeOfKey_any (A : Option Addr) (c : Nat) (rows : List (List Int)) (key : Int) (w : World) (B : Nat) (hR : Rws w B A rows) (hS : SK rows) (hp : ∀ j, j < rows.length → 0 < (rr rows j).length) (hl : rows.length ≤ 1099511627776) :
    Calls Try.prog 124 #[.slice A rows.length c, .int .i64 key] w fun e w' => e = .returned (.tuple #[.int .i64 (plcK rows key), .bool (fndB rows key)]) ∧ w = w' := by
  go_enter Try.func124, Try.ntmps124
  go_wp2_with fail
  refine (search_any A c rows key w B hR hS hp hl).mono ?_
  rintro e w1 ⟨rfl, rfl⟩
  go_wp2
  go_ret2
  exact ⟨rfl, rfl⟩
set_option maxHeartbeats 1000000 in
theorem rowsUpTo_any (A : Option Addr) (c : Nat) (rows : List (List Int)) (key : Int) (w : World) (B : Nat) (hR : Rws w B A rows) (hS : SK rows) (hp : ∀ j, j < rows.length → 0 < (rr rows j).length) (hl : rows.length ≤ 1099511627776) :
    Calls Try.prog 125 #[.slice A rows.length c, .int .i64 key] w fun e w' => e = .returned (.int .i64 (upK rows key)) ∧ w = w' := by
  have hle := plc_le rows key
  have hup := up_plc (k := key) hS
  go_enter Try.func125, Try.ntmps125
  go_wp2_with fail
  refine (placeOfKey_any A c rows key w B hR hS hp hl).mono ?_
  rintro e w1 ⟨rfl, rfl⟩
  cases hf : fndB rows key with
  | true =>
    rw [hf, if_pos rfl] at hup
    have HU := Lib.hid hup
    clear hup hf
    generalize plcK rows key = p at *
    go_wp2
    go_ret
    exact ⟨ret_int (by rw [HU.out]; omega), rfl⟩
  | false =>
    rw [hf, if_neg (by simp)] at hup
    have HU := Lib.hid hup
    clear hup hf
    generalize plcK rows key = p at *
    go_wp2
    go_ret
    exact ⟨ret_int (by rw [HU.out]; omega), rfl⟩
end Go.Proofs.Ytoncfodlffofdaa
