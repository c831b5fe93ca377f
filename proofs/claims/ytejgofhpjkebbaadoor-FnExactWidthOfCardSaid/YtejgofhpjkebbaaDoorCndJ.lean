/- The program's CondsOk; nothing that lay has turned. -/
import Derived.Test.YtejgofhpjkebbaaDoorCndI
import Derived.Test.YtejgofhpjkebbaaDoorCndS
namespace Go.Proofs.YtejgofhpjkebbaaDoor
open Go.RowKit

theorem op1_any (x y : Int) (w : World) : Calls Tryd.prog 71 #[.int .i64 x, .int .i64 y] w fun e w' => e = .returned (.bool (opH 1 x y)) ∧ w = w' := by
  have e : opH 1 x y = decide (x < y) := rfl
  rw [e]
  go_enter Tryd.func71, Tryd.ntmps71
  go_wp2
  go_ret
  exact ⟨rfl, rfl⟩
theorem op2_any (x y : Int) (w : World) : Calls Tryd.prog 72 #[.int .i64 x, .int .i64 y] w fun e w' => e = .returned (.bool (opH 2 x y)) ∧ w = w' := by
  have e : opH 2 x y = (x == y) := by
    show decide (x = y) = _
    rw [Bool.eq_iff_iff]; simp
  rw [e]
  go_enter Tryd.func72, Tryd.ntmps72
  go_wp2
  go_ret
  exact ⟨rfl, rfl⟩
theorem op3_any (x y : Int) (w : World) : Calls Tryd.prog 73 #[.int .i64 x, .int .i64 y] w fun e w' => e = .returned (.bool (opH 3 x y)) ∧ w = w' := by
  have e : opH 3 x y = decide (y < x) := rfl
  rw [e]
  go_enter Tryd.func73, Tryd.ntmps73
  go_wp2
  go_ret
  exact ⟨rfl, rfl⟩
theorem op_yes {o : Int} (h : opB o = true) : ∃ sg f, opV o = .agg #[.int .i64 o, .string sg, .func (.func f) #[] #[]] := by
  unfold opB inB at h
  rw [Bool.and_eq_true, decide_eq_true_eq, decide_eq_true_eq] at h
  have : o = 1 ∨ o = 2 ∨ o = 3 := by omega
  rcases this with rfl | rfl | rfl
  · exact ⟨_, _, opV_1⟩
  · exact ⟨_, _, opV_2⟩
  · exact ⟨_, _, opV_3⟩

set_option maxRecDepth 100000 in
set_option maxHeartbeats 4000000 in
theorem condOk_any (p o t : Int) (i : Bool) (w : World) :
    Calls Tryd.prog 60 #[.agg #[.int .i64 p, .int .i64 o, .int .i64 t, .bool i]] w fun e w' => e = .returned (.bool (condB ⟨p, o, t, i⟩)) ∧ Below w.heap.size w w' := by
  obtain ⟨R, hR⟩ : ∃ R, condB ⟨p, o, t, i⟩ = R := ⟨_, rfl⟩
  have HQ := Lib.hid hR
  rw [hR]
  clear hR
  have bc := (Below.refl w.heap.size w).alloc (Nat.le_refl _) (.cells #[.int .i64 p, .int .i64 o, .int .i64 t, .bool i] 86)
  have BC := Blk.new w 86 #[.int .i64 p, .int .i64 o, .int .i64 t, .bool i]
  obtain ⟨c0, c1, c2, c3⟩ := BC.c4
  go_enter Tryd.func60, Tryd.ntmps60
  go_wp2_with fail
  generalize w.alloc (.cells #[.int .i64 p, .int .i64 o, .int .i64 t, .bool i] 86) = wb at *
  refine (opOf_any o wb).mono ?_
  rintro e w1 ⟨rfl, hb1⟩
  have hW1 := bel_step bc hb1
  have BC1 := BC.on hb1
  clear c0 c1 c2 c3 BC bc hb1
  cases ho : opB o with
  | false =>
    have HD := Lib.hid (show R = false by rw [← HQ.out]; exact condB_o ho)
    have hWx := hW1.alloc hW1.size (.cells #[.int .i64 0, .string ⟨#[]⟩, .nilFunc] 97)
    rw [opV_no ho]
    clear ho BC1
    go_wp2
    go_ret
    exact ⟨ret_bool HD.out.symm, hWx⟩
  | true =>
    obtain ⟨sg, f, hv⟩ := op_yes ho
    have HO := Lib.hid ho
    have hWx := hW1.alloc hW1.size (.cells #[.int .i64 o, .string sg, .func (.func f) #[] #[]] 97)
    have BCx := BC1.alloc (.cells #[.int .i64 o, .string sg, .func (.func f) #[] #[]] 97)
    obtain ⟨c0, c1, c2, c3⟩ := BCx.c4
    obtain ⟨a0, a1, a2, a3⟩ := BC1.c4
    rw [hv]
    clear ho hv hW1
    go_wp2_with fail
    generalize w1.alloc (.cells #[.int .i64 o, .string sg, .func (.func f) #[] #[]] 97) = wx at *
    clear BC1 BCx a0 a1 a2 a3
    refine (placeOk_any p wx).mono ?_
    rintro e w2 ⟨rfl, rfl⟩
    cases hp : inB p 0 5 with
    | false =>
      have HD := Lib.hid (show R = false by rw [← HQ.out]; exact condB_p hp)
      clear hp
      go_wp2
      go_ret
      exact ⟨ret_bool HD.out.symm, hWx⟩
    | true =>
      have HD := Lib.hid (show R = if i = true then inB t (-1000) 1000 else inB t 0 5 by rw [← HQ.out]; exact condB_t hp HO.out)
      clear hp
      cases i
      · go_wp2_with fail
        refine (placeOk_any t wx).mono ?_
        rintro e w2 ⟨rfl, rfl⟩
        generalize hx : inB t 0 5 = x at *
        have HX := Lib.hid hx
        clear hx
        go_wp2
        go_ret
        exact ⟨ret_bool (by rw [HD.out]; rfl), hWx⟩
      · have HX := Lib.hid (show R = (decide (-1000 ≤ t) && decide (t ≤ 1000)) from HD.out)
        clear HD
        by_cases h1 : -1000 ≤ t
        · have HY := Lib.hid (show R = decide (t ≤ 1000) by rw [HX.out, decide_eq_true h1]; rfl)
          clear HX
          go_wp2
          go_ret
          exact ⟨ret_bool HY.out.symm, hWx⟩
        · have hd := decide_eq_false h1
          have HY := Lib.hid (show R = false by rw [HX.out, hd]; rfl)
          clear HX h1
          go_wp2
          go_ret
          exact ⟨ret_bool HY.out.symm, hWx⟩

set_option maxRecDepth 100000 in
set_option maxHeartbeats 4000000 in
theorem implCondsOk_any (A : Option Addr) (c : Nat) (l : List Cnd) (wd : Int) (w : World) (hC : Cnds w w.heap.size A l) (hl : l.length ≤ 1099511627776) :
    Calls Tryd.prog 41 #[.slice A l.length c, .int .i64 wd] w fun e w' => e = .returned (.bool (condsB l wd)) ∧ Below w.heap.size w w' := by
  obtain ⟨R, hR⟩ : ∃ R, condsB l wd = R := ⟨_, rfl⟩
  have HQ := Lib.hid hR
  rw [hR]
  clear hR
  by_cases hbig : (3 : Int) < l.length
  · have HD := Lib.hid (show R = false by rw [← HQ.out]; exact condsB_long (by omega))
    go_enter Tryd.func41, Tryd.ntmps41
    go_wp2
    go_ret
    exact ⟨ret_bool HD.out.symm, Below.refl _ _⟩
  have hbd : decide ((3 : Int) < l.length) = false := by simpa using hbig
  have hl3 : l.length ≤ 3 := by omega
  clear hbig
  go_enter Tryd.func41, Tryd.ntmps41
  go_wp2
  clear hbd
  go_loopw [12] (fun i wr => ∃ k : Nat, k ≤ l.length ∧ i = .int .i64 k ∧ (l.take k).all condB = true ∧ (l.take k).all (fitC wd) = true ∧ Below w.heap.size w wr) (fun i _ => l.length - (intOf i).toNat)
  case atStart => exact ⟨0, Nat.zero_le _, rfl, by simp, by simp, Below.refl _ _⟩
  case round =>
    obtain ⟨k, hk, rfl, ht, hu, hW⟩ := hrel
    have HT := Lib.hid (And.intro ht hu)
    clear ht hu
    have hCr := hC.on hW
    by_cases hlt : k < l.length
    · obtain ⟨b, off, rfl, _, h0, h1, h2, h3⟩ := hCr.here hlt
      have HE := Lib.hid (cnd_eta (cx l k))
      generalize hp : (cx l k).p = p at *
      generalize ho : (cx l k).o = o at *
      generalize ht : (cx l k).t = t at *
      generalize hi : (cx l k).i = i at *
      have HP := Lib.hid hp
      have HT2 := Lib.hid ht
      have HI := Lib.hid hi
      clear hC hCr hp ho ht hi
      have bc := (Below.refl wr.heap.size wr).alloc (Nat.le_refl _) (.cells #[.int .i64 p, .int .i64 o, .int .i64 t, .bool i] 86)
      have BC := Blk.new wr 86 #[.int .i64 p, .int .i64 o, .int .i64 t, .bool i]
      go_wp2_with fail
      generalize wr.alloc (.cells #[.int .i64 p, .int .i64 o, .int .i64 t, .bool i] 86) = wa at *
      refine (condOk_any p o t i wa).mono ?_
      rintro e w1 ⟨rfl, hb1⟩
      rw [HE.out]
      have hW1 := bel_step (bel_step hW bc) hb1
      obtain ⟨c0, c1, c2, c3⟩ := (BC.on hb1).c4
      clear h0 h1 h2 h3 BC bc hW hb1
      cases hc : condB (cx l k) with
      | false =>
        have HF := Lib.hid (show R = false by rw [← HQ.out]; exact condsB_stop1 hlt hc)
        clear hc
        go_wp2
        go_ret
        exact ⟨ret_bool HF.out.symm, hW1⟩
      | true =>
        have HS1 := Lib.hid (show (l.take (k + 1)).all condB = true by rw [all_snocC _ _ _ hlt, HT.out.1, hc]; rfl)
        clear hc
        by_cases hpw : wd ≤ p
        · have HF := Lib.hid (show R = false by rw [← HQ.out]; exact condsB_stop2 hlt (fitC_p (by rw [HP.out]; exact hpw)))
          go_wp2
          go_ret
          exact ⟨ret_bool HF.out.symm, hW1⟩
        · have hpd : decide (wd ≤ p) = false := by simpa using hpw
          cases i with
          | true =>
            have HS := Lib.hid (show (l.take (k + 1)).all (fitC wd) = true by rw [all_snocC _ _ _ hlt, HT.out.2, fitC_i (by rw [HP.out]; exact hpw) HI.out]; rfl)
            clear hpw
            go_wp2
            go_roundw
            case rel => exact ⟨k + 1, by omega, by go_num, HS1.out, HS.out, hW1⟩
            case measure => simp [intOf]; omega
          | false =>
            have HFT := Lib.hid (fitC_t (wd := wd) (by rw [HP.out]; exact hpw) HI.out)
            clear hpw
            by_cases htw : wd ≤ t
            · have HF := Lib.hid (show R = false by rw [← HQ.out]; exact condsB_stop2 hlt (by rw [HFT.out, HT2.out]; exact decide_eq_false (by omega)))
              go_wp2
              go_ret
              exact ⟨ret_bool HF.out.symm, hW1⟩
            · have htd : decide (wd ≤ t) = false := by simpa using htw
              have HS := Lib.hid (show (l.take (k + 1)).all (fitC wd) = true by rw [all_snocC _ _ _ hlt, HT.out.2, HFT.out, HT2.out, decide_eq_true (by omega)]; rfl)
              clear htw HFT
              go_wp2
              go_roundw
              case rel => exact ⟨k + 1, by omega, by go_num, HS1.out, HS.out, hW1⟩
              case measure => simp [intOf]; omega
    · have HD := Lib.hid (show R = true by
        have h1 := HT.out.1
        have h2 := HT.out.2
        rw [List.take_of_length_le (by omega)] at h1 h2
        rw [← HQ.out]
        unfold condsB rightB
        rw [h1, h2, decide_eq_true hl3]; rfl)
      have hd : decide (k < l.length) = false := by simpa using hlt
      go_wp2
      go_ret
      exact ⟨ret_bool HD.out.symm, hW⟩
end Go.Proofs.YtejgofhpjkebbaaDoor
