/- The model's words on conds: which are right, which hold for a row; nothing that lay has turned. -/
import Derived.Test.YtejgofhpjkebbaaDoorCndL
import Derived.Test.YtejgofhpjkebbaaDoorQuietB
namespace Go.Proofs.YtejgofhpjkebbaaDoor
open Go.RowKit

theorem condB_p {c : Cnd} (h : inB c.p 0 5 = false) : condB c = false := by unfold condB; rw [h]; rfl
theorem condB_o {c : Cnd} (h : inB c.o 1 3 = false) : condB c = false := by unfold condB; rw [h, Bool.and_false]; rfl
theorem condB_t {c : Cnd} (h1 : inB c.p 0 5 = true) (h2 : inB c.o 1 3 = true) : condB c = if c.i = true then inB c.t (-1000) 1000 else inB c.t 0 5 := by unfold condB; rw [h1, h2]; rfl

set_option maxRecDepth 100000 in
set_option maxHeartbeats 2000000 in
theorem l7Cond_any (p o t : Int) (i : Bool) (w : World) :
    Calls Tryd.prog 63 #[.agg #[.int .i64 p, .int .i64 o, .int .i64 t, .bool i]] w fun e w' => e = .returned (.bool (condB ⟨p, o, t, i⟩)) ∧ Below w.heap.size w w' := by
  have bc := (Below.refl w.heap.size w).alloc (Nat.le_refl _) (.cells #[.int .i64 p, .int .i64 o, .int .i64 t, .bool i] 86)
  obtain ⟨c0, c1, c2, c3⟩ := (Blk.new w 86 #[.int .i64 p, .int .i64 o, .int .i64 t, .bool i]).c4
  obtain ⟨R, hR⟩ : ∃ R, condB ⟨p, o, t, i⟩ = R := ⟨_, rfl⟩
  have HQ := Lib.hid hR
  rw [hR]
  clear hR
  go_enter Tryd.func63, Tryd.ntmps63
  go_wp2_with fail
  generalize w.alloc (.cells #[.int .i64 p, .int .i64 o, .int .i64 t, .bool i] 86) = wb at *
  refine (l1In_any p 0 5 wb).mono ?_
  rintro e w1 ⟨rfl, rfl⟩
  cases hp : inB p 0 5 with
  | false =>
    have HD := Lib.hid (show R = false by rw [← HQ.out]; exact condB_p hp)
    clear hp
    go_wp2
    go_ret
    exact ⟨ret_bool HD.out.symm, bc⟩
  | true =>
    have HP := Lib.hid hp
    clear hp
    go_wp2_with fail
    refine (l1In_any o 1 3 wb).mono ?_
    rintro e w1 ⟨rfl, rfl⟩
    cases ho : inB o 1 3 with
    | false =>
      have HD := Lib.hid (show R = false by rw [← HQ.out]; exact condB_o ho)
      clear ho
      go_wp2
      go_ret
      exact ⟨ret_bool HD.out.symm, bc⟩
    | true =>
      have HD := Lib.hid (show R = if i = true then inB t (-1000) 1000 else inB t 0 5 by rw [← HQ.out]; exact condB_t HP.out ho)
      clear ho
      cases i
      · go_wp2_with fail
        refine (l1In_any t 0 5 wb).mono ?_
        rintro e w1 ⟨rfl, rfl⟩
        generalize hx : inB t 0 5 = x at *
        have HX := Lib.hid hx
        clear hx
        go_wp2
        go_ret
        exact ⟨ret_bool (by rw [HD.out, ← HX.out]; rfl), bc⟩
      · go_wp2_with fail
        refine (l1In_any t (-1000) 1000 wb).mono ?_
        rintro e w1 ⟨rfl, rfl⟩
        generalize hx : inB t (-1000) 1000 = x at *
        have HX := Lib.hid hx
        clear hx
        go_wp2
        go_ret
        exact ⟨ret_bool (by rw [HD.out, ← HX.out]; rfl), bc⟩

set_option maxRecDepth 100000 in
set_option maxHeartbeats 2000000 in
theorem l7Right_any (A : Option Addr) (c : Nat) (l : List Cnd) (w : World) (hC : Cnds w w.heap.size A l) (hl : l.length ≤ 1099511627776) :
    Calls Tryd.prog 50 #[.slice A l.length c] w fun e w' => e = .returned (.bool (rightB l)) ∧ Below w.heap.size w w' := by
  go_enter Tryd.func50, Tryd.ntmps50
  go_wp2
  go_loopw [3] (fun i wr => ∃ k : Nat, k ≤ l.length ∧ i = .int .i64 k ∧ (l.take k).all condB = true ∧ Below w.heap.size w wr) (fun i _ => l.length - (intOf i).toNat)
  case atStart => exact ⟨0, Nat.zero_le _, rfl, by simp, Below.refl _ _⟩
  case round =>
    obtain ⟨k, hk, rfl, ht, hW⟩ := hrel
    have HT := Lib.hid ht
    clear ht
    by_cases hlt : k < l.length
    · have hCr := hC.on hW
      obtain ⟨b, off, rfl, _, h0, h1, h2, h3⟩ := hCr.here hlt
      clear hC hCr
      go_wp2_with fail
      refine (l7Cond_any (cx l k).p (cx l k).o (cx l k).t (cx l k).i wr).mono ?_
      rintro e w1 ⟨rfl, hb1⟩
      rw [cnd_eta]
      have hW1 := bel_step hW hb1
      clear h0 h1 h2 h3 hW hb1
      cases hc : condB (cx l k) with
      | false =>
        have HF := Lib.hid (rightB_stop hlt hc)
        clear hc
        go_wp2
        go_ret
        exact ⟨ret_bool HF.out.symm, hW1⟩
      | true =>
        have HS := Lib.hid (show (l.take (k + 1)).all condB = true by rw [all_snocC _ _ _ hlt, HT.out, hc]; rfl)
        clear hc
        go_wp2
        go_roundw
        case rel => exact ⟨k + 1, by omega, by go_num, HS.out, hW1⟩
        case measure => simp [intOf]; omega
    · have HR := Lib.hid (show rightB l = decide (l.length ≤ 3) by
        have := HT.out
        rw [List.take_of_length_le (by omega)] at this
        unfold rightB; rw [this]; rfl)
      have hd : decide (k < l.length) = false := by simpa using hlt
      go_wp2
      go_ret
      exact ⟨ret_bool (by rw [HR.out]; exact decide_eq_decide.2 (by omega)), hW⟩

theorem fitC_p {wd : Int} {c : Cnd} (h : wd ≤ c.p) : fitC wd c = false := by unfold fitC; rw [decide_eq_false (by omega)]; rfl
theorem fitC_i {wd : Int} {c : Cnd} (h : ¬ wd ≤ c.p) (h2 : c.i = true) : fitC wd c = true := by unfold fitC; rw [decide_eq_true (by omega), h2]; rfl
theorem fitC_t {wd : Int} {c : Cnd} (h : ¬ wd ≤ c.p) (h2 : c.i = false) : fitC wd c = decide (c.t < wd) := by unfold fitC; rw [decide_eq_true (by omega), h2]; rfl

set_option maxRecDepth 100000 in
set_option maxHeartbeats 2000000 in
theorem specCondsOk_any (A : Option Addr) (c : Nat) (l : List Cnd) (wd : Int) (w : World) (hC : Cnds w w.heap.size A l) (hl : l.length ≤ 1099511627776) :
    Calls Tryd.prog 52 #[.slice A l.length c, .int .i64 wd] w fun e w' => e = .returned (.bool (condsB l wd)) ∧ Below w.heap.size w w' := by
  go_enter Tryd.func52, Tryd.ntmps52
  go_wp2
  go_loopw [5] (fun i wr => ∃ k : Nat, k ≤ l.length ∧ i = .int .i64 k ∧ (l.take k).all (fitC wd) = true ∧ Below w.heap.size w wr) (fun i _ => l.length - (intOf i).toNat)
  case atStart => exact ⟨0, Nat.zero_le _, rfl, by simp, Below.refl _ _⟩
  case round =>
    obtain ⟨k, hk, rfl, ht, hW⟩ := hrel
    have HT := Lib.hid ht
    clear ht
    have hCr := hC.on hW
    by_cases hlt : k < l.length
    · obtain ⟨b, off, rfl, _, h0, h1, h2, h3⟩ := hCr.here hlt
      clear hC hCr
      by_cases hp : wd ≤ (cx l k).p
      · have HF := Lib.hid (condsB_stop2 hlt (fitC_p hp))
        generalize (cx l k).p = p at *
        go_wp2
        go_ret
        exact ⟨ret_bool HF.out.symm, hW⟩
      · have hpd : decide (wd ≤ (cx l k).p) = false := by simpa using hp
        cases hi : (cx l k).i with
        | true =>
          have HS := Lib.hid (show (l.take (k + 1)).all (fitC wd) = true by rw [all_snocC _ _ _ hlt, HT.out, fitC_i hp hi]; rfl)
          rw [hi] at h3
          clear hi hp
          generalize (cx l k).p = p at *
          go_wp2
          go_roundw
          case rel => exact ⟨k + 1, by omega, by go_num, HS.out, hW⟩
          case measure => simp [intOf]; omega
        | false =>
          have HFT := Lib.hid (fitC_t hp hi)
          rw [hi] at h3
          clear hi hp
          by_cases htw : wd ≤ (cx l k).t
          · have HF := Lib.hid (condsB_stop2 (l := l) (wd := wd) hlt (by rw [HFT.out]; exact decide_eq_false (by omega)))
            generalize (cx l k).p = p at *
            generalize (cx l k).t = t at *
            go_wp2
            go_ret
            exact ⟨ret_bool HF.out.symm, hW⟩
          · have htd : decide (wd ≤ (cx l k).t) = false := by simpa using htw
            have HS := Lib.hid (show (l.take (k + 1)).all (fitC wd) = true by rw [all_snocC _ _ _ hlt, HT.out, HFT.out, decide_eq_true (by omega)]; rfl)
            clear htw HFT
            generalize (cx l k).p = p at *
            generalize (cx l k).t = t at *
            go_wp2
            go_roundw
            case rel => exact ⟨k + 1, by omega, by go_num, HS.out, hW⟩
            case measure => simp [intOf]; omega
    · have HR := Lib.hid (show condsB l wd = rightB l by
        have := HT.out
        rw [List.take_of_length_le (by omega)] at this
        unfold condsB; rw [this, Bool.and_true])
      have hd : decide (k < l.length) = false := by simpa using hlt
      go_wp2_with fail
      refine (l7Right_any A c l wr hCr hl).mono ?_
      rintro e w1 ⟨rfl, hb1⟩
      generalize hx : rightB l = x at *
      have HX := Lib.hid hx
      have hW1 := bel_step hW hb1
      clear hx
      go_wp2
      go_ret
      exact ⟨ret_bool (by rw [HR.out]), hW1⟩
end Go.Proofs.YtejgofhpjkebbaaDoor
