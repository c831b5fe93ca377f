/- What holds for a row: the model's Holds; nothing that lay has turned. -/
import Derived.Test.YtdpokfjempdchaaGreatDoorCndS
import Derived.Test.YtdpokfjempdchaaGreatDoorJA
namespace Go.Proofs.YtdpokfjempdchaaGreatDoor
open Go.RowKit

theorem holdsB_conds {l : List Cnd} {row : List Int} (h : condsB l row.length = false) : holdsB l row = false := by unfold holdsB; rw [h]; rfl
theorem holdsB_row {l : List Cnd} {row : List Int} (h : rowOkB row = false) : holdsB l row = false := by unfold holdsB; rw [h]; simp
theorem holdsB_is {l : List Cnd} {row : List Int} (h : condsB l row.length = true) (h2 : rowOkB row = true) : holdsB l row = l.all (holdC row) := by unfold holdsB; rw [h, h2]; rfl
theorem holdC_is {row : List Int} {c : Cnd} {pn : Nat} (hp : c.p = pn) : holdC row c = opH c.o (ix row pn) (otherC row c) := by unfold holdC; rw [hp]; rfl
theorem other_i {row : List Int} {c : Cnd} (h : c.i = true) : otherC row c = c.t := by unfold otherC; rw [if_pos h]
theorem other_t {row : List Int} {c : Cnd} {tn : Nat} (h : c.i = false) (ht : c.t = tn) : otherC row c = ix row tn := by unfold otherC; rw [if_neg (by rw [h]; simp), ht]; rfl
/-- What the conds say of the cond at place k, for a row that they are right for. -/
theorem cond_at {l : List Cnd} {wd : Int} (h : condsB l wd = true) {k : Nat} (hk : k < l.length) : (0 ≤ (cx l k).p ∧ (cx l k).p < wd) ∧ (1 ≤ (cx l k).o ∧ (cx l k).o ≤ 3) ∧ ((cx l k).i = true ∨ ((cx l k).i = false ∧ 0 ≤ (cx l k).t ∧ (cx l k).t < wd)) := by
  obtain ⟨⟨h1, _⟩, h2⟩ := condsB_iff.1 h
  obtain ⟨hp, ho, ht⟩ := condB_iff.1 (h1 _ (cx_mem hk))
  obtain ⟨f1, f2⟩ := fitC_iff.1 (h2 _ (cx_mem hk))
  refine ⟨⟨hp.1, f1⟩, ho, ?_⟩
  rcases ht with ht | ht
  · exact .inl ht.1
  · right
    refine ⟨ht.1, ht.2.1, ?_⟩
    rcases f2 with f2 | f2
    · rw [ht.1] at f2; cases f2
    · exact f2

set_option maxRecDepth 100000 in
set_option maxHeartbeats 8000000 in
theorem specHolds_any (A A' : Option Addr) (c c' : Nat) (l : List Cnd) (row : List Int) (w : World) (hC : Cnds w w.heap.size A l) (hI : Ints w w.heap.size A' row) (hl : l.length ≤ 1099511627776) (hl' : row.length ≤ 1099511627776) :
    Calls Tryz.prog 17 #[.slice A l.length c, .slice A' row.length c'] w fun e w' => e = .returned (.bool (holdsB l row)) ∧ Below w.heap.size w w' := by
  obtain ⟨R, hR⟩ : ∃ R, holdsB l row = R := ⟨_, rfl⟩
  have HQ := Lib.hid hR
  rw [hR]
  clear hR
  go_enter Tryz.func17, Tryz.ntmps17
  go_wp2_with fail
  refine (specCondsOk_any A c l row.length w hC hl).mono ?_
  rintro e w1 ⟨rfl, hb1⟩
  cases hcd : condsB l row.length with
  | false =>
    have HD := Lib.hid (show R = false by rw [← HQ.out]; exact holdsB_conds hcd)
    clear hcd
    go_wp2
    go_ret
    exact ⟨ret_bool HD.out.symm, hb1⟩
  | true =>
    have HCD := Lib.hid hcd
    clear hcd
    have hI1 := hI.on hb1
    have hC1 := hC.on hb1
    clear hI hC
    go_wp2_with fail
    refine (specRowOk_any A' c' row w1 _ hI1 hl').mono ?_
    rintro e w2 ⟨rfl, hw2⟩
    cases hw2
    cases hr : rowOkB row with
    | false =>
      have HD := Lib.hid (show R = false by rw [← HQ.out]; exact holdsB_row hr)
      clear hr
      go_wp2
      go_ret
      exact ⟨ret_bool HD.out.symm, hb1⟩
    | true =>
      have HA := Lib.hid (show R = l.all (holdC row) by rw [← HQ.out]; exact holdsB_is HCD.out hr)
      clear hr
      go_wp2
      go_loopw [5] (fun i wr => ∃ k : Nat, k ≤ l.length ∧ i = .int .i64 k ∧ (l.take k).all (holdC row) = true ∧ Below w.heap.size w wr ∧ Cnds wr wr.heap.size A l ∧ Ints wr wr.heap.size A' row) (fun i _ => l.length - (intOf i).toNat)
      case atStart => exact ⟨0, Nat.zero_le _, rfl, by simp, hb1, hC1, hI1⟩
      case round =>
        clear hb1 hC1 hI1
        obtain ⟨k, hk, rfl, ht, hW, hCr, hIr⟩ := hrel
        have HT := Lib.hid ht
        clear ht
        by_cases hlt : k < l.length
        · obtain ⟨⟨hp0, hpw⟩, ⟨ho1, ho3⟩, hti⟩ := cond_at HCD.out hlt
          have HK := Lib.hid (And.intro hCr hIr)
          obtain ⟨b, off, rfl, _, h0, h1, h2, h3⟩ := hCr.here hlt
          obtain ⟨pn, hpn⟩ : ∃ pn : Nat, (cx l k).p = pn := ⟨(cx l k).p.toNat, by omega⟩
          obtain ⟨br, offr, rfl, _, hcr⟩ := hIr (by omega)
          have hx := hcr pn (by omega)
          have HH := Lib.hid (holdC_is (row := row) hpn)
          rw [hpn] at h0
          have hpl : pn < row.length := by omega
          have hpi : (pn : Int) < (row.length : Int) := by omega
          generalize ix row pn = x at *
          rcases hti with hti | ⟨hti, ht0, htw⟩
          · have HY := Lib.hid (other_i (row := row) hti)
            rw [hti] at h3
            clear hti hcr hCr hIr hp0 hpw hpn
            generalize otherC row (cx l k) = y at *
            rw [← HY.out] at h2
            generalize (cx l k).o = o at *
            obtain rfl | rfl | rfl : o = 1 ∨ o = 2 ∨ o = 3 := by omega
            · by_cases hxy : x < y
              · have hd : decide (y ≤ x) = false := by simp; omega
                have HS := Lib.hid (show (l.take (k + 1)).all (holdC row) = true by rw [all_snocC _ _ _ hlt, HT.out, HH.out]; exact decide_eq_true hxy)
                clear hxy
                go_wp2
                go_roundw
                case rel => exact ⟨k + 1, by omega, by go_num, HS.out, hW, HK.out.1, HK.out.2⟩
                case measure => simp [intOf]; omega
              · have hd : decide (y ≤ x) = true := by simp; omega
                have HD := Lib.hid (show R = false by rw [HA.out]; exact all_noC hlt (by rw [HH.out]; exact decide_eq_false hxy))
                clear hxy
                go_wp2
                go_ret
                exact ⟨ret_bool HD.out.symm, hW⟩
            · by_cases hxy : x = y
              · have hd : (x != y) = false := by simp; exact hxy
                have HS := Lib.hid (show (l.take (k + 1)).all (holdC row) = true by rw [all_snocC _ _ _ hlt, HT.out, HH.out]; exact decide_eq_true hxy)
                clear hxy
                go_wp2
                go_roundw
                case rel => exact ⟨k + 1, by omega, by go_num, HS.out, hW, HK.out.1, HK.out.2⟩
                case measure => simp [intOf]; omega
              · have hd : (x != y) = true := by simp; exact hxy
                have HD := Lib.hid (show R = false by rw [HA.out]; exact all_noC hlt (by rw [HH.out]; exact decide_eq_false hxy))
                clear hxy
                go_wp2
                go_ret
                exact ⟨ret_bool HD.out.symm, hW⟩
            · by_cases hxy : y < x
              · have hd : decide (x ≤ y) = false := by simp; omega
                have HS := Lib.hid (show (l.take (k + 1)).all (holdC row) = true by rw [all_snocC _ _ _ hlt, HT.out, HH.out]; exact decide_eq_true hxy)
                clear hxy
                go_wp2
                go_roundw
                case rel => exact ⟨k + 1, by omega, by go_num, HS.out, hW, HK.out.1, HK.out.2⟩
                case measure => simp [intOf]; omega
              · have hd : decide (x ≤ y) = true := by simp; omega
                have HD := Lib.hid (show R = false by rw [HA.out]; exact all_noC hlt (by rw [HH.out]; exact decide_eq_false hxy))
                clear hxy
                go_wp2
                go_ret
                exact ⟨ret_bool HD.out.symm, hW⟩
          · obtain ⟨tn, htn⟩ : ∃ tn : Nat, (cx l k).t = tn := ⟨(cx l k).t.toNat, by omega⟩
            have HY := Lib.hid (other_t (row := row) hti htn)
            have hty := hcr tn (by omega)
            have htl : tn < row.length := by omega
            have hti2 : (tn : Int) < (row.length : Int) := by omega
            rw [hti] at h3
            rw [htn] at h2
            clear hti hcr hCr hIr hp0 hpw hpn ht0 htw htn
            rw [← HY.out] at hty
            generalize otherC row (cx l k) = y at *
            generalize (cx l k).o = o at *
            obtain rfl | rfl | rfl : o = 1 ∨ o = 2 ∨ o = 3 := by omega
            · by_cases hxy : x < y
              · have hd : decide (y ≤ x) = false := by simp; omega
                have HS := Lib.hid (show (l.take (k + 1)).all (holdC row) = true by rw [all_snocC _ _ _ hlt, HT.out, HH.out]; exact decide_eq_true hxy)
                clear hxy
                go_wp2
                go_roundw
                case rel => exact ⟨k + 1, by omega, by go_num, HS.out, hW, HK.out.1, HK.out.2⟩
                case measure => simp [intOf]; omega
              · have hd : decide (y ≤ x) = true := by simp; omega
                have HD := Lib.hid (show R = false by rw [HA.out]; exact all_noC hlt (by rw [HH.out]; exact decide_eq_false hxy))
                clear hxy
                go_wp2
                go_ret
                exact ⟨ret_bool HD.out.symm, hW⟩
            · by_cases hxy : x = y
              · have hd : (x != y) = false := by simp; exact hxy
                have HS := Lib.hid (show (l.take (k + 1)).all (holdC row) = true by rw [all_snocC _ _ _ hlt, HT.out, HH.out]; exact decide_eq_true hxy)
                clear hxy
                go_wp2
                go_roundw
                case rel => exact ⟨k + 1, by omega, by go_num, HS.out, hW, HK.out.1, HK.out.2⟩
                case measure => simp [intOf]; omega
              · have hd : (x != y) = true := by simp; exact hxy
                have HD := Lib.hid (show R = false by rw [HA.out]; exact all_noC hlt (by rw [HH.out]; exact decide_eq_false hxy))
                clear hxy
                go_wp2
                go_ret
                exact ⟨ret_bool HD.out.symm, hW⟩
            · by_cases hxy : y < x
              · have hd : decide (x ≤ y) = false := by simp; omega
                have HS := Lib.hid (show (l.take (k + 1)).all (holdC row) = true by rw [all_snocC _ _ _ hlt, HT.out, HH.out]; exact decide_eq_true hxy)
                clear hxy
                go_wp2
                go_roundw
                case rel => exact ⟨k + 1, by omega, by go_num, HS.out, hW, HK.out.1, HK.out.2⟩
                case measure => simp [intOf]; omega
              · have hd : decide (x ≤ y) = true := by simp; omega
                have HD := Lib.hid (show R = false by rw [HA.out]; exact all_noC hlt (by rw [HH.out]; exact decide_eq_false hxy))
                clear hxy
                go_wp2
                go_ret
                exact ⟨ret_bool HD.out.symm, hW⟩
        · have HD := Lib.hid (show R = true by
            have := HT.out
            rw [List.take_of_length_le (by omega)] at this
            rw [HA.out, this])
          have hd : decide (k < l.length) = false := by simpa using hlt
          go_wp2
          go_ret
          exact ⟨ret_bool HD.out.symm, hW⟩
end Go.Proofs.YtdpokfjempdchaaGreatDoor
