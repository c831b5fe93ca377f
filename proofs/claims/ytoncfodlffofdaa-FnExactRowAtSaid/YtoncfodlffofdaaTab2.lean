/- Contracts of the model's TableOk and l4Find: what the call returns; nothing that lay has turned. -/
import Derived.Test.YtoncfodlffofdaaTab1
namespace Go.Proofs.Ytoncfodlffofdaa
open Go.RowKit

/-- A right table. -/
def tabB (s : ByteArray) (wd : Int) (rows : List (List Int)) : Bool := nameB s && rowsOkB wd rows
def prevK (rows : List (List Int)) : Nat → Option Int
  | 0 => none
  | k + 1 => some (ky (rr rows k))
theorem rows_drop {rows : List (List Int)} {k : Nat} (h : k < rows.length) : rows.drop k = rr rows k :: rows.drop (k + 1) := by
  rw [rr_eq h]; exact List.drop_eq_getElem_cons h
theorem tFrom_step {wd : Int} {rows : List (List Int)} {k : Nat} (h : k < rows.length) : tFrom wd (prevK rows k) (rows.drop k) = (rowFit wd (rr rows k) && (match prevK rows k with | none => true | some q => decide (q < ky (rr rows k))) && tFrom wd (prevK rows (k + 1)) (rows.drop (k + 1))) := by
  rw [rows_drop h]; rfl
/-- The first number of a row that has one. -/
theorem Ints.first {w : World} {B : Nat} {A : Option Addr} {zs : List Int} (h : Ints w B A zs) (h0 : 0 < zs.length) : ∃ b off, A = some ⟨b, off, none⟩ ∧ b < B ∧ w.cell? ⟨b, off, none⟩ = some (.int .i64 (ky zs)) := by
  obtain ⟨b, off, e, hb, hc⟩ := h h0
  exact ⟨b, off, e, hb, by simpa [ky] using hc 0 h0⟩
theorem fit_pos {wd : Int} {r : List Int} (h : rowFit wd r = true) (hw : inB wd 1 4 = true) : 0 < r.length := by
  have := fit_len h
  unfold inB at hw
  rw [Bool.and_eq_true, decide_eq_true_eq] at hw
  omega
set_option maxRecDepth 100000 in
set_option maxHeartbeats 4000000 in
theorem specTableOk_any (s : ByteArray) (wd : Int) (A : Option Addr) (c : Nat) (rows : List (List Int)) (w : World) (hR : Rws w w.heap.size A rows) (hs : s.size ≤ 1099511627776) (hl : rows.length ≤ 1099511627776) :
    Calls Try.prog 62 #[.agg #[.string s, .int .i64 wd, .slice A rows.length c]] w fun e w' => e = .returned (.bool (tabB s wd rows)) ∧ Below w.heap.size w w' := by
  have bc := (Below.refl w.heap.size w).alloc (Nat.le_refl _) (.cells #[.string s, .int .i64 wd, .slice A rows.length c] 44)
  have BC := Blk.new w 44 #[.string s, .int .i64 wd, .slice A rows.length c]
  have hRb := hR.below bc
  go_enter Try.func62, Try.ntmps62
  go_wp2_with fail
  have d1 := BC.cell 1
  have d2 := BC.cell 2
  simp only [List.getElem?_toArray, List.getElem?_cons_zero, List.getElem?_cons_succ] at d1 d2
  clear BC hR
  generalize w.alloc (.cells #[.string s, .int .i64 wd, .slice A rows.length c] 44) = wb at *
  generalize hG : w.heap.size = G at *
  have HG := Lib.hid hG
  clear hG
  refine (l4Name_any s wb hs).mono ?_
  rintro e w1 ⟨rfl, rfl⟩
  cases hn : nameB s with
  | false =>
    have HF := Lib.hid (show tabB s wd rows = false by unfold tabB; rw [hn]; rfl)
    clear hn
    go_wp2
    go_ret
    exact ⟨by rw [HF.out]; rfl, by rw [HG.out]; exact bc⟩
  | true =>
    have HT := Lib.hid (show tabB s wd rows = rowsOkB wd rows by unfold tabB; rw [hn]; rfl)
    clear hn
    go_wp2_with fail
    refine (l1In_any wd 1 4 wb).mono ?_
    rintro e w1 ⟨rfl, rfl⟩
    cases hw : inB wd 1 4 with
    | false =>
      have HF := Lib.hid (show tabB s wd rows = false by rw [HT.out]; unfold rowsOkB; rw [hw]; rfl)
      clear hw
      go_wp2
      go_ret
      exact ⟨by rw [HF.out]; rfl, by rw [HG.out]; exact bc⟩
    | true =>
      have HW := Lib.hid hw
      clear hw
      by_cases hm : 30 < rows.length
      · have HF := Lib.hid (show tabB s wd rows = false by rw [HT.out]; unfold rowsOkB; rw [decide_eq_false (p := rows.length ≤ 30) (by omega)]; simp)
        go_wp2
        go_ret
        exact ⟨by rw [HF.out]; rfl, by rw [HG.out]; exact bc⟩
      · have hdm : decide (30 < rows.length) = false := by simpa using hm
        have HR := Lib.hid (show tabB s wd rows = tFrom wd none rows by rw [HT.out]; unfold rowsOkB; rw [HW.out, decide_eq_true (by omega)]; rfl)
        clear HT
        go_wp2
        go_loopw [3] (fun i wr => ∃ k : Nat, k ≤ rows.length ∧ i = .int .i64 k ∧ tFrom wd none rows = tFrom wd (prevK rows k) (rows.drop k) ∧ (∀ j, j < k → rowFit wd (rr rows j) = true) ∧ ∃ n, wr = wb.drewN n) (fun i _ => rows.length - (intOf i).toNat)
        case atStart => exact ⟨0, Nat.zero_le _, rfl, rfl, (fun j hj => absurd hj (by omega)), 0, rfl⟩
        case round =>
          obtain ⟨k, hk, rfl, ht, hfit, hWn⟩ := hrel
          have e1 : wr.cell? ⟨G, 1, none⟩ = some (.int .i64 wd) := by obtain ⟨n, rfl⟩ := hWn; exact d1
          have e2 : wr.cell? ⟨G, 2, none⟩ = some (.slice A rows.length c) := by obtain ⟨n, rfl⟩ := hWn; exact d2
          have hRr : Rws wr G A rows := by obtain ⟨n, rfl⟩ := hWn; exact hRb
          have hbr : Below G w wr := by obtain ⟨n, rfl⟩ := hWn; exact bel_drewN bc n
          have HWn := Lib.hid hWn
          have HTf := Lib.hid ht
          have HFit := Lib.hid hfit
          clear ht hfit hWn d1 d2 hRb hdm
          by_cases hlt : k < rows.length
          · obtain ⟨b, off, rfl, hb, hc⟩ := hRr (by omega)
            obtain ⟨Ar, cap, h1, h2, h3⟩ := hc k hlt
            have HC := Lib.hid hc
            clear hc
            cases hf : rowFit wd (rr rows k) with
            | false =>
              have HF := Lib.hid (show tabB s wd rows = false by rw [HR.out, HTf.out, tFrom_step hlt, hf]; rfl)
              have HI := Lib.hid hf
              clear hf
              go_wp2_with fail
              go_quiet (first | (go_at_call 127; exact Calls.quiet_of_same ((l4Row_no Ar cap (rr rows k) wd _ G (by exact h2) h3 HI.out).mono fun _ _ h => ⟨h.1, h.2.symm⟩)))
              go_wp2
              go_ret
              exact ⟨by rw [HF.out]; rfl, by rw [HG.out]; exact bel_drewN hbr _⟩
            | true =>
              have HI := Lib.hid hf
              have hp := fit_pos hf HW.out
              obtain ⟨b1, o1, rfl, _, c1⟩ := h2.first hp
              clear hf
              by_cases h0 : 0 < k
              · obtain ⟨k0, hk0⟩ : ∃ k0 : Nat, k = k0 + 1 := ⟨k - 1, by omega⟩
                obtain ⟨Ap, cp, p1, p2, p3⟩ := HC.out k0 (by omega)
                have hpp := fit_pos (HFit.out k0 (by omega)) HW.out
                obtain ⟨b2, o2, rfl, _, c2⟩ := p2.first hpp
                have hwr : IntKind.i64.wrap ((k : Int) - 1) = (k0 : Int) := by rw [IntKind.wrap_i64]; omega
                have hk0l : k0 < rows.length := by omega
                have HPR := Lib.hid (show prevK rows k = some (ky (rr rows k0)) by rw [hk0]; rfl)
                clear hk0
                by_cases hle : ky (rr rows k) ≤ ky (rr rows k0)
                · have HF := Lib.hid (show tabB s wd rows = false by rw [HR.out, HTf.out, tFrom_step hlt, HPR.out]; simp only; rw [decide_eq_false (by omega), Bool.and_false]; rfl)
                  have hd := decide_eq_true hle
                  clear hle
                  go_wp2_with fail
                  go_quiet (first | (go_at_call 127; exact Calls.quiet_of_same ((l4Row_yes (some ⟨b1, o1, none⟩) cap (rr rows k) wd _ G (by exact h2) h3 HI.out).mono fun _ _ h => ⟨h.1, h.2.symm⟩)))
                  go_wp2
                  go_ret
                  exact ⟨by rw [HF.out]; rfl, by rw [HG.out]; exact bel_drewN hbr _⟩
                · have HS := Lib.hid (show tFrom wd none rows = tFrom wd (prevK rows (k + 1)) (rows.drop (k + 1)) by rw [HTf.out, tFrom_step hlt, HPR.out, HI.out]; simp only; rw [decide_eq_true (by omega)]; rfl)
                  have hd := decide_eq_false hle
                  clear hle
                  go_wp2_with fail
                  go_quiet (first | (go_at_call 127; exact Calls.quiet_of_same ((l4Row_yes (some ⟨b1, o1, none⟩) cap (rr rows k) wd _ G (by exact h2) h3 HI.out).mono fun _ _ h => ⟨h.1, h.2.symm⟩)))
                  go_wp2
                  go_roundw
                  case rel => exact ⟨k + 1, by omega, by go_num, HS.out, (fun j hj => by
                    by_cases e : j = k
                    · rw [e]; exact HI.out
                    · exact HFit.out j (by omega)), drew_more HWn.out _⟩
                  case measure => simp [intOf]; omega
              · have hd0 : decide (0 < k) = false := by simpa using h0
                have HS := Lib.hid (show tFrom wd none rows = tFrom wd (prevK rows (k + 1)) (rows.drop (k + 1)) by
                  have e0 : prevK rows k = none := by rw [show k = 0 by omega]; rfl
                  rw [HTf.out, tFrom_step hlt, e0, HI.out]; rfl)
                have H0 := Lib.hid h0
                clear h0
                go_wp2_with fail
                go_quiet (first | (go_at_call 127; exact Calls.quiet_of_same ((l4Row_yes (some ⟨b1, o1, none⟩) cap (rr rows k) wd _ G (by exact h2) h3 HI.out).mono fun _ _ h => ⟨h.1, h.2.symm⟩)))
                go_wp2
                go_roundw
                case rel => exact ⟨k + 1, by omega, by go_num, HS.out, (fun j hj => by
                  by_cases e : j = k
                  · rw [e]; exact HI.out
                  · exact HFit.out j (by omega)), drew_more HWn.out _⟩
                case measure => simp [intOf]; omega
          · have hd : decide (k < rows.length) = false := by simpa using hlt
            have HF := Lib.hid (show tabB s wd rows = true by
              rw [HR.out, HTf.out, List.drop_of_length_le (by omega)]
              cases prevK rows k <;> rfl)
            go_wp2
            go_ret
            exact ⟨by rw [HF.out]; rfl, by rw [HG.out]; exact hbr⟩
/-- At which place; -1 where there is none. -/
def findK (rows : List (List Int)) (k : Int) : Int := if idxK rows k < rows.length then (idxK rows k : Int) else -1
theorem idx_yes {rows : List (List Int)} {k : Nat} {q : Int} (h : k < rows.length) (e : ky (rr rows k) = q) : idxK (rows.drop k) q = 0 := by rw [rows_drop h, idxK, if_pos e]
theorem idx_no {rows : List (List Int)} {k : Nat} {q : Int} (h : k < rows.length) (e : ¬ ky (rr rows k) = q) : idxK (rows.drop k) q = idxK (rows.drop (k + 1)) q + 1 := by rw [rows_drop h, idxK, if_neg e]
set_option maxRecDepth 100000 in
set_option maxHeartbeats 4000000 in
theorem l4Find_any (s : ByteArray) (wd : Int) (A : Option Addr) (c : Nat) (rows : List (List Int)) (q : Int) (w : World) (hR : Rws w w.heap.size A rows) (hl : rows.length ≤ 1099511627776) (hp : ∀ j, j < rows.length → 0 < (rr rows j).length) :
    Calls Try.prog 128 #[.agg #[.string s, .int .i64 wd, .slice A rows.length c], .int .i64 q] w fun e w' => e = .returned (.int .i64 (findK rows q)) ∧ Below w.heap.size w w' := by
  have bc := (Below.refl w.heap.size w).alloc (Nat.le_refl _) (.cells #[.string s, .int .i64 wd, .slice A rows.length c] 44)
  have BC := Blk.new w 44 #[.string s, .int .i64 wd, .slice A rows.length c]
  have hRb := hR.below bc
  have HP := Lib.hid hp
  clear hp
  go_enter Try.func128, Try.ntmps128
  go_wp2
  have d2 := BC.cell 2
  simp only [List.getElem?_toArray, List.getElem?_cons_zero, List.getElem?_cons_succ] at d2
  clear BC hR
  generalize w.alloc (.cells #[.string s, .int .i64 wd, .slice A rows.length c] 44) = wb at *
  generalize hG : w.heap.size = G at *
  have HG := Lib.hid hG
  clear hG
  go_loop [5] (fun i => ∃ k : Nat, k ≤ rows.length ∧ i = .int .i64 k ∧ idxK rows q = k + idxK (rows.drop k) q) (fun i => rows.length - (intOf i).toNat)
  case atStart => exact ⟨0, Nat.zero_le _, rfl, by simp⟩
  case round =>
    obtain ⟨k, hk, rfl, ht⟩ := hrel
    have HT := Lib.hid ht
    clear ht
    by_cases hlt : k < rows.length
    · obtain ⟨b, off, rfl, hb, hc⟩ := hRb (by omega)
      obtain ⟨Ar, cap, h1, h2, h3⟩ := hc k hlt
      obtain ⟨b1, o1, rfl, _, c1⟩ := h2.first (HP.out k hlt)
      have hpos := HP.out k hlt
      clear hc
      by_cases he : ky (rr rows k) = q
      · have HF := Lib.hid (show findK rows q = (k : Int) by unfold findK; rw [HT.out, idx_yes hlt he, if_pos (by omega)]; rfl)
        have hd : (ky (rr rows k) == q) = true := beq_iff_eq.2 he
        clear he
        go_wp2
        go_ret
        exact ⟨by rw [HF.out]; rfl, by rw [HG.out]; exact bc⟩
      · have HS := Lib.hid (show idxK rows q = (k + 1 : Nat) + idxK (rows.drop (k + 1)) q by rw [HT.out, idx_no hlt he]; omega)
        have hd : (ky (rr rows k) == q) = false := beq_eq_false_iff_ne.2 he
        clear he
        go_wp2
        go_round
        case rel => exact ⟨k + 1, by omega, by go_num, HS.out⟩
        case measure => simp [intOf]; omega
    · have hd : decide (k < rows.length) = false := by simpa using hlt
      have HF := Lib.hid (show findK rows q = -1 by
        unfold findK
        rw [HT.out, List.drop_of_length_le (by omega), if_neg (by simp [idxK]; omega)])
      go_wp2
      go_ret
      exact ⟨by rw [HF.out]; rfl, by rw [HG.out]; exact bc⟩
end Go.Proofs.Ytoncfodlffofdaa
