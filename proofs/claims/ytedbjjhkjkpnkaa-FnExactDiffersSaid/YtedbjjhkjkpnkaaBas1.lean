/- Contracts of BaseOk, the model's and the program's, and of the laws' copies, comparisons and sizes of bases; nothing that lay has turned. -/
import Derived.Test.YtedbjjhkjkpnkaaBasThy
import Derived.Test.YtedbjjhkjkpnkaaJC
import Derived.Test.YtedbjjhkjkpnkaaQuietB
import Derived.StillTailTactics
import Derived.Laws.Cover1
namespace Go.Proofs.Ytedbjjhkjkpnkaa
open Go.RowKit

set_option maxRecDepth 100000 in
set_option maxHeartbeats 4000000 in
theorem specBaseOk_any (A : Option Addr) (c : Nat) (ts : List TB) (w : World) (hT : Tabs w w.heap.size A ts) (hf : fitT 1048576 ts) (hl : ts.length ≤ 1048576) :
    Calls Try.prog 48 #[.slice A ts.length c] w fun e w' => e = .returned (.bool (baseB ts)) ∧ Below w.heap.size w w' := by
  have HFT := Lib.hid hf
  clear hf
  go_enter Try.func48, Try.ntmps48
  go_wp2
  go_loopw [3] (fun i wr => ∃ k : Nat, k ≤ ts.length ∧ i = .int .i64 k ∧ (List.range k).all (okAt ts) = true ∧ Below w.heap.size w wr) (fun i _ => ts.length - (intOf i).toNat)
  case atStart => exact ⟨0, Nat.zero_le _, rfl, rfl, Below.refl _ _⟩
  case round =>
    obtain ⟨k, hk, rfl, ht, hW⟩ := hrel
    have HT := Lib.hid ht
    have hTr := hT.on hW
    clear ht hT
    by_cases hlt : k < ts.length
    · obtain ⟨b, off, Ar, cr, rfl, hb, c0, c1, c2, hR⟩ := hTr.here hlt
      obtain ⟨f1, f2, _⟩ := HFT.out k hlt
      cases hok : (tx ts k).ok with
      | false =>
        have HF := Lib.hid (base_no hlt (okAt_tab hok))
        have HC := Lib.hid (show ∀ W, Rws W W.heap.size Ar (tx ts k).rows → Calls Try.prog 32 #[.agg #[.string (tx ts k).n, .int .i64 (tx ts k).wd, .slice Ar (tx ts k).rows.length cr]] W fun e w' => e = .returned (.bool false) ∧ Below W.heap.size W w' from fun W h => by rw [← hok]; exact specTableOk_any _ _ Ar cr _ W h (by omega) (by omega))
        clear hok f1 f2 hTr HT
        have HX := Lib.hid (And.intro c0 (And.intro c1 c2))
        go_wp2_with fail
        have d0 := cell_bel hb HX.out.1
        have d1 := cell_bel hb HX.out.2.1
        have d2 := cell_bel hb HX.out.2.2
        have HRb := Lib.hid (show ∀ p : BelW wr, Rws p.v p.v.heap.size Ar (tx ts k).rows from fun p => hR.on p.bel)
        clear c0 c1 c2 hR
        refine wp_quiet_bel (by kernel_rfl) (by kernel_rfl) ?_
        repeat (go_big_quiet_step (first | (go_at_call 32; exact bel_of (HC.out _ (HRb.out _)))))
        refine wpQuiet_nil ?_
        rintro _ ⟨⟨w1, hk1⟩, rfl⟩
        clear d0 d1 d2 HRb
        go_wp2
        go_ret
        exact ⟨by rw [HF.out]; rfl, bel_step hW hk1⟩
      | true =>
        have HC := Lib.hid (show ∀ W, Rws W W.heap.size Ar (tx ts k).rows → Calls Try.prog 32 #[.agg #[.string (tx ts k).n, .int .i64 (tx ts k).wd, .slice Ar (tx ts k).rows.length cr]] W fun e w' => e = .returned (.bool true) ∧ Below W.heap.size W w' from fun W h => by rw [← hok]; exact specTableOk_any _ _ Ar cr _ W h (by omega) (by omega))
        have HOK := Lib.hid hok
        clear hok f1 f2
        by_cases h0 : 0 < k
        · obtain ⟨k0, hk0⟩ : ∃ k0 : Nat, k = k0 + 1 := ⟨k - 1, by omega⟩
          obtain ⟨b', off', Ap, cp, e1, _, p0, _⟩ := hTr.here (j := k0) (by omega)
          injection e1 with e1
          injection e1 with e1 e2 _
          subst e1 e2
          have hwr : IntKind.i64.wrap ((k : Int) - 1) = (k0 : Int) := by rw [IntKind.wrap_i64]; omega
          have hk0l : k0 < ts.length := by omega
          have HSt := Lib.hid (show okAt ts k = nlt (tx ts k0).n (tx ts k).n by unfold okAt; rw [HOK.out, decide_eq_false (by omega), show k - 1 = k0 by omega]; simp)
          have HX := Lib.hid (And.intro (And.intro c0 (And.intro c1 c2)) p0)
          have hcm := le_nlt (tx ts k).n (tx ts k0).n
          clear hk0 hTr
          cases hn : nlt (tx ts k0).n (tx ts k).n with
          | false =>
            rw [hn] at hcm
            have HF := Lib.hid (base_no hlt (HSt.out.trans hn))
            clear hn HSt
            go_wp2_with fail
            have d0 := cell_bel hb HX.out.1.1
            have d1 := cell_bel hb HX.out.1.2.1
            have d2 := cell_bel hb HX.out.1.2.2
            have d3 := cell_bel hb HX.out.2
            have HRb := Lib.hid (show ∀ p : BelW wr, Rws p.v p.v.heap.size Ar (tx ts k).rows from fun p => hR.on p.bel)
            clear c0 c1 c2 hR p0
            refine wp_quiet_bel (by kernel_rfl) (by kernel_rfl) ?_
            repeat (go_big_quiet_step (first | (go_at_call 32; exact bel_of (HC.out _ (HRb.out _)))))
            refine wpQuiet_nil ?_
            rintro _ ⟨⟨w1, hk1⟩, rfl⟩
            clear d0 d1 d2 d3 HRb
            go_wp2
            go_ret
            exact ⟨by rw [HF.out]; rfl, bel_step hW hk1⟩
          | true =>
            rw [hn] at hcm
            have HS := Lib.hid (show (List.range (k + 1)).all (okAt ts) = true by rw [okTo_succ, HT.out, HSt.out, hn]; rfl)
            clear hn HSt HT
            go_wp2_with fail
            have d0 := cell_bel hb HX.out.1.1
            have d1 := cell_bel hb HX.out.1.2.1
            have d2 := cell_bel hb HX.out.1.2.2
            have d3 := cell_bel hb HX.out.2
            have HRb := Lib.hid (show ∀ p : BelW wr, Rws p.v p.v.heap.size Ar (tx ts k).rows from fun p => hR.on p.bel)
            clear c0 c1 c2 hR p0
            refine wp_quiet_bel (by kernel_rfl) (by kernel_rfl) ?_
            repeat (go_big_quiet_step (first | (go_at_call 32; exact bel_of (HC.out _ (HRb.out _)))))
            refine wpQuiet_nil ?_
            rintro _ ⟨⟨w1, hk1⟩, rfl⟩
            clear d0 d1 d2 d3 HRb
            go_wp2
            go_roundw
            case rel => exact ⟨k + 1, by omega, by go_num, HS.out, bel_step hW hk1⟩
            case measure => simp [intOf]; omega
        · have hd0 : decide (0 < k) = false := by simpa using h0
          have HS := Lib.hid (show (List.range (k + 1)).all (okAt ts) = true by
            rw [okTo_succ, HT.out]
            unfold okAt
            rw [HOK.out, decide_eq_true (p := k = 0) (by omega)]; rfl)
          have HX := Lib.hid (And.intro c0 (And.intro c1 c2))
          clear h0 HT hTr
          go_wp2_with fail
          have d0 := cell_bel hb HX.out.1
          have d1 := cell_bel hb HX.out.2.1
          have d2 := cell_bel hb HX.out.2.2
          have HRb := Lib.hid (show ∀ p : BelW wr, Rws p.v p.v.heap.size Ar (tx ts k).rows from fun p => hR.on p.bel)
          clear c0 c1 c2 hR
          refine wp_quiet_bel (by kernel_rfl) (by kernel_rfl) ?_
          repeat (go_big_quiet_step (first | (go_at_call 32; exact bel_of (HC.out _ (HRb.out _)))))
          refine wpQuiet_nil ?_
          rintro _ ⟨⟨w1, hk1⟩, rfl⟩
          clear d0 d1 d2 HRb
          go_wp2
          go_roundw
          case rel => exact ⟨k + 1, by omega, by go_num, HS.out, bel_step hW hk1⟩
          case measure => simp [intOf]; omega
    · have hd : decide (k < ts.length) = false := by simpa using hlt
      have HS := Lib.hid (show baseB ts = decide (ts.length ≤ 4) by
        have := HT.out
        rw [show k = ts.length by omega] at this
        unfold baseB
        rw [this, Bool.true_and])
      have HD := Lib.hid (show decide ((ts.length : Int) ≤ 4) = baseB ts by
        rw [HS.out]
        by_cases h4 : ts.length ≤ 4
        · rw [decide_eq_true h4, decide_eq_true (by omega)]
        · rw [decide_eq_false h4, decide_eq_false (by omega)])
      go_wp2
      go_ret
      exact ⟨by rw [← HD.out]; rfl, hW⟩
end Go.Proofs.Ytedbjjhkjkpnkaa
