/- The program's shapeOf and DeedOk: what each returns; nothing that lay has turned. -/
import Derived.Test.YtdjoiehknpfigaaGreatDeed2
namespace Go.Proofs.YtdjoiehknpfigaaGreat
open Go.RowKit

set_option maxRecDepth 100000 in
set_option maxHeartbeats 8000000 in
theorem shapeOf_any (k : Int) (s : ByteArray) (A : Option Addr) (c : Nat) (zs : List Int) (w : World) (hI : Ints w w.heap.size A zs) (hs : s.size ≤ 1099511627776) (hl : zs.length ≤ 1099511627776) :
    Calls Tryz.prog 65 #[.agg #[.int .i64 k, .string s, .slice A zs.length c]] w fun e w' => e = .returned (shapeV k s A c zs) ∧ Below w.heap.size w w' := by
  have bc := (Below.refl w.heap.size w).alloc (Nat.le_refl _) (.cells #[.int .i64 k, .string s, .slice A zs.length c] 32)
  have hIb := hI.on bc
  have BD := Blk.new w 32 #[.int .i64 k, .string s, .slice A zs.length c]
  obtain ⟨D0, D1, D2⟩ := BD.c3
  cases hn : nameB s with
  | false =>
    have HF := Lib.hid (shapeV_no (A := A) (c := c) (deedB_name (k := k) (zs := zs) hn))
    have HN := Lib.hid hn
    clear hn
    go_enter Tryz.func65, Tryz.ntmps65
    go_wp2_with fail
    generalize w.alloc (.cells #[.int .i64 k, .string s, .slice A zs.length c] 32) = wb at *
    refine (nameOk_any s wb hs).mono ?_
    rintro e w1 ⟨rfl, rfl⟩
    rw [HN.out]
    go_wp2
    go_ret
    exact ⟨by rw [HF.out]; rfl, bc⟩
  | true =>
    have HN := Lib.hid hn
    cases hr : rowOkB zs with
    | false =>
      have HF := Lib.hid (shapeV_no (A := A) (c := c) (deedB_row (k := k) (s := s) hr))
      have HR := Lib.hid hr
      clear hn hr
      go_enter Tryz.func65, Tryz.ntmps65
      go_wp2_with fail
      generalize w.alloc (.cells #[.int .i64 k, .string s, .slice A zs.length c] 32) = wb at *
      refine (nameOk_any s wb hs).mono ?_
      rintro e w1 ⟨rfl, rfl⟩
      rw [HN.out]
      go_wp2_with fail
      refine (implRowOk_no A c zs hl wb hIb HR.out).mono ?_
      rintro e w1 ⟨rfl, hb1⟩
      have hW := bel_step bc hb1
      go_wp2
      go_ret
      exact ⟨by rw [HF.out]; rfl, hW⟩
    | true =>
      have HF := Lib.hid (deedB_is (k := k) hn hr)
      have HR := Lib.hid hr
      have h6 := rowOkB_six hr
      clear hn hr
      go_enter Tryz.func65, Tryz.ntmps65
      go_wp2_with fail
      generalize w.alloc (.cells #[.int .i64 k, .string s, .slice A zs.length c] 32) = wb at *
      refine (nameOk_any s wb hs).mono ?_
      rintro e w1 ⟨rfl, rfl⟩
      rw [HN.out]
      go_wp2_with fail
      refine (implRowOk_yes A c zs hl wb hIb HR.out).mono ?_
      rintro e w1 ⟨rfl, hb1⟩
      have hW := bel_step bc hb1
      have BD1 := BD.on hb1
      have hI1 := hIb.on hb1
      clear D0 D1 D2
      obtain ⟨D0, D1, D2⟩ := BD1.c3
      clear BD BD1 bc hb1 hI hIb
      have a0 : 0 < zs.length → ∃ b off, A = some ⟨b, off, none⟩ ∧ w1.cell? ⟨b, off, none⟩ = some (.int .i64 (ix zs 0)) := fun h => by
        obtain ⟨b, off, e, _, hc⟩ := hI1 h
        exact ⟨b, off, e, hc 0 h⟩
      have HA := Lib.hid a0
      clear a0 hI1
      go_wp2_with fail
      go_quiet (fail)
      rcases kind_cases k with rfl | rfl | rfl | rfl | rfl | rfl | ⟨h1, h2, h3, h4, h5, h6'⟩
      all_goals
        by_cases hz : 0 < zs.length
        · by_cases hz1 : zs.length = 1
          · obtain ⟨b, off, rfl, hc⟩ := HA.out hz
            have i0 : decide (0 < zs.length) = true := by simp; omega
            have i1 : ((zs.length : Int) == 1) = true := by simp; omega
            have HZ := Lib.hid hz1
            clear hz1
            go_wp2
            first | go_ret | (go_quiet (fail); go_wp2; go_ret)
            refine ⟨ret_val ?_, by first | exact bel_drewN hW _ | exact bel_drewN (bel_drewN hW _) _⟩
            unfold shapeV
            rw [HF.out, HZ.out]
            simp [kindB, *]
          · have i0 : decide (0 < zs.length) = true := by simp; omega
            have i1 : ((zs.length : Int) == 1) = false := by simp; omega
            have HZ := Lib.hid (And.intro hz hz1)
            clear hz hz1
            go_wp2
            go_ret
            refine ⟨ret_val ?_, by first | exact bel_drewN hW _ | exact bel_drewN (bel_drewN hW _) _⟩
            unfold shapeV
            rw [HF.out]
            have := HZ.out.1
            have := HZ.out.2
            have hne : zs ≠ [] := fun e => by rw [e] at this; exact absurd HZ.out.1 (by rw [e]; simp)
            simp [kindB, *]
        · have i0 : decide (0 < zs.length) = false := by rw [decide_eq_false_iff_not]; exact hz
          have i1 : ((zs.length : Int) == 1) = false := by simp; omega
          have HZ := Lib.hid (show zs.length = 0 by omega)
          clear hz
          go_wp2
          go_ret
          refine ⟨ret_val ?_, by first | exact bel_drewN hW _ | exact bel_drewN (bel_drewN hW _) _⟩
          unfold shapeV
          rw [HF.out, HZ.out]
          simp [kindB, *]
end Go.Proofs.YtdjoiehknpfigaaGreat
