/- What DeedOk says of a deed: the model's, and the program's with its shapeOf; nothing that lay has turned. -/
import Derived.Test.YtdjoiehknpfigaaGreatDeed1
namespace Go.Proofs.YtdjoiehknpfigaaGreat
open Go.RowKit

set_option maxRecDepth 100000 in
set_option maxHeartbeats 4000000 in
theorem specDeedOk_any (k : Int) (s : ByteArray) (A : Option Addr) (c : Nat) (zs : List Int) (w : World) (hI : Ints w w.heap.size A zs) (hs : s.size ≤ 1099511627776) (hl : zs.length ≤ 1099511627776) :
    Calls Tryz.prog 25 #[.agg #[.int .i64 k, .string s, .slice A zs.length c]] w fun e w' => e = .returned (.bool (deedB k s zs)) ∧ Below w.heap.size w w' := by
  have bc := (Below.refl w.heap.size w).alloc (Nat.le_refl _) (.cells #[.int .i64 k, .string s, .slice A zs.length c] 32)
  have hIb := hI.on bc
  have BD := Blk.new w 32 #[.int .i64 k, .string s, .slice A zs.length c]
  obtain ⟨D0, D1, D2⟩ := BD.c3
  cases hn : nameB s with
  | false =>
    have HF := Lib.hid (deedB_name (k := k) (zs := zs) hn)
    have HN := Lib.hid hn
    clear hn
    go_enter Tryz.func25, Tryz.ntmps25
    go_wp2_with fail
    generalize w.alloc (.cells #[.int .i64 k, .string s, .slice A zs.length c] 32) = wb at *
    refine (l4Name_any s wb hs).mono ?_
    rintro e w1 ⟨rfl, rfl⟩
    rw [HN.out]
    go_wp2
    go_ret
    exact ⟨by rw [HF.out]; rfl, bc⟩
  | true =>
    have HN := Lib.hid hn
    cases hr : rowOkB zs with
    | false =>
      have HF := Lib.hid (deedB_row (k := k) (s := s) hr)
      have HR := Lib.hid hr
      clear hn hr
      go_enter Tryz.func25, Tryz.ntmps25
      go_wp2_with fail
      generalize w.alloc (.cells #[.int .i64 k, .string s, .slice A zs.length c] 32) = wb at *
      refine (l4Name_any s wb hs).mono ?_
      rintro e w1 ⟨rfl, rfl⟩
      rw [HN.out]
      go_wp2_with fail
      refine (specRowOk_no A c zs wb _ hIb hl HR.out).mono ?_
      rintro e w1 ⟨rfl, hw1⟩
      cases hw1
      go_wp2
      go_ret
      exact ⟨by rw [HF.out]; rfl, bc⟩
    | true =>
      have HF := Lib.hid (deedB_is (k := k) hn hr)
      have HR := Lib.hid hr
      have h6 := rowOkB_six hr
      clear hn hr
      go_enter Tryz.func25, Tryz.ntmps25
      go_wp2_with fail
      generalize w.alloc (.cells #[.int .i64 k, .string s, .slice A zs.length c] 32) = wb at *
      refine (l4Name_any s wb hs).mono ?_
      rintro e w1 ⟨rfl, rfl⟩
      rw [HN.out]
      go_wp2_with fail
      refine (specRowOk_yes A c zs wb _ hIb hl HR.out).mono ?_
      rintro e w1 ⟨rfl, hw1⟩
      cases hw1
      rcases kind_cases k with rfl | rfl | rfl | rfl | rfl | rfl | ⟨h1, h2, h3, h4, h5, h6'⟩
      all_goals
        go_wp2
        go_ret
        refine ⟨ret_bool ?_, bc⟩
        rw [HF.out]
      all_goals (rw [Bool.eq_iff_iff]; simp [kindB, *])
      all_goals omega

/-- The shape of a deed, as a value: nil when it is not right. -/
def shapeV (k : Int) (s : ByteArray) (A : Option Addr) (c : Nat) (zs : List Int) : Value :=
  if deedB k s zs = true then
    (if k = 1 then .iface 92 (.agg #[.string s, .slice A zs.length c])
    else if k = 2 then .iface 95 (.agg #[.string s, .int .i64 (ix zs 0)])
    else if k = 3 then .iface 97 (.agg #[.string s, .slice A zs.length c])
    else if k = 4 then .iface 98 (.agg #[.string s, .int .i64 (ix zs 0)])
    else if k = 5 then .iface 100 (.agg #[.string s, .int .i64 (ix zs 0)])
    else .iface 102 (.agg #[.string s]))
  else .nilIface
theorem shapeV_no {k : Int} {s : ByteArray} {A : Option Addr} {c : Nat} {zs : List Int} (h : deedB k s zs = false) : shapeV k s A c zs = .nilIface := by unfold shapeV; rw [h]; rfl
theorem shapeV_is {k : Int} {s : ByteArray} {A : Option Addr} {c : Nat} {zs : List Int} (h : deedB k s zs = true) : ∃ t v, shapeV k s A c zs = .iface t v := by
  unfold shapeV
  rw [if_pos h]
  repeat' split
  all_goals exact ⟨_, _, rfl⟩
theorem ret_val {a b : Value} (h : a = b) : Ending.returned a = .returned b := by rw [h]
end Go.Proofs.YtdjoiehknpfigaaGreat
