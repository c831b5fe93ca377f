/- Conds shown: the model's ShowConds; the walk of laws.FnExactShowConds. -/
import Derived.Test.YtfhjgkiclfbgkaaDoorCndX
import Derived.Test.YtfhjgkiclfbgkaaDoorCndY
import Derived.Test.YtfhjgkiclfbgkaaDoorCndOpen
namespace Go.Proofs.YtfhjgkiclfbgkaaDoor
open Go.RowKit

set_option maxRecDepth 100000 in
set_option maxHeartbeats 2000000 in
theorem specShowConds_any (A : Option Addr) (c : Nat) (l : List Cnd) (w : World) (hC : Cnds w w.heap.size A l) (hl : l.length ≤ 1099511627776) :
    Calls Tryd.prog 6 #[.slice A l.length c] w fun e w' => e = .returned (.string (mkB (showCs l))) ∧ Below w.heap.size w w' := by
  obtain ⟨S, hS⟩ : ∃ S, mkB (showCs l) = S := ⟨_, rfl⟩
  have HS := Lib.hid hS
  rw [hS]
  clear hS
  go_enter Tryd.func6, Tryd.ntmps6
  go_wp2_with fail
  refine (l7Right_any A c l w hC hl).mono ?_
  rintro e w1 ⟨rfl, hb1⟩
  cases hr : rightB l with
  | false =>
    have HD := Lib.hid (show S = ⟨#[]⟩ by rw [← HS.out]; unfold showCs; rw [hr]; rfl)
    clear hr
    go_wp2
    go_ret
    exact ⟨congrArg (fun s => Ending.returned (.string s)) HD.out.symm, hb1⟩
  | true =>
    have HC := Lib.hid (rightB_iff.1 hr)
    have HD := Lib.hid (show mkB (if l = [] then [45] else cat [44] (l.map showC)) = S by rw [← HS.out]; unfold showCs; rw [if_pos hr])
    have hC1 := hC.on hb1
    clear hr
    go_wp2_with fail
    refine (l7Show_any A c l w1 hC1 HC.out.1 HC.out.2).mono ?_
    rintro e w2 ⟨rfl, hb2⟩
    rw [HD.out]
    have hW := bel_step hb1 hb2
    go_wp2
    go_ret
    exact ⟨rfl, hW⟩
set_option maxRecDepth 100000 in
set_option maxHeartbeats 2000000 in
theorem walkFnExactShowConds (a0 : Option Addr) (cap0 : Nat) (l : List Cnd) (w : World) (htab : Lib.TabBelow Tryd.prog w.heap.size w "internal/strconv.uint64pow10" .u64 Lib.pow10Tab) (w0 : Cnds w w.heap.size a0 l) (hm : l.length ≤ maxLen) :
    Calls Tryd.prog 3 #[.slice a0 l.length cap0] w fun e w' => e = .returned (.bool true) ∧ Below w.heap.size w w' := by
  have HT := Lib.hid htab
  clear htab
  go_enter Tryd.func3, Tryd.ntmps3
  go_wp2_with fail
  refine (szCondS_any a0 l.length cap0 1048576 w hm (by omega) (by omega)).mono ?_
  rintro e w1 ⟨rfl, rfl⟩
  by_cases h0 : (1048576 : Int) < l.length
  · rw [if_pos h0]
    clear h0
    go_wp2
    go_ret
    exact ⟨rfl, Below.refl _ _⟩
  · rw [if_neg h0]
    have hl : l.length ≤ 1099511627776 := by omega
    have hd : decide (1048576 - (l.length : Int) < 0) = false := by simp; omega
    obtain ⟨S, hS⟩ : ∃ S, mkB (showCs l) = S := ⟨_, rfl⟩
    have HS := Lib.hid hS
    clear hm h0 hS
    go_wp2_with fail
    refine (toCondS_any a0 cap0 l w w0 hl).mono ?_
    rintro e w2 ⟨rfl, hA2, hb2⟩
    have hW := hb2
    clear hd
    go_wp2_with fail
    refine (specShowConds_any _ _ l w2 hA2.cnds hl).mono ?_
    rintro e w3 ⟨rfl, hb3⟩
    replace hW := bel_step hW hb3
    replace w0 := w0.on hW
    clear hb2 hb3 hA2
    go_wp2_with fail
    refine (toCondS_any a0 cap0 l w3 w0 hl).mono ?_
    rintro e w4 ⟨rfl, hA, hb⟩
    replace hW := bel_step hW hb
    replace w0 := w0.on hb
    clear hb
    go_wp2_with fail
    refine (implShowConds_any _ _ l w4 hA.cnds hl (fun w' h => HT.out w' (hW.trans (h.mono hW.size)))).mono ?_
    rintro e w5 ⟨rfl, hb⟩
    replace hW := bel_step hW hb
    replace w0 := w0.on hb
    replace hA := hA.on hb
    clear hb
    rw [HS.out]
    go_wp2_with fail
    refine (toCondS_any a0 cap0 l w5 w0 hl).mono ?_
    rintro e w6 ⟨rfl, hA6, hb⟩
    replace hW := bel_step hW hb
    replace hA := hA.on hb
    clear hb
    go_wp2_with fail
    refine (eqCondS_any _ _ _ _ l l w6 hA.cnds hA6.cnds hl hl).mono ?_
    rintro e w7 ⟨rfl, hb⟩
    replace hW := bel_step hW hb
    rw [decide_eq_true (rfl : l = l)]
    clear hb hA hA6
    go_wp2
    go_ret
    exact ⟨rfl, hW⟩
end Go.Proofs.YtfhjgkiclfbgkaaDoor
