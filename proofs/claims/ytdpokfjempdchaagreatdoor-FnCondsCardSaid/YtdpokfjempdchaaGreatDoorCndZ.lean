/- Conds shown: the model's ShowConds; the walk of laws.FnExactShowConds. -/
import Derived.Test.YtdpokfjempdchaaGreatDoorCndX
import Derived.Test.YtdpokfjempdchaaGreatDoorCndY
import Derived.Test.YtdpokfjempdchaaGreatDoorCndOpen
namespace Go.Proofs.YtdpokfjempdchaaGreatDoor
open Go.RowKit

set_option maxRecDepth 100000 in
set_option maxHeartbeats 2000000 in
theorem specShowConds_any (A : Option Addr) (c : Nat) (l : List Cnd) (w : World) (hC : Cnds w w.heap.size A l) (hl : l.length ≤ 1099511627776) :
    Calls Tryz.prog 13 #[.slice A l.length c] w fun e w' => e = .returned (.string (mkB (showCs l))) ∧ Below w.heap.size w w' := by
  obtain ⟨S, hS⟩ : ∃ S, mkB (showCs l) = S := ⟨_, rfl⟩
  have HS := Lib.hid hS
  rw [hS]
  clear hS
  go_enter Tryz.func13, Tryz.ntmps13
  go_wp2_with fail
  refine (l7Right_any A c l w hC hl).mono ?_
  rintro e w1 ⟨rfl, hb1⟩
  cases hr : rightB l with
  | false =>
    have HD := Lib.hid (show S = ⟨#[]⟩ by rw [← HS.out]; unfold showCs; rw [hr]; rfl)
    clear hr
    go_wp2
    go_ret
    exact ⟨congrArg (fun s => Ending.returned (.string s)) HD.out.symm, hb1⟩
  | true =>
    have HC := Lib.hid (rightB_iff.1 hr)
    have HD := Lib.hid (show mkB (if l = [] then [45] else cat [44] (l.map showC)) = S by rw [← HS.out]; unfold showCs; rw [if_pos hr])
    have hC1 := hC.on hb1
    clear hr
    go_wp2_with fail
    refine (l7Show_any A c l w1 hC1 HC.out.1 HC.out.2).mono ?_
    rintro e w2 ⟨rfl, hb2⟩
    rw [HD.out]
    have hW := bel_step hb1 hb2
    go_wp2
    go_ret
    exact ⟨rfl, hW⟩
end Go.Proofs.YtdpokfjempdchaaGreatDoor
