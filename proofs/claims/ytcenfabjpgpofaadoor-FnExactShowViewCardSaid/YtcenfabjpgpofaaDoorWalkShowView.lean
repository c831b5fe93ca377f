/- The walk of laws.FnExactShowView: it returns true, and nothing that lay has turned. The listed variables lie as their texts lay them. -/
import Derived.Test.YtcenfabjpgpofaaDoorNodI
import Derived.Test.YtcenfabjpgpofaaDoorNodC
namespace Go.Proofs.YtcenfabjpgpofaaDoor
open Go.RowKit

set_option maxRecDepth 100000 in
set_option maxHeartbeats 4000000 in
theorem walkFnExactShowView (a0 : Option Addr) (cap0 : Nat) (v : List Nd) (w : World) (w0 : Nds w w.heap.size a0 v ∧ fitN maxLen v) (hm : v.length ≤ maxLen) (hT : TabN w) (hF : FormsAt w) :
    Calls Tryd.prog 5 #[.slice a0 v.length cap0] w fun e w' => e = .returned (.bool true) ∧ Below w.heap.size w w' := by
  obtain ⟨hN, hfm⟩ := w0
  obtain ⟨S, hS⟩ : ∃ S, mkB (showV v) = S := ⟨_, rfl⟩
  have HS := Lib.hid hS
  clear hS
  go_enter Tryd.func5, Tryd.ntmps5
  go_wp2_with fail
  refine (szNodeS_any a0 cap0 v w hN hfm hm).mono ?_
  rintro e w1 ⟨x, rfl, _, hx, hW⟩
  have HX := Lib.hid hx
  clear hx hfm
  by_cases h0 : x < 0
  · go_wp2
    go_ret
    exact ⟨rfl, hW⟩
  obtain ⟨hf, hl⟩ := HX.out (by omega)
  have hd : decide (x < 0) = false := by simp; omega
  clear HX h0 hm
  have HN := Lib.hid (show ∀ W, Below w.heap.size w W → Nds W W.heap.size a0 v from fun W h => hN.on h)
  have HFA := Lib.hid (show ∀ W, Below w.heap.size w W → FormsAt W from fun W h => hF.on h)
  have HTA := Lib.hid (show ∀ W, Below w.heap.size w W → TabN W from fun W h => tabN_on hT h)
  clear hN hF hT
  go_wp2_with fail
  refine (toNodeS_any a0 cap0 v w1 (HN.out w1 hW) hf hl).mono ?_
  rintro e w2 ⟨A2, c2, rfl, hN2, hb⟩
  replace hW := bel_step hW hb
  clear hb hd
  go_wp2_with fail
  refine (specShowView_any A2 c2 v w2 hN2 hf hl).mono ?_
  rintro e w3 ⟨rfl, hb⟩
  replace hW := bel_step hW hb
  clear hb hN2
  go_wp2_with fail
  refine (toNodeS_any a0 cap0 v w3 (HN.out w3 hW) hf hl).mono ?_
  rintro e w4 ⟨A4, c4, rfl, hN4, hb⟩
  replace hW := bel_step hW hb
  clear hb
  go_wp2_with fail
  refine (implShowView_any A4 c4 v w4 hN4 hf hl (HFA.out w4 hW) (HTA.out w4 hW)).mono ?_
  rintro e w5 ⟨rfl, hb⟩
  replace hW := bel_step hW hb
  replace hN4 := hN4.on hb
  clear hb
  rw [HS.out]
  go_wp2_with fail
  refine (toNodeS_any a0 cap0 v w5 (HN.out w5 hW) hf hl).mono ?_
  rintro e w6 ⟨A6, c6, rfl, hN6, hb⟩
  replace hW := bel_step hW hb
  replace hN4 := hN4.on hb
  clear hb
  go_wp2_with fail
  refine (eqNodeS_same A4 A6 c4 c6 v w6 hN4 hN6 hf (by omega)).mono ?_
  rintro e w7 ⟨rfl, hb⟩
  replace hW := bel_step hW hb
  go_wp2
  go_ret
  exact ⟨rfl, hW⟩
end Go.Proofs.YtcenfabjpgpofaaDoor
