/- The walk of laws.FnExactBaseOk: it returns true, and nothing that lay has turned. -/
import Derived.Test.YtjidfoeajnfmdaaBas3
namespace Go.Proofs.Ytjidfoeajnfmdaa
open Go.RowKit

set_option maxRecDepth 100000 in
set_option maxHeartbeats 4000000 in
theorem walkFnExactBaseOk (a : Option Addr) (cap : Nat) (ts : List TB) (w : World) (w0 : RawTabs w w.heap.size a ts) (hm : ts.length ≤ maxLen) :
    Calls Try.prog 3 #[.slice a ts.length cap] w fun e w' => e = .returned (.bool true) ∧ Below w.heap.size w w' := by
  go_enter Try.func3, Try.ntmps3
  go_wp2_with fail
  refine (szTableS_sum a cap ts 1048576 w w0 hm (by omega) (by omega)).mono ?_
  rintro e wA ⟨x, rfl, _, hx, hW⟩
  have HX := Lib.hid hx
  clear hx hm
  by_cases h0 : x < 0
  · go_wp2
    go_ret
    exact ⟨rfl, hW⟩
  have hsum := HX.out (by omega)
  have hl : ts.length ≤ 1048576 := by omega
  have hf : fitT 1048576 ts := fitT_of (by omega)
  have HF := Lib.hid hf
  have HB := Lib.hid (show ∀ W, Below w.heap.size w W → Tabs W W.heap.size a ts from fun W h => (w0.on h).tabs hf)
  clear HX w0 hf hsum
  have hx0 : decide (x < 0) = false := by simp; omega
  go_wp2_with fail
  refine (toTableS_any a cap ts wA (HB.out wA hW) HF.out hl).mono ?_
  rintro e wB ⟨AB, cB, eB, rfl, hB, hO, hb⟩
  have HEB := Lib.hid hB
  replace hW := bel_step hW hb
  clear hB hb
  go_wp2_with fail
  refine (specBaseOk_any AB cB ts wB (hO.tabsB HEB.out HF.out) HF.out hl).mono ?_
  rintro e wC ⟨rfl, hb⟩
  replace hW := bel_step hW hb
  clear hb hO
  obtain ⟨tb, htb⟩ : ∃ tb, baseB ts = tb := ⟨_, rfl⟩
  have HTB := Lib.hid htb
  rw [htb]
  have hbb : (tb != tb) = false := by simp
  clear htb
  go_wp2_with fail
  refine (toTableS_any a cap ts wC (HB.out wC hW) HF.out hl).mono ?_
  rintro e wD ⟨AX, cX, eX, rfl, hX, hO, hb⟩
  have HEX := Lib.hid hX
  replace hW := bel_step hW hb
  clear hX hb
  go_wp2_with fail
  refine (implBaseOk_any AX cX ts wD (hO.tabsB HEX.out HF.out) HF.out hl).mono ?_
  rintro e wE ⟨rfl, hb⟩
  rw [HTB.out]
  replace hW := bel_step hW hb
  replace hO := hO.on hb
  clear hb
  go_wp2_with fail
  refine (toTableS_any a cap ts wE (HB.out wE hW) HF.out hl).mono ?_
  rintro e wF ⟨AY, cY, eY, rfl, hY, hP, hb⟩
  have HEY := Lib.hid hY
  replace hW := bel_step hW hb
  replace hO := hO.on hb
  clear hY hb
  go_wp2_with fail
  refine (eqTableS_same AX AY cX cY ts wF (hO.tabsB HEX.out HF.out) (hP.tabsB HEY.out HF.out) HF.out (by omega)).mono ?_
  rintro e wG ⟨rfl, hb⟩
  replace hW := bel_step hW hb
  clear hb
  go_wp2
  go_ret
  exact ⟨rfl, hW⟩
end Go.Proofs.Ytjidfoeajnfmdaa
