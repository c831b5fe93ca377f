/- The walk of laws.FnExactWidthOf: it returns true, and nothing that lay has turned. The program's own variable lies as the text lays it. -/
import Derived.Test.YtejgofhpjkebbaaDoorWid7
import Derived.Test.YtejgofhpjkebbaaDoorNodC
namespace Go.Proofs.YtejgofhpjkebbaaDoor
open Go.RowKit

set_option maxRecDepth 100000 in
set_option maxHeartbeats 2000000 in
theorem szNodeS_left (A : Option Addr) (c : Nat) (v : List Nd) (left : Int) (w : World) (hB : Nds w w.heap.size A v) (hf : fitN maxLen v) (hl : v.length ≤ maxLen) (hz0 : 0 ≤ left) (hz1 : left ≤ 1048576) :
    Calls Tryd.prog 5 #[.slice A v.length c, .int .i64 left] w (SzN (fitN 1048576 v ∧ v.length ≤ 1048576) left w) := by
  unfold maxLen at hl
  have HFT := Lib.hid hf
  clear hf
  by_cases hbig : left < (v.length : Int)
  · have hbn : left - (v.length : Int) < 0 := by omega
    go_enter Tryd.func5, Tryd.ntmps5
    go_wp2
    go_ret
    exact ⟨-1, rfl, by omega, fun h => absurd h (by omega), Below.refl _ _⟩
  have hx2 : 0 ≤ left - (v.length : Int) ∧ left - (v.length : Int) ≤ left := by omega
  have hbn : decide (left - (v.length : Int) < 0) = false := by simp; omega
  have hl2 : v.length ≤ 1048576 := by omega
  clear hl
  go_enter Tryd.func5, Tryd.ntmps5
  go_wp2
  go_loopw [1, 5] (fun l i wr => ∃ (k : Nat) (x : Int), k ≤ v.length ∧ i = .int .i64 k ∧ l = .int .i64 x ∧ 0 ≤ x ∧ x ≤ left ∧ (∀ j, j < k → fitD 1048576 (ndx v j)) ∧ Below w.heap.size w wr) (fun _ i _ => v.length - (intOf i).toNat)
  case atStart => exact ⟨0, _, Nat.zero_le _, rfl, rfl, hx2.1, hx2.2, fun j hj => absurd hj (by omega), Below.refl _ _⟩
  case round =>
    obtain ⟨k, x, hk, rfl, rfl, hx0, hx3, hfk, hW⟩ := hrel
    have HR := Lib.hid hfk
    have hBr := hB.on hW
    clear hfk hbn hx2 hbig hB
    by_cases hlt : k < v.length
    · obtain ⟨b, off, Ac, cc, Az, cz, rfl, _, c0, c1, c2, c3, c4, _, _⟩ := hBr.here hlt
      go_wp2_with fail
      refine (szNode_any (ndx v k) Ac cc Az cz x wr (HFT.out k hlt) hx0 (by omega)).mono ?_
      rintro e w1 ⟨y, rfl, hy1, hy, hb1⟩
      have HY := Lib.hid hy
      have hW1 := bel_step hW hb1
      clear c0 c1 c2 c3 c4 hy hb1 hW hBr
      by_cases hs : y < 0
      · go_wp2
        go_ret
        exact ⟨-1, rfl, by omega, fun h => absurd h (by omega), hW1⟩
      · have hs0 : 0 ≤ y := by omega
        have hsd : decide (y < 0) = false := by simp; omega
        have HS := Lib.hid (show ∀ j, j < k + 1 → fitD 1048576 (ndx v j) from fun j hj => by
          by_cases e : j = k
          · subst e; exact HY.out hs0
          · exact HR.out j (by omega))
        clear HY hs
        go_wp2
        go_roundw
        case rel => exact ⟨k + 1, y, by omega, by go_num, rfl, hs0, by omega, HS.out, hW1⟩
        case measure => simp [intOf]; omega
    · have hd : decide (k < v.length) = false := by simpa using hlt
      have HE := Lib.hid (show fitN 1048576 v from fun j hj => HR.out j (by omega))
      go_wp2
      go_ret
      exact ⟨x, rfl, hx3, fun _ => ⟨HE.out, hl2⟩, hW⟩

set_option maxRecDepth 100000 in
set_option maxHeartbeats 4000000 in
theorem walkFnExactWidthOf (a0 : Option Addr) (cap0 : Nat) (ts : List TB) (a1 : Option Addr) (cap1 : Nat) (v : List Nd) (w : World) (w0 : RawTabs w w.heap.size a0 ts) (hm : ts.length ≤ maxLen) (w1 : Nds w w.heap.size a1 v ∧ fitN maxLen v) (hm1 : v.length ≤ maxLen) (hFo : FormsAt w) :
    Calls Tryd.prog 3 #[.slice a0 ts.length cap0, .slice a1 v.length cap1] w fun e w' => e = .returned (.bool true) ∧ Below w.heap.size w w' := by
  obtain ⟨hN, hfm⟩ := w1
  go_enter Tryd.func3, Tryd.ntmps3
  go_wp2_with fail
  refine (szTableS_sum a0 cap0 ts 1048576 w w0 hm (by omega) (by omega)).mono ?_
  rintro e wA ⟨x, rfl, hx1, hx, hW⟩
  have HX := Lib.hid hx
  clear hx hm
  by_cases h0 : x < 0
  · go_wp2
    go_ret
    exact ⟨rfl, hW⟩
  have hsum := HX.out (by omega)
  have hl : ts.length ≤ 1048576 := by omega
  have hf : fitT 1048576 ts := fitT_of (by omega)
  have HF := Lib.hid hf
  have HB := Lib.hid (show ∀ W, Below w.heap.size w W → Tabs W W.heap.size a0 ts from fun W h => (w0.on h).tabs hf)
  have HN := Lib.hid (show ∀ W, Below w.heap.size w W → Nds W W.heap.size a1 v from fun W h => hN.on h)
  have HFA := Lib.hid (show ∀ W, Below w.heap.size w W → FormsAt W from fun W h => hFo.on h)
  clear HX w0 hf hsum hFo
  have hx0 : decide (x < 0) = false := by simp; omega
  have hxp : 0 ≤ x := by omega
  clear h0
  go_wp2_with fail
  refine (szNodeS_left a1 cap1 v x wA (HN.out wA hW) hfm hm1 hxp hx1).mono ?_
  rintro e wA2 ⟨y, rfl, _, hy, hb⟩
  have HY := Lib.hid hy
  replace hW := bel_step hW hb
  clear hy hfm hN hb hx1
  by_cases h0 : y < 0
  · go_wp2
    go_ret
    exact ⟨rfl, hW⟩
  obtain ⟨hfn, hlv⟩ := HY.out (by omega)
  have HFN := Lib.hid hfn
  have hy0 : decide (y < 0) = false := by simp; omega
  clear HY h0 hm1 hfn
  -- the model's answer
  go_wp2_with fail
  refine (toTableS_any a0 cap0 ts wA2 (HB.out wA2 hW) HF.out hl).mono ?_
  rintro e wB ⟨AB, cB, eB, rfl, hB, hO, hb⟩
  have HEB := Lib.hid hB
  replace hW := bel_step hW hb
  clear hB hb
  go_wp2_with fail
  refine (toNodeS_any a1 cap1 v wB (HN.out wB hW) HFN.out hlv).mono ?_
  rintro e w2 ⟨A2, c2, rfl, hN2, hb⟩
  replace hW := bel_step hW hb
  replace hO := hO.on hb
  clear hb
  go_wp2_with fail
  refine (specWidthOf_any AB A2 cB c2 ts v w2 (hO.tabsB HEB.out HF.out) HF.out hl hN2 HFN.out hlv).mono ?_
  rintro e wC ⟨rfl, hb⟩
  replace hW := bel_step hW hb
  clear hb hO hN2
  obtain ⟨tb, htb⟩ : ∃ tb, widthV ts v = tb := ⟨_, rfl⟩
  have HTB := Lib.hid htb
  rw [htb]
  have hbb : (tb != tb) = false := by simp
  clear htb
  -- the program's
  go_wp2_with fail
  refine (toTableS_any a0 cap0 ts wC (HB.out wC hW) HF.out hl).mono ?_
  rintro e wD ⟨AX, cX, eX, rfl, hX, hO, hb⟩
  have HEX := Lib.hid hX
  replace hW := bel_step hW hb
  clear hX hb
  go_wp2_with fail
  refine (toNodeS_any a1 cap1 v wD (HN.out wD hW) HFN.out hlv).mono ?_
  rintro e w4 ⟨A4, c4, rfl, hN4, hb⟩
  replace hW := bel_step hW hb
  replace hO := hO.on hb
  clear hb
  go_wp2_with fail
  refine (implWidthOf_any AX A4 cX c4 ts v w4 (hO.tabsB HEX.out HF.out) HF.out hl hN4 HFN.out (HFA.out w4 hW)).mono ?_
  rintro e wE ⟨rfl, hb⟩
  rw [HTB.out]
  replace hW := bel_step hW hb
  replace hO := hO.on hb
  replace hN4 := hN4.on hb
  clear hb
  go_wp2_with fail
  refine (toTableS_any a0 cap0 ts wE (HB.out wE hW) HF.out hl).mono ?_
  rintro e wF ⟨AY, cY, eY, rfl, hY, hP, hb⟩
  have HEY := Lib.hid hY
  replace hW := bel_step hW hb
  replace hO := hO.on hb
  replace hN4 := hN4.on hb
  clear hY hb
  go_wp2_with fail
  refine (eqTableS_same AX AY cX cY ts wF (hO.tabsB HEX.out HF.out) (hP.tabsB HEY.out HF.out) HF.out (by omega)).mono ?_
  rintro e wG ⟨rfl, hb⟩
  replace hW := bel_step hW hb
  replace hN4 := hN4.on hb
  clear hb hO hP
  go_wp2_with fail
  refine (toNodeS_any a1 cap1 v wG (HN.out wG hW) HFN.out hlv).mono ?_
  rintro e w6 ⟨A6, c6, rfl, hN6, hb⟩
  replace hW := bel_step hW hb
  replace hN4 := hN4.on hb
  clear hb
  go_wp2_with fail
  refine (eqNodeS_same A4 A6 c4 c6 v w6 hN4 hN6 HFN.out (by omega)).mono ?_
  rintro e w7 ⟨rfl, hb⟩
  replace hW := bel_step hW hb
  go_wp2
  go_ret
  exact ⟨rfl, hW⟩
end Go.Proofs.YtejgofhpjkebbaaDoor
