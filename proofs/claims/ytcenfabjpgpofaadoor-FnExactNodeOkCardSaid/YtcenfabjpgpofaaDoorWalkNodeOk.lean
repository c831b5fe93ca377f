/- The walks of laws.FnExactNodeOk and laws.FnExactViewOk: they return true, and nothing that lay has turned. The program's own variable lies as the text lays it. -/
import Derived.Test.YtcenfabjpgpofaaDoorNod2
import Derived.Test.YtcenfabjpgpofaaDoorNod3
import Derived.Test.YtcenfabjpgpofaaDoorNodC
import Derived.Deep.RegionHeld3
namespace Go.Proofs.YtcenfabjpgpofaaDoor
open Go.RowKit

set_option maxRecDepth 100000 in
set_option maxHeartbeats 4000000 in
theorem walkFnExactViewOk (a0 : Option Addr) (cap0 : Nat) (v : List Nd) (w : World) (w0 : Nds w w.heap.size a0 v ∧ fitN maxLen v) (hm : v.length ≤ maxLen) (hF : FormsAt w) :
    Calls Tryd.prog 4 #[.slice a0 v.length cap0] w fun e w' => e = .returned (.bool true) ∧ Below w.heap.size w w' := by
  obtain ⟨hN, hfm⟩ := w0
  go_enter Tryd.func4, Tryd.ntmps4
  go_wp2_with fail
  refine (szNodeS_any a0 cap0 v w hN hfm hm).mono ?_
  rintro e w1 ⟨x, rfl, _, hx, hW⟩
  have HX := Lib.hid hx
  clear hx hfm
  by_cases h0 : x < 0
  · go_wp2
    go_ret
    exact ⟨rfl, hW⟩
  obtain ⟨hf, hl⟩ := HX.out (by omega)
  have hd : decide (x < 0) = false := by simp; omega
  clear HX h0 hm
  have HN := Lib.hid (show ∀ W, Below w.heap.size w W → Nds W W.heap.size a0 v from fun W h => hN.on h)
  have HFA := Lib.hid (show ∀ W, Below w.heap.size w W → FormsAt W from fun W h => hF.on h)
  clear hN hF
  go_wp2_with fail
  refine (toNodeS_any a0 cap0 v w1 (HN.out w1 hW) hf hl).mono ?_
  rintro e w2 ⟨A2, c2, rfl, hN2, hb⟩
  replace hW := bel_step hW hb
  clear hb hd
  go_wp2_with fail
  refine (specViewOk_any A2 c2 v w2 hN2 hf hl).mono ?_
  rintro e w3 ⟨rfl, hb⟩
  replace hW := bel_step hW hb
  clear hb hN2
  go_wp2_with fail
  refine (toNodeS_any a0 cap0 v w3 (HN.out w3 hW) hf hl).mono ?_
  rintro e w4 ⟨A4, c4, rfl, hN4, hb⟩
  replace hW := bel_step hW hb
  clear hb
  go_wp2_with fail
  refine (implViewOk_any A4 c4 v w4 hN4 hf (HFA.out w4 hW)).mono ?_
  rintro e w5 ⟨rfl, hb⟩
  replace hW := bel_step hW hb
  replace hN4 := hN4.on hb
  clear hb
  generalize viewB v = bo at *
  go_wp2_with fail
  refine (toNodeS_any a0 cap0 v w5 (HN.out w5 hW) hf hl).mono ?_
  rintro e w6 ⟨A6, c6, rfl, hN6, hb⟩
  replace hW := bel_step hW hb
  replace hN4 := hN4.on hb
  clear hb
  go_wp2_with fail
  refine (eqNodeS_same A4 A6 c4 c6 v w6 hN4 hN6 hf (by omega)).mono ?_
  rintro e w7 ⟨rfl, hb⟩
  replace hW := bel_step hW hb
  go_wp2
  go_ret
  exact ⟨rfl, hW⟩
set_option maxRecDepth 100000 in
set_option maxHeartbeats 4000000 in
theorem walkFnExactNodeOk (d : Nd) (Ac : Option Addr) (cc : Nat) (Az : Option Addr) (cz : Nat) (w : World) (w0 : Cnds w w.heap.size Ac d.c) (w1 : Ints w w.heap.size Az d.z) (hm : fitD maxLen d) (hF : FormsAt w) :
    Calls Tryd.prog 3 #[.agg #[.int .i64 d.k, .string d.n, .slice Ac d.c.length cc, .slice Az d.z.length cz, .int .i64 d.p]] w fun e w' => e = .returned (.bool true) ∧ Below w.heap.size w w' := by
  have bc := (Below.refl w.heap.size w).alloc (Nat.le_refl _) (.cells #[.int .i64 d.k, .string d.n, .slice Ac d.c.length cc, .slice Az d.z.length cz, .int .i64 d.p] 25)
  have TA := Blk.new w 25 #[.int .i64 d.k, .string d.n, .slice Ac d.c.length cc, .slice Az d.z.length cz, .int .i64 d.p]
  obtain ⟨d0, d1, d2, d3, d4⟩ := TA.c5
  have HC := Lib.hid (show ∀ W, Below w.heap.size w W → Cnds W W.heap.size Ac d.c from fun W h => w0.on h)
  have HZ := Lib.hid (show ∀ W, Below w.heap.size w W → Ints W W.heap.size Az d.z from fun W h => w1.on h)
  have HFA := Lib.hid (show ∀ W, Below w.heap.size w W → FormsAt W from fun W h => hF.on h)
  clear w0 w1 hF
  go_enter Tryd.func3, Tryd.ntmps3
  go_wp2_with fail
  generalize w.alloc (.cells #[.int .i64 d.k, .string d.n, .slice Ac d.c.length cc, .slice Az d.z.length cz, .int .i64 d.p] 25) = wb at *
  refine (szNode_any d Ac cc Az cz 1048576 wb hm (by omega) (by omega)).mono ?_
  rintro e wA ⟨x, rfl, _, hx, hbA⟩
  have HX := Lib.hid hx
  have hA0 : Below w.heap.size w wA := bel_step bc hbA
  have TAA := TA.on hbA
  clear hx d0 d1 d2 d3 d4 TA bc hbA hm
  obtain ⟨e0, e1, e2, e3, e4⟩ := TAA.c5
  by_cases h0 : x < 0
  · go_wp2
    go_ret
    exact ⟨rfl, hA0⟩
  have hf := HX.out (by omega)
  have hd : decide (x < 0) = false := by simp; omega
  clear HX h0
  -- the model's answer
  go_wp2_with fail
  refine (toNode_any d Ac cc Az cz wA (HC.out wA hA0) (HZ.out wA hA0) hf).mono ?_
  rintro e wB ⟨gB, zB, rfl, _, _, hCB, hZB, hbB⟩
  have hB0 := bel_step hA0 hbB
  have TAB := TAA.on hbB
  clear hbB TAA e0 e1 e2 e3 e4 hA0 hd
  go_wp2_with fail
  refine (specNodeOk_any d _ _ _ _ wB hCB.cnds hZB.ints hf).mono ?_
  rintro e wC ⟨rfl, hbC⟩
  have hC0 := bel_step hB0 hbC
  have TAC := TAB.on hbC
  clear hbC TAB hB0 hCB hZB
  obtain ⟨e0, e1, e2, e3, e4⟩ := TAC.c5
  -- the program's answer
  go_wp2_with fail
  refine (toNode_any d Ac cc Az cz wC (HC.out wC hC0) (HZ.out wC hC0) hf).mono ?_
  rintro e wD ⟨gD, zD, rfl, _, _, hCD, hZD, hbD⟩
  have bD := (Below.refl wD.heap.size wD).alloc (Nat.le_refl _) (.cells #[.int .i64 d.k, .string d.n, .slice (some ⟨gD, 0, none⟩) d.c.length d.c.length, .slice (some ⟨zD, 0, none⟩) d.z.length d.z.length, .int .i64 d.p] 30)
  have hD0 := bel_step (bel_step hC0 hbD) bD
  have TAD := (TAC.on hbD).on bD
  have XD := Blk.new wD 30 #[.int .i64 d.k, .string d.n, .slice (some ⟨gD, 0, none⟩) d.c.length d.c.length, .slice (some ⟨zD, 0, none⟩) d.z.length d.z.length, .int .i64 d.p]
  have hCD' := hCD.on bD
  have hZD' := hZD.on bD
  obtain ⟨x0, x1, x2, x3, x4⟩ := XD.c5
  clear hbD TAC e0 e1 e2 e3 e4 hC0 bD hCD hZD
  go_wp2_with fail
  generalize wD.alloc (.cells #[.int .i64 d.k, .string d.n, .slice (some ⟨gD, 0, none⟩) d.c.length d.c.length, .slice (some ⟨zD, 0, none⟩) d.z.length d.z.length, .int .i64 d.p] 30) = wE at *
  generalize wD.heap.size = GX at *
  refine (implNodeOk_any d _ _ _ _ wE hCD'.cnds hZD'.ints hf (HFA.out wE hD0)).mono ?_
  rintro e wF ⟨rfl, hbF⟩
  have hF0 := bel_step hD0 hbF
  have TAF := TAD.on hbF
  have XF := XD.on hbF
  have hCF := hCD'.on hbF
  have hZF := hZD'.on hbF
  clear x0 x1 x2 x3 x4 TAD XD hCD' hZD' hD0 hbF
  obtain ⟨e0, e1, e2, e3, e4⟩ := TAF.c5
  obtain ⟨y0, y1, y2, y3, y4⟩ := XF.c5
  generalize nodeB d = tb
  have hbb : (tb != tb) = false := by simp
  have hgl := TAF.lt
  have hxl := XF.lt
  have hAC := HC.out wF hF0
  have hAZ := HZ.out wF hF0
  have HXX := Lib.hid (And.intro (And.intro e0 (And.intro e1 (And.intro e2 (And.intro e3 e4)))) (And.intro y0 (And.intro y1 (And.intro y2 (And.intro y3 y4)))))
  generalize hG : w.heap.size = G at *
  have HG := Lib.hid hG
  clear hG
  go_wp2_with fail
  go_region_held3 (fun w' => (w'.cell? ⟨G, 0, none⟩ = some (.int .i64 d.k) ∧ w'.cell? ⟨G, 1, none⟩ = some (.string d.n) ∧ w'.cell? ⟨G, 2, none⟩ = some (.slice Ac d.c.length cc) ∧ w'.cell? ⟨G, 3, none⟩ = some (.slice Az d.z.length cz) ∧ w'.cell? ⟨G, 4, none⟩ = some (.int .i64 d.p)) ∧ w'.cell? ⟨GX, 0, none⟩ = some (.int .i64 d.k) ∧ w'.cell? ⟨GX, 1, none⟩ = some (.string d.n) ∧ w'.cell? ⟨GX, 2, none⟩ = some (.slice (some ⟨gD, 0, none⟩) d.c.length d.c.length) ∧ w'.cell? ⟨GX, 3, none⟩ = some (.slice (some ⟨zD, 0, none⟩) d.z.length d.z.length) ∧ w'.cell? ⟨GX, 4, none⟩ = some (.int .i64 d.p))
    (first | go_keep | exact ⟨⟨(hk5.cell hgl).trans HXX.out.1.1, (hk5.cell hgl).trans HXX.out.1.2.1, (hk5.cell hgl).trans HXX.out.1.2.2.1, (hk5.cell hgl).trans HXX.out.1.2.2.2.1, (hk5.cell hgl).trans HXX.out.1.2.2.2.2⟩, (hk5.cell hxl).trans HXX.out.2.1, (hk5.cell hxl).trans HXX.out.2.2.1, (hk5.cell hxl).trans HXX.out.2.2.2.1, (hk5.cell hxl).trans HXX.out.2.2.2.2.1, (hk5.cell hxl).trans HXX.out.2.2.2.2.2⟩ | exact ⟨⟨(hk6.cell hgl).trans HXX.out.1.1, (hk6.cell hgl).trans HXX.out.1.2.1, (hk6.cell hgl).trans HXX.out.1.2.2.1, (hk6.cell hgl).trans HXX.out.1.2.2.2.1, (hk6.cell hgl).trans HXX.out.1.2.2.2.2⟩, (hk6.cell hxl).trans HXX.out.2.1, (hk6.cell hxl).trans HXX.out.2.2.1, (hk6.cell hxl).trans HXX.out.2.2.2.1, (hk6.cell hxl).trans HXX.out.2.2.2.2.1, (hk6.cell hxl).trans HXX.out.2.2.2.2.2⟩)
    (first | (go_at_call 8; refine (toNode_any d Ac cc Az cz _ (by exact hAC) (by exact hAZ) hf).mono ?_; rintro e w5 ⟨g5, z5, rfl, _, _, hC5, hZ5, hb5⟩; have hk5 : Below wF.heap.size wF w5 := (bel_drewN (Below.refl _ _) 1).trans hb5) | (go_at_call 10; refine (eqNode_same d _ _ _ _ _ _ _ _ w5 (hCF.on hk5).cnds hC5.cnds (hZF.on hk5).ints hZ5.ints hf).mono ?_; rintro e w6 ⟨rfl, hb6⟩; have hk6 : Below wF.heap.size wF w6 := bel_step hk5 hb6))
  go_wp2
  go_ret
  exact ⟨rfl, by rw [HG.out]; exact hF0.trans (hk6.mono (by omega))⟩
end Go.Proofs.YtcenfabjpgpofaaDoor
