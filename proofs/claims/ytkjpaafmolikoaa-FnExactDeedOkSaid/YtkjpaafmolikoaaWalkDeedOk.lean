/- The walk of laws.FnExactDeedOk: it returns true, and nothing that lay has turned. -/
import Derived.Test.YtkjpaafmolikoaaDeed3
import Derived.Deep.RegionHeld3
namespace Go.Proofs.Ytkjpaafmolikoaa
open Go.RowKit

set_option maxRecDepth 100000 in
set_option maxHeartbeats 4000000 in
theorem walkFnExactDeedOk (k : Int) (s : ByteArray) (a : Option Addr) (cap : Nat) (zs : List Int) (w : World) (w0 : Ints w w.heap.size a zs) (hm : zs.length ≤ maxLen) (hs : s.size ≤ maxLen) :
    Calls Try.prog 4 #[.agg #[.int .i64 k, .string s, .slice a zs.length cap]] w fun e w' => e = .returned (.bool true) ∧ Below w.heap.size w w' := by
  have bc := (Below.refl w.heap.size w).alloc (Nat.le_refl _) (.cells #[.int .i64 k, .string s, .slice a zs.length cap] 47)
  have TA := Blk.new w 47 #[.int .i64 k, .string s, .slice a zs.length cap]
  obtain ⟨d0, d1, d2⟩ := TA.c3
  go_enter Try.func4, Try.ntmps4
  go_wp2_with fail
  generalize w.alloc (.cells #[.int .i64 k, .string s, .slice a zs.length cap] 47) = wb at *
  refine (szDeed_any k s a zs.length cap wb hs hm).mono ?_
  rintro e wA ⟨x, rfl, hx, hbA⟩
  have HX := Lib.hid hx
  have hA0 : Below w.heap.size w wA := bel_step bc hbA
  have TAA := TA.on hbA
  obtain ⟨e0, e1, e2⟩ := TAA.c3
  clear hx d0 d1 d2 TA bc hbA hs hm
  by_cases h0 : x < 0
  · go_wp2
    go_ret
    exact ⟨rfl, hA0⟩
  obtain ⟨hls, hlr⟩ := HX.out (by omega)
  have HB := Lib.hid (show ∀ W, Below w.heap.size w W → Ints W W.heap.size a zs from fun W h => w0.on h)
  clear HX w0
  -- the model's answer
  go_wp2_with fail
  refine (toDeed_any k s a cap zs wA (HB.out wA hA0) (by omega)).mono ?_
  rintro e wB ⟨gB, rfl, _, hOB, hbB⟩
  have hB0 := bel_step hA0 hbB
  have TAB := TAA.on hbB
  clear hbB TAA e0 e1 e2 hA0
  go_wp2_with fail
  refine (specDeedOk_any k s _ _ zs wB hOB.ints (by omega) (by omega)).mono ?_
  rintro e wC ⟨rfl, hbC⟩
  have hC0 := bel_step hB0 hbC
  have TAC := TAB.on hbC
  obtain ⟨e0, e1, e2⟩ := TAC.c3
  clear hbC TAB hB0 hOB
  -- the program's answer
  go_wp2_with fail
  refine (toDeed_any k s a cap zs wC (HB.out wC hC0) (by omega)).mono ?_
  rintro e wD ⟨gD, rfl, _, hOD, hbD⟩
  have bD := (Below.refl wD.heap.size wD).alloc (Nat.le_refl _) (.cells #[.int .i64 k, .string s, .slice (some ⟨gD, 0, none⟩) zs.length zs.length] 50)
  have hD0 := bel_step (bel_step hC0 hbD) bD
  have TAD := (TAC.on hbD).on bD
  have XD := Blk.new wD 50 #[.int .i64 k, .string s, .slice (some ⟨gD, 0, none⟩) zs.length zs.length]
  have hOD' := hOD.on bD
  obtain ⟨x0, x1, x2⟩ := XD.c3
  clear hbD TAC e0 e1 e2 hC0 bD hOD
  go_wp2_with fail
  generalize wD.alloc (.cells #[.int .i64 k, .string s, .slice (some ⟨gD, 0, none⟩) zs.length zs.length] 50) = wE at *
  generalize wD.heap.size = GX at *
  refine (implDeedOk_any k s _ _ zs wE hOD'.ints (by omega) (by omega)).mono ?_
  rintro e wF ⟨rfl, hbF⟩
  have hF0 := bel_step hD0 hbF
  have TAF := TAD.on hbF
  have XF := XD.on hbF
  have hOF := hOD'.on hbF
  obtain ⟨e0, e1, e2⟩ := TAF.c3
  obtain ⟨y0, y1, y2⟩ := XF.c3
  clear x0 x1 x2 TAD XD hOD' hD0 hbF
  generalize deedB k s zs = tb
  have hbb : (tb != tb) = false := by simp
  have hgl := TAF.lt
  have hxl := XF.lt
  have hRF := HB.out wF hF0
  have HXX := Lib.hid (And.intro (And.intro e0 (And.intro e1 e2)) (And.intro y0 (And.intro y1 y2)))
  generalize hG : w.heap.size = G at *
  have HG := Lib.hid hG
  clear hG
  go_wp2_with fail
  go_region_held3 (fun w' => (w'.cell? ⟨G, 0, none⟩ = some (.int .i64 k) ∧ w'.cell? ⟨G, 1, none⟩ = some (.string s) ∧ w'.cell? ⟨G, 2, none⟩ = some (.slice a zs.length cap)) ∧ w'.cell? ⟨GX, 0, none⟩ = some (.int .i64 k) ∧ w'.cell? ⟨GX, 1, none⟩ = some (.string s) ∧ w'.cell? ⟨GX, 2, none⟩ = some (.slice (some ⟨gD, 0, none⟩) zs.length zs.length))
    (first | go_keep | exact ⟨⟨(hk5.cell hgl).trans HXX.out.1.1, (hk5.cell hgl).trans HXX.out.1.2.1, (hk5.cell hgl).trans HXX.out.1.2.2⟩, (hk5.cell hxl).trans HXX.out.2.1, (hk5.cell hxl).trans HXX.out.2.2.1, (hk5.cell hxl).trans HXX.out.2.2.2⟩ | exact ⟨⟨(hk6.cell hgl).trans HXX.out.1.1, (hk6.cell hgl).trans HXX.out.1.2.1, (hk6.cell hgl).trans HXX.out.1.2.2⟩, (hk6.cell hxl).trans HXX.out.2.1, (hk6.cell hxl).trans HXX.out.2.2.1, (hk6.cell hxl).trans HXX.out.2.2.2⟩)
    (first | (go_at_call 35; refine (toDeed_any k s a cap zs _ (by exact hRF) (by omega)).mono ?_; rintro e w5 ⟨g5, rfl, _, hO5, hb5⟩; have hk5 : Below wF.heap.size wF w5 := (bel_drewN (Below.refl _ _) 1).trans hb5) | (go_at_call 37; refine (eqDeed_same k s _ _ _ _ zs w5 (hOF.on hk5).ints hO5.ints (by omega)).mono ?_; rintro e w6 ⟨rfl, hb6⟩; have hk6 : Below wF.heap.size wF w6 := bel_step hk5 hb6))
  go_wp2
  go_ret
  exact ⟨rfl, by rw [HG.out]; exact hF0.trans (hk6.mono (by omega))⟩
end Go.Proofs.Ytkjpaafmolikoaa
