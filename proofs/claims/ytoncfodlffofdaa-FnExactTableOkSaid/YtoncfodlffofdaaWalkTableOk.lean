/- The walk of laws.FnExactTableOk: it returns true, and nothing that lay has turned. -/
import Derived.Test.YtoncfodlffofdaaJC
namespace Go.Proofs.Ytoncfodlffofdaa
open Go.RowKit

set_option maxRecDepth 100000 in
set_option maxHeartbeats 4000000 in
theorem walkFnExactTableOk (s : ByteArray) (wd : Int) (a : Option Addr) (rows : List (List Int)) (cap : Nat) (w : World) (w0 : RawRows w w.heap.size a rows) (hm : rows.length ≤ maxLen) (hs : s.size ≤ maxLen) :
    Calls Try.prog 20 #[.agg #[.string s, .int .i64 wd, .slice a rows.length cap]] w fun e w' => e = .returned (.bool true) ∧ Below w.heap.size w w' := by
  have bc := (Below.refl w.heap.size w).alloc (Nat.le_refl _) (.cells #[.string s, .int .i64 wd, .slice a rows.length cap] 76)
  have TA := Blk.new w 76 #[.string s, .int .i64 wd, .slice a rows.length cap]
  have w1 := w0.on bc
  obtain ⟨d0, d1, d2⟩ := TA.c3
  go_enter Try.func20, Try.ntmps20
  go_wp2_with fail
  generalize w.alloc (.cells #[.string s, .int .i64 wd, .slice a rows.length cap] 76) = wb at *
  refine (szTable_any s wd a cap rows wb w1 hs hm).mono ?_
  rintro e wA ⟨x, rfl, hx, hbA⟩
  have HX := Lib.hid hx
  have hA0 : Below w.heap.size w wA := bel_step bc hbA
  have TAA := TA.on hbA
  obtain ⟨e0, e1, e2⟩ := TAA.c3
  clear hx d0 d1 d2 TA bc hbA w1 hs hm
  by_cases h0 : x < 0
  · go_wp2
    go_ret
    exact ⟨rfl, hA0⟩
  obtain ⟨hls, hlr, hlrr⟩ := HX.out (by omega)
  have HB := Lib.hid (show ∀ W, Below w.heap.size w W → Rws W W.heap.size a rows from fun W h => (w0.on h).rws (fun j hj => by have := hlrr j hj; omega))
  have HLb := Lib.hid (show ∀ j, j < rows.length → (rr rows j).length ≤ 1099511627776 from fun j hj => by have := hlrr j hj; omega)
  clear HX w0 hlrr
  -- the model's answer
  go_wp2_with fail
  refine (toTable_any s wd a cap rows wA (HB.out wA hA0) (by omega)).mono ?_
  rintro e wB ⟨gB, esB, rfl, hOB, heB, hbB⟩
  have HEB := Lib.hid heB
  have hB0 := bel_step hA0 hbB
  have TAB := TAA.on hbB
  clear heB hbB TAA e0 e1 e2 hA0
  go_wp2_with fail
  refine (specTableOk_any s wd _ _ rows wB (hOB.rwsW HEB.out HLb.out) (by omega) (by omega)).mono ?_
  rintro e wC ⟨rfl, hbC⟩
  have hC0 := bel_step hB0 hbC
  have TAC := TAB.on hbC
  obtain ⟨e0, e1, e2⟩ := TAC.c3
  clear hbC TAB hB0 hOB
  -- the program's answer
  go_wp2_with fail
  refine (toTable_any s wd a cap rows wC (HB.out wC hC0) (by omega)).mono ?_
  rintro e wD ⟨gD, esD, rfl, hOD, heD, hbD⟩
  have HED := Lib.hid heD
  have bD := (Below.refl wD.heap.size wD).alloc (Nat.le_refl _) (.cells #[.string s, .int .i64 wd, .slice (some ⟨gD, 0, none⟩) rows.length rows.length] 44)
  have hD0 := bel_step (bel_step hC0 hbD) bD
  have TAD := (TAC.on hbD).on bD
  have XD := Blk.new wD 44 #[.string s, .int .i64 wd, .slice (some ⟨gD, 0, none⟩) rows.length rows.length]
  have hOD' := hOD.on bD
  obtain ⟨x0, x1, x2⟩ := XD.c3
  clear heD hbD TAC e0 e1 e2 hC0 bD hOD
  go_wp2_with fail
  generalize wD.alloc (.cells #[.string s, .int .i64 wd, .slice (some ⟨gD, 0, none⟩) rows.length rows.length] 44) = wd' at *
  generalize wD.heap.size = GX at *
  refine (implTableOk_any s wd _ _ rows wd' (hOD'.rwsW HED.out HLb.out) (by omega) (by omega)).mono ?_
  rintro e wE ⟨rfl, hbE⟩
  have hE0 := bel_step hD0 hbE
  have TAE := TAD.on hbE
  have XE := XD.on hbE
  have hOE := hOD'.on hbE
  obtain ⟨e0, e1, e2⟩ := TAE.c3
  obtain ⟨y0, y1, y2⟩ := XE.c3
  clear hbE TAD XD hOD' x0 x1 x2 hD0
  generalize tabB s wd rows = tb
  have hbb : (tb != tb) = false := by simp
  have hgl := TAE.lt
  have hxl := XE.lt
  have hRE := HB.out wE hE0
  have HXX := Lib.hid (And.intro (And.intro e0 (And.intro e1 e2)) (And.intro y0 (And.intro y1 y2)))
  generalize hG : w.heap.size = G at *
  have HG := Lib.hid hG
  clear hG
  go_wp2_with fail
  go_region_held3 (fun w' => (w'.cell? ⟨G, 0, none⟩ = some (.string s) ∧ w'.cell? ⟨G, 1, none⟩ = some (.int .i64 wd) ∧ w'.cell? ⟨G, 2, none⟩ = some (.slice a rows.length cap)) ∧ w'.cell? ⟨GX, 0, none⟩ = some (.string s) ∧ w'.cell? ⟨GX, 1, none⟩ = some (.int .i64 wd) ∧ w'.cell? ⟨GX, 2, none⟩ = some (.slice (some ⟨gD, 0, none⟩) rows.length rows.length))
    (first | go_keep | exact ⟨⟨(hk5.cell hgl).trans HXX.out.1.1, (hk5.cell hgl).trans HXX.out.1.2.1, (hk5.cell hgl).trans HXX.out.1.2.2⟩, (hk5.cell hxl).trans HXX.out.2.1, (hk5.cell hxl).trans HXX.out.2.2.1, (hk5.cell hxl).trans HXX.out.2.2.2⟩ | exact ⟨⟨(hk6.cell hgl).trans HXX.out.1.1, (hk6.cell hgl).trans HXX.out.1.2.1, (hk6.cell hgl).trans HXX.out.1.2.2⟩, (hk6.cell hxl).trans HXX.out.2.1, (hk6.cell hxl).trans HXX.out.2.2.1, (hk6.cell hxl).trans HXX.out.2.2.2⟩)
    (first | (go_at_call 87; refine (toTable_any s wd a cap rows _ (by exact hRE) (by omega)).mono ?_; rintro e w5 ⟨g5, es5, rfl, hO5, he5, hb5⟩; have hk5 : Below wE.heap.size wE w5 := (bel_drewN (Below.refl _ _) 1).trans hb5) | (go_at_call 88; refine (eqTable_same s wd _ _ _ _ rows w5 ((hOE.on hk5).rwsW HED.out HLb.out) (hO5.rwsW he5 HLb.out) (by omega)).mono ?_; rintro e w6 ⟨rfl, hb6⟩; have hk6 : Below wE.heap.size wE w6 := bel_step hk5 hb6))
  go_wp2
  go_ret
  exact ⟨rfl, by rw [HG.out]; exact hE0.trans (hk6.mono (by omega))⟩
end Go.Proofs.Ytoncfodlffofdaa
