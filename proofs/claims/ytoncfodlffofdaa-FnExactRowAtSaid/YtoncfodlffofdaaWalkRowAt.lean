/- The walk of laws.FnExactRowAt: it returns true, and nothing that lay has turned. -/
import Derived.Test.YtoncfodlffofdaaJC
import Derived.Test.YtoncfodlffofdaaTabFit
import Derived.Test.YtoncfodlffofdaaTabI3
namespace Go.Proofs.Ytoncfodlffofdaa
open Go.RowKit

set_option maxRecDepth 100000 in
set_option maxHeartbeats 8000000 in
theorem walkFnExactRowAt (s : ByteArray) (wd : Int) (a : Option Addr) (rows : List (List Int)) (cap : Nat) (q : Int) (w : World) (w0 : RawRows w w.heap.size a rows) (hm : rows.length ≤ maxLen) (hs : s.size ≤ maxLen) (_wq : (Lit.int .i64 q).wf = true) :
    Calls Try.prog 21 #[.agg #[.string s, .int .i64 wd, .slice a rows.length cap], .int .i64 q] w fun e w' => e = .returned (.bool true) ∧ Below w.heap.size w w' := by
  clear _wq
  have hW := (Below.refl w.heap.size w).alloc (Nat.le_refl _) (.cells #[.string s, .int .i64 wd, .slice a rows.length cap] 76)
  have TA := Blk.new w 76 #[.string s, .int .i64 wd, .slice a rows.length cap]
  have w1 := w0.on hW
  obtain ⟨a0, a1c, a2⟩ := TA.c3
  go_enter Try.func21, Try.ntmps21
  go_wp2_with fail
  generalize w.alloc (.cells #[.string s, .int .i64 wd, .slice a rows.length cap] 76) = wb at *
  refine (szTable_any s wd a cap rows wb w1 hs hm).mono ?_
  rintro e wA ⟨x, rfl, hx, hb⟩
  have HX := Lib.hid hx
  clear hx a0 a1c a2 w1 hs hm
  replace hW := bel_step hW hb
  replace TA := TA.on hb
  clear hb
  obtain ⟨a0, a1c, a2⟩ := TA.c3
  by_cases h0 : x < 0
  · go_wp2
    go_ret
    exact ⟨rfl, hW⟩
  obtain ⟨hls, hlr0, hlrr⟩ := HX.out (by omega)
  have HB := Lib.hid (show ∀ W, Below w.heap.size w W → Rws W W.heap.size a rows from fun W h => (w0.on h).rws (fun j hj => by have := hlrr j hj; omega))
  have HLr := Lib.hid hlrr
  have HLb := Lib.hid (show ∀ j, j < rows.length → (rr rows j).length ≤ 1099511627776 from fun j hj => by have := HLr.out j hj; omega)
  clear HX w0 hlrr
  obtain ⟨Z0, hZ0⟩ : ∃ Z0, atL s wd rows q = Z0 := ⟨_, rfl⟩
  obtain ⟨B0, hB0⟩ : ∃ B0, thereB s wd rows q = B0 := ⟨_, rfl⟩
  have hZl : Z0.length ≤ 1048576 := by rw [← hZ0]; exact at_fit HLr.out
  have HSS := Lib.hid (And.intro hZ0 hB0)
  clear hZ0 hB0
  have hbb : (B0 != B0) = false := by simp
  clear a0 a1c a2
  obtain ⟨TA0, TA1, TA2⟩ := TA.c3
  go_wp2_with fail
  refine (toTable_any s wd a cap rows wA (HB.out wA hW) (by omega)).mono ?_
  rintro e wB ⟨gB, esB, rfl, hOB, heB, hb⟩
  clear TA0 TA1 TA2
  have HEB := Lib.hid heB
  clear heB
  replace hW := bel_step hW hb
  replace TA := TA.on hb
  clear hb
  go_wp2_with fail
  refine (specRowAt_any s wd _ _ rows q wB (hOB.rwsW HEB.out HLb.out) (by omega) (by omega)).mono ?_
  rintro e wC ⟨vS, rfl, hTS, hb⟩
  rw [HSS.out.1] at hTS
  rw [HSS.out.2]
  obtain ⟨AS, cS, gS, rfl, hgS, SR⟩ := rowAt_of_own hTS
  clear hTS
  have hSl := SR.lt
  have hz1 := hb.size
  replace hW := bel_step hW hb
  replace TA := TA.on hb
  clear hb
  have hw0 := TA.lt
  clear hOB
  obtain ⟨TA0, TA1, TA2⟩ := TA.c3
  go_wp2_with fail
  refine (toTable_any s wd a cap rows wC (HB.out wC hW) (by omega)).mono ?_
  rintro e wD ⟨gX, esX, rfl, hOX, heX, hb⟩
  clear TA0 TA1 TA2
  have HEX := Lib.hid heX
  clear heX
  replace hW := bel_step hW hb
  replace TA := TA.on hb
  replace SR := SR.on hb
  have hz2 := hb.size
  clear hb
  have XR := hOX.wrin
  clear hOX
  have hb := (Below.refl wD.heap.size wD).alloc (Nat.le_refl _) (.cells #[.string s, .int .i64 wd, .slice (some ⟨gX, 0, none⟩) rows.length rows.length] 44)
  replace hW := bel_step hW hb
  replace TA := TA.on hb
  replace SR := SR.on hb
  replace XR := XR.on hb
  clear hb
  have XB := Blk.new wD 44 #[.string s, .int .i64 wd, .slice (some ⟨gX, 0, none⟩) rows.length rows.length]
  have hzX : (wD.alloc (.cells #[.string s, .int .i64 wd, .slice (some ⟨gX, 0, none⟩) rows.length rows.length] 44)).heap.size = wD.heap.size + 1 := by simp
  obtain ⟨XB0, XB1, XB2⟩ := XB.c3
  go_wp2_with fail
  generalize wD.alloc (.cells #[.string s, .int .i64 wd, .slice (some ⟨gX, 0, none⟩) rows.length rows.length] 44) = wE at *
  refine (implRowAt_any s wd _ _ rows q wE (XR.1.rwsW HEX.out HLb.out) (by omega) (by omega)).mono ?_
  rintro e wF ⟨vG, rfl, hTG, hb⟩
  clear XB0 XB1 XB2
  rw [HSS.out.1] at hTG
  rw [HSS.out.2]
  obtain ⟨AG, cG, gG, rfl, hgG, GR⟩ := rowAt_of_own hTG
  clear hTG
  have hz4 := hb.size
  replace hW := bel_step hW hb
  replace TA := TA.on hb
  replace SR := SR.on hb
  replace XR := XR.on hb
  replace XB := XB.on hb
  clear hb
  go_wp2_with fail
  refine (eqInt64S_any _ _ _ _ Z0 Z0 wF _ _ GR.ints SR.ints (by omega) (by omega)).mono ?_
  rintro e wG ⟨rfl, nE, hE⟩
  rw [decide_eq_true (rfl : Z0 = Z0)]
  have hb : Below wF.heap.size wF wG := by rw [hE]; exact bel_drewN (Below.refl _ _) nE
  clear hE
  replace hW := bel_step hW hb
  replace TA := TA.on hb
  replace SR := SR.on hb
  replace XR := XR.on hb
  replace XB := XB.on hb
  replace GR := GR.on hb
  clear hb
  obtain ⟨ta0, ta1, ta2⟩ := TA.c3
  obtain ⟨xb0, xb1, xb2⟩ := XB.c3
  have hgl := TA.lt
  have hxl := XB.lt
  have hRE := HB.out wG hW
  have HXX := Lib.hid (And.intro (And.intro ta0 (And.intro ta1 ta2)) (And.intro xb0 (And.intro xb1 xb2)))
  go_wp2_with fail
  go_region_held3 (fun w' => (w'.cell? ⟨w.heap.size, 0, none⟩ = some (.string s) ∧ w'.cell? ⟨w.heap.size, 1, none⟩ = some (.int .i64 wd) ∧ w'.cell? ⟨w.heap.size, 2, none⟩ = some (.slice a rows.length cap)) ∧ w'.cell? ⟨wD.heap.size, 0, none⟩ = some (.string s) ∧ w'.cell? ⟨wD.heap.size, 1, none⟩ = some (.int .i64 wd) ∧ w'.cell? ⟨wD.heap.size, 2, none⟩ = some (.slice (some ⟨gX, 0, none⟩) rows.length rows.length))
    (first | go_keep | exact ⟨⟨(hk5.cell hgl).trans HXX.out.1.1, (hk5.cell hgl).trans HXX.out.1.2.1, (hk5.cell hgl).trans HXX.out.1.2.2⟩, (hk5.cell hxl).trans HXX.out.2.1, (hk5.cell hxl).trans HXX.out.2.2.1, (hk5.cell hxl).trans HXX.out.2.2.2⟩ | exact ⟨⟨(hk6.cell hgl).trans HXX.out.1.1, (hk6.cell hgl).trans HXX.out.1.2.1, (hk6.cell hgl).trans HXX.out.1.2.2⟩, (hk6.cell hxl).trans HXX.out.2.1, (hk6.cell hxl).trans HXX.out.2.2.1, (hk6.cell hxl).trans HXX.out.2.2.2⟩)
    (first | (go_at_call 87; refine (toTable_any s wd a cap rows _ (by exact hRE) (by omega)).mono ?_; rintro e w5r ⟨g5, es5, rfl, hO5, he5, hb5⟩; have hk5 : Below wG.heap.size wG w5r := (bel_drewN (Below.refl _ _) 1).trans hb5) | (go_at_call 88; refine (eqTable_same s wd _ _ _ _ rows w5r ((XR.on hk5).1.rwsW HEX.out HLb.out) (hO5.rwsW he5 HLb.out) (by omega)).mono ?_; rintro e w6r ⟨rfl, hb6⟩; have hk6 : Below wG.heap.size wG w6r := bel_step hk5 hb6))
  clear ta0 ta1 ta2 xb0 xb1 xb2 hRE hO5 he5 hb5 hk5 hb6 HXX hgl hxl
  replace hW := bel_step hW hk6
  replace TA := TA.on hk6
  replace SR := SR.on hk6
  replace XR := XR.on hk6
  replace XB := XB.on hk6
  replace GR := GR.on hk6
  clear hk6
  have HMx := Lib.hid (show ∀ e ∈ esX, e.r.length ≤ 2097152 from ents_rr HEX.out (fun j hj => by have := HLr.out j hj; omega))
  have hXn : rows.length ≤ 2097152 := by omega
  obtain ⟨XB0, XB1, XB2⟩ := XB.c3
  go_wp2_with fail
  refine (markTable_own _ _ s wd _ rows.length _ esX 1 w6r XR hXn HMx.out (by omega) (by omega)).mono ?_
  rintro e wH ⟨rfl, _, hwi⟩
  clear XB0 XB1 XB2
  obtain ⟨hq0, hq1⟩ := kR_fit (k := 1) (by omega) HMx.out rows.length hXn
  clear XR
  replace hW := hW.trans ((hwi.wide (lo' := w.heap.size) (hi' := wD.heap.size) (by omega) (Nat.le_refl _)).bel hW.size)
  replace TA := TA.within hwi (.inl (by omega))
  replace SR := SR.within hwi (fun hn => .inl (by have := hSl hn; omega))
  replace XB := XB.within hwi (.inr (by omega))
  replace GR := GR.within hwi (fun _ => .inr (by omega))
  clear hwi
  generalize kR 1 esX rows.length = q1 at *
  go_wp2_with fail
  refine (eqInt64S_any _ _ _ _ Z0 Z0 wH _ _ GR.ints SR.ints (by omega) (by omega)).mono ?_
  rintro e wI ⟨rfl, nE, hE⟩
  rw [decide_eq_true (rfl : Z0 = Z0)]
  have hb : Below wH.heap.size wH wI := by rw [hE]; exact bel_drewN (Below.refl _ _) nE
  clear hE
  replace hW := bel_step hW hb
  replace TA := TA.on hb
  replace SR := SR.on hb
  replace XB := XB.on hb
  replace GR := GR.on hb
  clear hb
  clear hq1
  go_wp2_with fail
  refine (markInt64S_any _ _ gG Z0 1 wI GR (by omega) (by omega) (by omega)).mono ?_
  rintro e wJ ⟨rfl, GM, hg⟩
  clear GR
  replace hW := hW.grown hg hW.size (fun k e => by have e' : gG = k := Option.some.inj e; omega)
  replace SR := SR.kept hg (fun hn e => by have e' : gS = gG := Option.some.inj e; have := hSl hn; omega)
  replace TA := TA.grown hg (fun e => by have e' : w.heap.size = gG := Option.some.inj e; omega)
  replace XB := XB.grown hg (fun e => by have e' : wD.heap.size = gG := Option.some.inj e; omega)
  clear hg
  go_wp2_with fail
  refine (heldInt64S_any _ _ Z0.length _ 1 wJ GM.ints (by omega) (by omega) (by omega)).mono ?_
  rintro e wK ⟨rfl, hE⟩
  subst hE
  obtain ⟨TA0, TA1, TA2⟩ := TA.c3
  go_wp2_with fail
  refine (toTable_any s wd a cap rows wJ (HB.out wJ hW) (by omega)).mono ?_
  rintro e wL ⟨gP, esP, rfl, hOP, heP, hb⟩
  clear TA0 TA1 TA2
  have HEP := Lib.hid heP
  clear heP
  replace hW := bel_step hW hb
  replace TA := TA.on hb
  replace SR := SR.on hb
  replace XB := XB.on hb
  replace GM := GM.on hb
  clear hb
  go_wp2_with fail
  refine (implRowAt_any s wd _ _ rows q wL (hOP.rwsW HEP.out HLb.out) (by omega) (by omega)).mono ?_
  rintro e wM ⟨vH, rfl, hTH, hb⟩
  rw [HSS.out.1] at hTH
  rw [HSS.out.2]
  obtain ⟨AH, cH, gH, rfl, hgH, HR⟩ := rowAt_of_own hTH
  clear hTH
  replace hW := bel_step hW hb
  replace TA := TA.on hb
  replace SR := SR.on hb
  replace XB := XB.on hb
  replace GM := GM.on hb
  clear hb
  clear hOP
  go_wp2_with fail
  refine (eqInt64S_any _ _ _ _ Z0 Z0 wM _ _ HR.ints SR.ints (by omega) (by omega)).mono ?_
  rintro e wN ⟨rfl, nE, hE⟩
  rw [decide_eq_true (rfl : Z0 = Z0)]
  have hb : Below wM.heap.size wM wN := by rw [hE]; exact bel_drewN (Below.refl _ _) nE
  clear hE
  replace hW := bel_step hW hb
  replace TA := TA.on hb
  replace SR := SR.on hb
  replace XB := XB.on hb
  replace GM := GM.on hb
  replace HR := HR.on hb
  clear hb
  go_wp2_with fail
  refine (heldInt64S_any _ _ Z0.length _ 1 wN GM.ints (by omega) (by omega) (by omega)).mono ?_
  rintro e wO ⟨rfl, hE⟩
  subst hE
  go_wp2
  go_ret
  exact ⟨rfl, hW⟩
end Go.Proofs.Ytoncfodlffofdaa
