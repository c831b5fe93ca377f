/- The walk of laws.FnExactTaken: it returns true, and nothing that lay has turned. -/
import Derived.Test.YtoncfodlffofdaaJC
import Derived.Test.YtoncfodlffofdaaTabFit
import Derived.Test.YtoncfodlffofdaaTabI5
namespace Go.Proofs.Ytoncfodlffofdaa
open Go.RowKit

set_option maxRecDepth 100000 in
set_option maxHeartbeats 8000000 in
theorem walkFnExactTaken (s : ByteArray) (wd : Int) (a : Option Addr) (rows : List (List Int)) (cap : Nat) (q : Int) (w : World) (w0 : RawRows w w.heap.size a rows) (hm : rows.length ≤ maxLen) (hs : s.size ≤ maxLen) (_wq : (Lit.int .i64 q).wf = true) :
    Calls Try.prog 23 #[.agg #[.string s, .int .i64 wd, .slice a rows.length cap], .int .i64 q] w fun e w' => e = .returned (.bool true) ∧ Below w.heap.size w w' := by
  clear _wq
  have hW := (Below.refl w.heap.size w).alloc (Nat.le_refl _) (.cells #[.string s, .int .i64 wd, .slice a rows.length cap] 76)
  have TA := Blk.new w 76 #[.string s, .int .i64 wd, .slice a rows.length cap]
  have w1 := w0.on hW
  obtain ⟨a0, a1c, a2⟩ := TA.c3
  go_enter Try.func23, Try.ntmps23
  go_wp2_with fail
  generalize w.alloc (.cells #[.string s, .int .i64 wd, .slice a rows.length cap] 76) = wb at *
  refine (szTable_any s wd a cap rows wb w1 hs hm).mono ?_
  rintro e wA ⟨x, rfl, hx, hb⟩
  have HX := Lib.hid hx
  clear hx a0 a1c a2 w1 hs hm
  replace hW := bel_step hW hb
  replace TA := TA.on hb
  clear hb
  obtain ⟨a0, a1c, a2⟩ := TA.c3
  by_cases h0 : x < 0
  · go_wp2
    go_ret
    exact ⟨rfl, hW⟩
  obtain ⟨hls, hlr0, hlrr⟩ := HX.out (by omega)
  have HB := Lib.hid (show ∀ W, Below w.heap.size w W → Rws W W.heap.size a rows from fun W h => (w0.on h).rws (fun j hj => by have := hlrr j hj; omega))
  have HLr := Lib.hid hlrr
  have HLb := Lib.hid (show ∀ j, j < rows.length → (rr rows j).length ≤ 1099511627776 from fun j hj => by have := HLr.out j hj; omega)
  clear HX w0 hlrr
  obtain ⟨S0, hS0⟩ : ∃ S0, tkS s (tabB s wd rows) = S0 := ⟨_, rfl⟩
  obtain ⟨W0, hW0⟩ : ∃ W0, tkW wd (tabB s wd rows) = W0 := ⟨_, rfl⟩
  obtain ⟨R0, hR0⟩ : ∃ R0, tkR (takenL rows q) (tabB s wd rows) = R0 := ⟨_, rfl⟩
  obtain ⟨B0, hB0⟩ : ∃ B0, thereB s wd rows q = B0 := ⟨_, rfl⟩
  obtain ⟨hRl, hRr⟩ := tkTaken_fit (q := q) (b := tabB s wd rows) HLr.out
  rw [hR0] at hRl hRr
  have HSS := Lib.hid (And.intro hS0 (And.intro hW0 (And.intro hR0 hB0)))
  clear hS0 hW0 hR0 hB0
  have HRr := Lib.hid hRr
  have HRb := Lib.hid (show ∀ j, j < R0.length → (rr R0 j).length ≤ 1099511627776 from fun j hj => by have := HRr.out j hj; omega)
  clear hRr
  have hbb : (B0 != B0) = false := by simp
  clear a0 a1c a2
  obtain ⟨TA0, TA1, TA2⟩ := TA.c3
  go_wp2_with fail
  refine (toTable_any s wd a cap rows wA (HB.out wA hW) (by omega)).mono ?_
  rintro e wB ⟨gB, esB, rfl, hOB, heB, hb⟩
  clear TA0 TA1 TA2
  have HEB := Lib.hid heB
  clear heB
  replace hW := bel_step hW hb
  replace TA := TA.on hb
  clear hb
  go_wp2_with fail
  refine (specTaken_any s wd _ _ rows q wB (hOB.rwsW HEB.out HLb.out) (by omega) (by omega)).mono ?_
  rintro e wC ⟨vS, rfl, hTS, hb⟩
  rw [HSS.out.1, HSS.out.2.1, HSS.out.2.2.1] at hTS
  obtain ⟨uS, eS, rfl, hRS, hqS⟩ := hTS
  rw [HSS.out.2.2.2]
  obtain ⟨AS, cS, rfl⟩ := hRS.formW hqS
  have HQS := Lib.hid hqS
  clear hqS
  have SR := hRS.wrin
  clear hRS
  have hz1 := hb.size
  replace hW := bel_step hW hb
  replace TA := TA.on hb
  clear hb
  have hw0 := TA.lt
  clear hOB
  have hb := (Below.refl wC.heap.size wC).alloc (Nat.le_refl _) (.cells #[.string S0, .int .i64 W0, .slice AS R0.length cS] 44)
  replace hW := bel_step hW hb
  replace TA := TA.on hb
  replace SR := SR.on hb
  clear hb
  have SB := Blk.new wC 44 #[.string S0, .int .i64 W0, .slice AS R0.length cS]
  have hzS : (wC.alloc (.cells #[.string S0, .int .i64 W0, .slice AS R0.length cS] 44)).heap.size = wC.heap.size + 1 := by simp
  obtain ⟨TA0, TA1, TA2⟩ := TA.c3
  go_wp2_with fail
  generalize wC.alloc (.cells #[.string S0, .int .i64 W0, .slice AS R0.length cS] 44) = wD at *
  refine (toTable_any s wd a cap rows wD (HB.out wD hW) (by omega)).mono ?_
  rintro e wE ⟨gX, esX, rfl, hOX, heX, hb⟩
  clear TA0 TA1 TA2
  have HEX := Lib.hid heX
  clear heX
  replace hW := bel_step hW hb
  replace TA := TA.on hb
  replace SR := SR.on hb
  replace SB := SB.on hb
  have hz2 := hb.size
  clear hb
  have XR := hOX.wrin
  clear hOX
  have hb := (Below.refl wE.heap.size wE).alloc (Nat.le_refl _) (.cells #[.string s, .int .i64 wd, .slice (some ⟨gX, 0, none⟩) rows.length rows.length] 44)
  replace hW := bel_step hW hb
  replace TA := TA.on hb
  replace SR := SR.on hb
  replace SB := SB.on hb
  replace XR := XR.on hb
  clear hb
  have XB := Blk.new wE 44 #[.string s, .int .i64 wd, .slice (some ⟨gX, 0, none⟩) rows.length rows.length]
  have hzX : (wE.alloc (.cells #[.string s, .int .i64 wd, .slice (some ⟨gX, 0, none⟩) rows.length rows.length] 44)).heap.size = wE.heap.size + 1 := by simp
  obtain ⟨XB0, XB1, XB2⟩ := XB.c3
  go_wp2_with fail
  generalize wE.alloc (.cells #[.string s, .int .i64 wd, .slice (some ⟨gX, 0, none⟩) rows.length rows.length] 44) = wF at *
  refine (implTaken_any s wd _ _ rows q wF (XR.1.rwsW HEX.out HLb.out) (by omega) (by omega)).mono ?_
  rintro e wG ⟨vG, rfl, hTG, hb⟩
  clear XB0 XB1 XB2
  rw [HSS.out.1, HSS.out.2.1, HSS.out.2.2.1] at hTG
  obtain ⟨uG, eG, rfl, hRG, hqG⟩ := hTG
  rw [HSS.out.2.2.2]
  obtain ⟨AG, cG, rfl⟩ := hRG.formW hqG
  have HQG := Lib.hid hqG
  clear hqG
  have GR := hRG.rin
  clear hRG
  have hz4 := hb.size
  replace hW := bel_step hW hb
  replace TA := TA.on hb
  replace SR := SR.on hb
  replace SB := SB.on hb
  replace XR := XR.on hb
  replace XB := XB.on hb
  clear hb
  have hb := (Below.refl wG.heap.size wG).alloc (Nat.le_refl _) (.cells #[.string S0, .int .i64 W0, .slice AG R0.length cG] 44)
  replace hW := bel_step hW hb
  replace TA := TA.on hb
  replace SR := SR.on hb
  replace SB := SB.on hb
  replace XR := XR.on hb
  replace XB := XB.on hb
  replace GR := GR.on hb
  clear hb
  have GB := Blk.new wG 44 #[.string S0, .int .i64 W0, .slice AG R0.length cG]
  have hzG : (wG.alloc (.cells #[.string S0, .int .i64 W0, .slice AG R0.length cG] 44)).heap.size = wG.heap.size + 1 := by simp
  obtain ⟨GB0, GB1, GB2⟩ := GB.c3
  obtain ⟨SB0, SB1, SB2⟩ := SB.c3
  go_wp2_with fail
  generalize wG.alloc (.cells #[.string S0, .int .i64 W0, .slice AG R0.length cG] 44) = wH at *
  refine (eqTable_same S0 W0 _ _ _ _ R0 wH (GR.1.rwsW HQG.out HRb.out) (SR.1.rwsW HQS.out HRb.out) (by omega)).mono ?_
  rintro e wI ⟨rfl, hb⟩
  clear GB0 GB1 GB2 SB0 SB1 SB2
  replace hW := bel_step hW hb
  replace TA := TA.on hb
  replace SR := SR.on hb
  replace SB := SB.on hb
  replace XR := XR.on hb
  replace XB := XB.on hb
  replace GR := GR.on hb
  replace GB := GB.on hb
  clear hb
  obtain ⟨ta0, ta1, ta2⟩ := TA.c3
  obtain ⟨xb0, xb1, xb2⟩ := XB.c3
  have hgl := TA.lt
  have hxl := XB.lt
  have hRE := HB.out wI hW
  have HXX := Lib.hid (And.intro (And.intro ta0 (And.intro ta1 ta2)) (And.intro xb0 (And.intro xb1 xb2)))
  go_wp2_with fail
  go_region_held3 (fun w' => (w'.cell? ⟨w.heap.size, 0, none⟩ = some (.string s) ∧ w'.cell? ⟨w.heap.size, 1, none⟩ = some (.int .i64 wd) ∧ w'.cell? ⟨w.heap.size, 2, none⟩ = some (.slice a rows.length cap)) ∧ w'.cell? ⟨wE.heap.size, 0, none⟩ = some (.string s) ∧ w'.cell? ⟨wE.heap.size, 1, none⟩ = some (.int .i64 wd) ∧ w'.cell? ⟨wE.heap.size, 2, none⟩ = some (.slice (some ⟨gX, 0, none⟩) rows.length rows.length))
    (first | go_keep | exact ⟨⟨(hk5.cell hgl).trans HXX.out.1.1, (hk5.cell hgl).trans HXX.out.1.2.1, (hk5.cell hgl).trans HXX.out.1.2.2⟩, (hk5.cell hxl).trans HXX.out.2.1, (hk5.cell hxl).trans HXX.out.2.2.1, (hk5.cell hxl).trans HXX.out.2.2.2⟩ | exact ⟨⟨(hk6.cell hgl).trans HXX.out.1.1, (hk6.cell hgl).trans HXX.out.1.2.1, (hk6.cell hgl).trans HXX.out.1.2.2⟩, (hk6.cell hxl).trans HXX.out.2.1, (hk6.cell hxl).trans HXX.out.2.2.1, (hk6.cell hxl).trans HXX.out.2.2.2⟩)
    (first | (go_at_call 87; refine (toTable_any s wd a cap rows _ (by exact hRE) (by omega)).mono ?_; rintro e w5r ⟨g5, es5, rfl, hO5, he5, hb5⟩; have hk5 : Below wI.heap.size wI w5r := (bel_drewN (Below.refl _ _) 1).trans hb5) | (go_at_call 88; refine (eqTable_same s wd _ _ _ _ rows w5r ((XR.on hk5).1.rwsW HEX.out HLb.out) (hO5.rwsW he5 HLb.out) (by omega)).mono ?_; rintro e w6r ⟨rfl, hb6⟩; have hk6 : Below wI.heap.size wI w6r := bel_step hk5 hb6))
  clear ta0 ta1 ta2 xb0 xb1 xb2 hRE hO5 he5 hb5 hk5 hb6 HXX hgl hxl
  replace hW := bel_step hW hk6
  replace TA := TA.on hk6
  replace SR := SR.on hk6
  replace SB := SB.on hk6
  replace XR := XR.on hk6
  replace XB := XB.on hk6
  replace GR := GR.on hk6
  replace GB := GB.on hk6
  clear hk6
  have HMx := Lib.hid (show ∀ e ∈ esX, e.r.length ≤ 2097152 from ents_rr HEX.out (fun j hj => by have := HLr.out j hj; omega))
  have hXn : rows.length ≤ 2097152 := by omega
  obtain ⟨XB0, XB1, XB2⟩ := XB.c3
  go_wp2_with fail
  refine (markTable_own _ _ s wd _ rows.length _ esX 1 w6r XR hXn HMx.out (by omega) (by omega)).mono ?_
  rintro e wJ ⟨rfl, _, hwi⟩
  clear XB0 XB1 XB2
  obtain ⟨hq0, hq1⟩ := kR_fit (k := 1) (by omega) HMx.out rows.length hXn
  clear XR
  replace hW := hW.trans ((hwi.wide (lo' := w.heap.size) (hi' := wE.heap.size) (by omega) (Nat.le_refl _)).bel hW.size)
  replace TA := TA.within hwi (.inl (by omega))
  replace SR := SR.within hwi (.inl (by omega))
  replace SB := SB.within hwi (.inl (by omega))
  replace XB := XB.within hwi (.inr (by omega))
  replace GR := GR.within hwi (.inr (by omega))
  replace GB := GB.within hwi (.inr (by omega))
  clear hwi
  generalize kR 1 esX rows.length = q1 at *
  obtain ⟨GB0, GB1, GB2⟩ := GB.c3
  obtain ⟨SB0, SB1, SB2⟩ := SB.c3
  go_wp2_with fail
  refine (eqTable_same S0 W0 _ _ _ _ R0 wJ (GR.1.rwsW HQG.out HRb.out) (SR.1.rwsW HQS.out HRb.out) (by omega)).mono ?_
  rintro e wK ⟨rfl, hb⟩
  clear GB0 GB1 GB2 SB0 SB1 SB2
  replace hW := bel_step hW hb
  replace TA := TA.on hb
  replace SR := SR.on hb
  replace SB := SB.on hb
  replace XB := XB.on hb
  replace GR := GR.on hb
  replace GB := GB.on hb
  clear hb
  clear hq1
  have HMg := Lib.hid (show ∀ e ∈ eG, e.r.length ≤ 2097152 from ents_rr HQG.out (fun j hj => by have := HRr.out j hj; omega))
  have hGn : R0.length ≤ 2097152 := by omega
  have HGL := Lib.hid (show R0.length = eG.length by rw [← HQG.out, List.length_map])
  obtain ⟨GB0, GB1, GB2⟩ := GB.c3
  go_wp2_with fail
  refine (markTable_own _ _ S0 W0 _ R0.length _ eG 1 wK GR hGn HMg.out (by omega) (by omega)).mono ?_
  rintro e wL ⟨rfl, GM, hwi⟩
  clear GB0 GB1 GB2
  clear GR
  obtain ⟨hm0, hm1g⟩ := kR_fit (k := 1) (by omega) HMg.out R0.length hGn
  replace hW := hW.trans ((hwi.wide (lo' := w.heap.size) (hi' := wG.heap.size) (by omega) (Nat.le_refl _)).bel hW.size)
  replace TA := TA.within hwi (.inl (by omega))
  replace SR := SR.within hwi (.inl (by omega))
  replace SB := SB.within hwi (.inl (by omega))
  replace XB := XB.within hwi (.inl (by omega))
  replace GB := GB.within hwi (.inr (by omega))
  clear hwi
  have HMb := Lib.hid (show ∀ e ∈ eG, e.r.length ≤ 1099511627776 from fun e he => by have := HMg.out e he; omega)
  obtain ⟨GB0, GB1, GB2⟩ := GB.c3
  go_wp2_with fail
  refine (heldTable_any S0 W0 _ R0.length _ eG 1 wL HGL.out (GM.rwsK HMb.out) hGn HMg.out (by omega) (by omega)).mono ?_
  rintro e wM ⟨rfl, hb⟩
  clear GB0 GB1 GB2
  replace hW := bel_step hW hb
  replace TA := TA.on hb
  replace SR := SR.on hb
  replace SB := SB.on hb
  replace XB := XB.on hb
  replace GB := GB.on hb
  replace GM := GM.on hb
  clear hb
  obtain ⟨q3, hq3⟩ : ∃ q3, kR 1 eG R0.length = q3 := ⟨_, rfl⟩
  rw [hq3] at hm0 hm1g ⊢
  have HQ3 := Lib.hid hq3
  clear hq3
  obtain ⟨TA0, TA1, TA2⟩ := TA.c3
  go_wp2_with fail
  refine (toTable_any s wd a cap rows wM (HB.out wM hW) (by omega)).mono ?_
  rintro e wN ⟨gP, esP, rfl, hOP, heP, hb⟩
  clear TA0 TA1 TA2
  have HEP := Lib.hid heP
  clear heP
  replace hW := bel_step hW hb
  replace TA := TA.on hb
  replace SR := SR.on hb
  replace SB := SB.on hb
  replace XB := XB.on hb
  replace GB := GB.on hb
  replace GM := GM.on hb
  clear hb
  go_wp2_with fail
  refine (implTaken_any s wd _ _ rows q wN (hOP.rwsW HEP.out HLb.out) (by omega) (by omega)).mono ?_
  rintro e wO ⟨vH, rfl, hTH, hb⟩
  rw [HSS.out.1, HSS.out.2.1, HSS.out.2.2.1] at hTH
  obtain ⟨uH, eH, rfl, hRH, hqH⟩ := hTH
  rw [HSS.out.2.2.2]
  obtain ⟨AH, cH, rfl⟩ := hRH.formW hqH
  have HQH := Lib.hid hqH
  clear hqH
  have HR := hRH.rin
  clear hRH
  replace hW := bel_step hW hb
  replace TA := TA.on hb
  replace SR := SR.on hb
  replace SB := SB.on hb
  replace XB := XB.on hb
  replace GB := GB.on hb
  replace GM := GM.on hb
  clear hb
  clear hOP
  have hb := (Below.refl wO.heap.size wO).alloc (Nat.le_refl _) (.cells #[.string S0, .int .i64 W0, .slice AH R0.length cH] 44)
  replace hW := bel_step hW hb
  replace TA := TA.on hb
  replace SR := SR.on hb
  replace SB := SB.on hb
  replace XB := XB.on hb
  replace GB := GB.on hb
  replace GM := GM.on hb
  replace HR := HR.on hb
  clear hb
  have HB := Blk.new wO 44 #[.string S0, .int .i64 W0, .slice AH R0.length cH]
  have hzH : (wO.alloc (.cells #[.string S0, .int .i64 W0, .slice AH R0.length cH] 44)).heap.size = wO.heap.size + 1 := by simp
  obtain ⟨HB0, HB1, HB2⟩ := HB.c3
  obtain ⟨SB0, SB1, SB2⟩ := SB.c3
  go_wp2_with fail
  generalize wO.alloc (.cells #[.string S0, .int .i64 W0, .slice AH R0.length cH] 44) = wP at *
  refine (eqTable_same S0 W0 _ _ _ _ R0 wP (HR.1.rwsW HQH.out HRb.out) (SR.1.rwsW HQS.out HRb.out) (by omega)).mono ?_
  rintro e wQ ⟨rfl, hb⟩
  clear HB0 HB1 HB2 SB0 SB1 SB2
  replace hW := bel_step hW hb
  replace TA := TA.on hb
  replace SR := SR.on hb
  replace SB := SB.on hb
  replace XB := XB.on hb
  replace GB := GB.on hb
  replace GM := GM.on hb
  replace HR := HR.on hb
  replace HB := HB.on hb
  clear hb
  obtain ⟨GB0, GB1, GB2⟩ := GB.c3
  go_wp2_with fail
  refine (heldTable_any S0 W0 _ R0.length _ eG 1 wQ HGL.out (GM.rwsK HMb.out) hGn HMg.out (by omega) (by omega)).mono ?_
  rintro e wR ⟨rfl, hb⟩
  clear GB0 GB1 GB2
  replace hW := bel_step hW hb
  replace TA := TA.on hb
  replace SR := SR.on hb
  replace SB := SB.on hb
  replace XB := XB.on hb
  replace GB := GB.on hb
  replace GM := GM.on hb
  replace HR := HR.on hb
  replace HB := HB.on hb
  clear hb
  rw [HQ3.out]
  go_wp2
  go_ret
  exact ⟨rfl, hW⟩
end Go.Proofs.Ytoncfodlffofdaa
