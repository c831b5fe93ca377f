/- The walk of laws.FnExactPlaced: it returns true, and nothing that lay has turned. -/
import Derived.Test.YtoncfodlffofdaaJC
import Derived.Test.YtoncfodlffofdaaTabFit
import Derived.Test.YtoncfodlffofdaaTabI6
namespace Go.Proofs.Ytoncfodlffofdaa
open Go.RowKit

set_option maxRecDepth 100000 in
set_option maxHeartbeats 8000000 in
theorem walkFnExactPlaced (s : ByteArray) (wd : Int) (a : Option Addr) (rows : List (List Int)) (cap : Nat) (a1 : Option Addr) (len1 cap1 : Nat) (z1 : List Int) (w : World) (w0 : RawRows w w.heap.size a rows) (hm : rows.length ≤ maxLen) (hs : s.size ≤ maxLen) (w1' : IsRow .i64 w a1 len1 cap1 z1) :
    Calls Try.prog 22 #[.agg #[.string s, .int .i64 wd, .slice a rows.length cap], .slice a1 len1 cap1] w fun e w' => e = .returned (.bool true) ∧ Below w.heap.size w w' := by
  obtain ⟨row, rfl, hI, hm1, _⟩ := isRow_ints w1'
  unfold maxLen at hm1
  clear w1'
  have hW := (Below.refl w.heap.size w).alloc (Nat.le_refl _) (.cells #[.string s, .int .i64 wd, .slice a rows.length cap] 76)
  have TA := Blk.new w 76 #[.string s, .int .i64 wd, .slice a rows.length cap]
  have w1 := w0.on hW
  obtain ⟨a0, a1c, a2⟩ := TA.c3
  by_cases hbig : 1048576 < row.length
  · have hb : (1048576 : Int) < (row.length : Int) := by omega
    go_enter Try.func22, Try.ntmps22
    go_wp2
    go_ret
    exact ⟨rfl, hW⟩
  have hb : decide ((1048576 : Int) < (row.length : Int)) = false := by simp; omega
  have hlr : row.length ≤ 1048576 := by omega
  go_enter Try.func22, Try.ntmps22
  go_wp2_with fail
  clear hb hbig
  generalize w.alloc (.cells #[.string s, .int .i64 wd, .slice a rows.length cap] 76) = wb at *
  refine (szTable_any s wd a cap rows wb w1 hs hm).mono ?_
  rintro e wA ⟨x, rfl, hx, hb⟩
  have HX := Lib.hid hx
  clear hx a0 a1c a2 w1 hs hm
  replace hW := bel_step hW hb
  replace TA := TA.on hb
  clear hb
  obtain ⟨a0, a1c, a2⟩ := TA.c3
  by_cases h0 : x < 0
  · go_wp2
    go_ret
    exact ⟨rfl, hW⟩
  obtain ⟨hls, hlr0, hlrr⟩ := HX.out (by omega)
  have HB := Lib.hid (show ∀ W, Below w.heap.size w W → Rws W W.heap.size a rows from fun W h => (w0.on h).rws (fun j hj => by have := hlrr j hj; omega))
  have HI := Lib.hid (show ∀ W, Below w.heap.size w W → Ints W W.heap.size a1 row from fun W h => hI.on h)
  clear hI
  have HLr := Lib.hid hlrr
  have HLb := Lib.hid (show ∀ j, j < rows.length → (rr rows j).length ≤ 1099511627776 from fun j hj => by have := HLr.out j hj; omega)
  clear HX w0 hlrr
  obtain ⟨S0, hS0⟩ : ∃ S0, tkS s (tabB s wd rows) = S0 := ⟨_, rfl⟩
  obtain ⟨W0, hW0⟩ : ∃ W0, tkW wd (tabB s wd rows) = W0 := ⟨_, rfl⟩
  obtain ⟨R0, hR0⟩ : ∃ R0, tkR (plR rows row (plB s wd rows row)) (tabB s wd rows) = R0 := ⟨_, rfl⟩
  obtain ⟨B0, hB0⟩ : ∃ B0, plB s wd rows row = B0 := ⟨_, rfl⟩
  obtain ⟨hRl, hRr⟩ := tkPlaced_fit (b := tabB s wd rows) (b2 := plB s wd rows row) HLr.out hlr
  rw [hR0] at hRl hRr
  have HSS := Lib.hid (And.intro hS0 (And.intro hW0 (And.intro hR0 hB0)))
  clear hS0 hW0 hR0 hB0
  have HRr := Lib.hid hRr
  have HRb := Lib.hid (show ∀ j, j < R0.length → (rr R0 j).length ≤ 1099511627776 from fun j hj => by have := HRr.out j hj; omega)
  clear hRr
  have hbb : (B0 != B0) = false := by simp
  clear a0 a1c a2
  obtain ⟨TA0, TA1, TA2⟩ := TA.c3
  go_wp2_with fail
  refine (toTable_any s wd a cap rows wA (HB.out wA hW) (by omega)).mono ?_
  rintro e wB ⟨gB, esB, rfl, hOB, heB, hb⟩
  clear TA0 TA1 TA2
  have HEB := Lib.hid heB
  clear heB
  replace hW := bel_step hW hb
  replace TA := TA.on hb
  clear hb
  go_wp2_with fail
  refine (toInt64S_any a1 cap1 row wB (HI.out wB hW) (by omega)).mono ?_
  rintro e wC ⟨rfl, XB, hb, _⟩
  replace hW := bel_step hW hb
  replace TA := TA.on hb
  replace hOB := hOB.on hb
  clear hb
  go_wp2_with fail
  refine (specPlaced_any s wd _ _ _ _ rows row wC (hOB.rwsW HEB.out HLb.out) XB.ints (by omega) (by omega) (by omega)).mono ?_
  rintro e wD ⟨vS, rfl, hTS, hb⟩
  rw [HSS.out.1, HSS.out.2.1, HSS.out.2.2.1] at hTS
  obtain ⟨uS, eS, rfl, hRS, hqS⟩ := hTS
  rw [HSS.out.2.2.2]
  obtain ⟨AS, cS, rfl⟩ := hRS.formW hqS
  have HQS := Lib.hid hqS
  clear hqS
  have SR := hRS.wrin
  clear hRS
  have hz1 := hb.size
  replace hW := bel_step hW hb
  replace TA := TA.on hb
  clear hb
  have hw0 := TA.lt
  clear hOB XB
  have hb := (Below.refl wD.heap.size wD).alloc (Nat.le_refl _) (.cells #[.string S0, .int .i64 W0, .slice AS R0.length cS] 44)
  replace hW := bel_step hW hb
  replace TA := TA.on hb
  replace SR := SR.on hb
  clear hb
  have SB := Blk.new wD 44 #[.string S0, .int .i64 W0, .slice AS R0.length cS]
  have hzS : wD.heap.size < (wD.alloc (.cells #[.string S0, .int .i64 W0, .slice AS R0.length cS] 44)).heap.size := by rw [World.size_alloc]; exact Nat.lt_succ_self _
  obtain ⟨TA0, TA1, TA2⟩ := TA.c3
  go_wp2_with fail
  generalize wD.alloc (.cells #[.string S0, .int .i64 W0, .slice AS R0.length cS] 44) = wE at *
  refine (toTable_any s wd a cap rows wE (HB.out wE hW) (by omega)).mono ?_
  rintro e wF ⟨gX, esX, rfl, hOX, heX, hb⟩
  clear TA0 TA1 TA2
  have HEX := Lib.hid heX
  clear heX
  replace hW := bel_step hW hb
  replace TA := TA.on hb
  replace SR := SR.on hb
  replace SB := SB.on hb
  have hz2 := hb.size
  clear hb
  have XR := hOX.wrin
  clear hOX
  have hb := (Below.refl wF.heap.size wF).alloc (Nat.le_refl _) (.cells #[.string s, .int .i64 wd, .slice (some ⟨gX, 0, none⟩) rows.length rows.length] 44)
  replace hW := bel_step hW hb
  replace TA := TA.on hb
  replace SR := SR.on hb
  replace SB := SB.on hb
  replace XR := XR.on hb
  clear hb
  have XB := Blk.new wF 44 #[.string s, .int .i64 wd, .slice (some ⟨gX, 0, none⟩) rows.length rows.length]
  have hzX : wF.heap.size < (wF.alloc (.cells #[.string s, .int .i64 wd, .slice (some ⟨gX, 0, none⟩) rows.length rows.length] 44)).heap.size := by rw [World.size_alloc]; exact Nat.lt_succ_self _
  go_wp2_with fail
  generalize wF.alloc (.cells #[.string s, .int .i64 wd, .slice (some ⟨gX, 0, none⟩) rows.length rows.length] 44) = wG at *
  refine (toInt64S_any a1 cap1 row wG (HI.out wG hW) (by omega)).mono ?_
  rintro e wH ⟨rfl, X1, hb, _⟩
  have hz3 := hb.size
  replace hW := bel_step hW hb
  replace TA := TA.on hb
  replace SR := SR.on hb
  replace SB := SB.on hb
  replace XR := XR.on hb
  replace XB := XB.on hb
  clear hb
  obtain ⟨XB0, XB1, XB2⟩ := XB.c3
  go_wp2_with fail
  refine (implPlaced_any s wd _ _ _ _ rows row wH (XR.1.rwsW HEX.out HLb.out) X1.ints (by omega) (by omega) (by omega)).mono ?_
  rintro e wI ⟨vG, rfl, hTG, hb⟩
  clear XB0 XB1 XB2
  rw [HSS.out.1, HSS.out.2.1, HSS.out.2.2.1] at hTG
  obtain ⟨uG, eG, rfl, hRG, hqG⟩ := hTG
  rw [HSS.out.2.2.2]
  obtain ⟨AG, cG, rfl⟩ := hRG.formW hqG
  have HQG := Lib.hid hqG
  clear hqG
  have GR := hRG.rin
  clear hRG
  have hz4 := hb.size
  replace hW := bel_step hW hb
  replace TA := TA.on hb
  replace SR := SR.on hb
  replace SB := SB.on hb
  replace XR := XR.on hb
  replace XB := XB.on hb
  replace X1 := X1.on hb
  clear hb
  have hb := (Below.refl wI.heap.size wI).alloc (Nat.le_refl _) (.cells #[.string S0, .int .i64 W0, .slice AG R0.length cG] 44)
  replace hW := bel_step hW hb
  replace TA := TA.on hb
  replace SR := SR.on hb
  replace SB := SB.on hb
  replace XR := XR.on hb
  replace XB := XB.on hb
  replace X1 := X1.on hb
  replace GR := GR.on hb
  clear hb
  have GB := Blk.new wI 44 #[.string S0, .int .i64 W0, .slice AG R0.length cG]
  have hzG : wI.heap.size < (wI.alloc (.cells #[.string S0, .int .i64 W0, .slice AG R0.length cG] 44)).heap.size := by rw [World.size_alloc]; exact Nat.lt_succ_self _
  obtain ⟨GB0, GB1, GB2⟩ := GB.c3
  obtain ⟨SB0, SB1, SB2⟩ := SB.c3
  go_wp2_with fail
  generalize wI.alloc (.cells #[.string S0, .int .i64 W0, .slice AG R0.length cG] 44) = wJ at *
  refine (eqTable_same S0 W0 _ _ _ _ R0 wJ (GR.1.rwsW HQG.out HRb.out) (SR.1.rwsW HQS.out HRb.out) (by omega)).mono ?_
  rintro e wK ⟨rfl, hb⟩
  clear GB0 GB1 GB2 SB0 SB1 SB2
  replace hW := bel_step hW hb
  replace TA := TA.on hb
  replace SR := SR.on hb
  replace SB := SB.on hb
  replace XR := XR.on hb
  replace XB := XB.on hb
  replace X1 := X1.on hb
  replace GR := GR.on hb
  replace GB := GB.on hb
  clear hb
  obtain ⟨ta0, ta1, ta2⟩ := TA.c3
  obtain ⟨xb0, xb1, xb2⟩ := XB.c3
  have hgl := TA.lt
  have hxl := XB.lt
  have hRE := HB.out wK hW
  have HXX := Lib.hid (And.intro (And.intro ta0 (And.intro ta1 ta2)) (And.intro xb0 (And.intro xb1 xb2)))
  go_wp2_with fail
  go_region_held3 (fun w' => (w'.cell? ⟨w.heap.size, 0, none⟩ = some (.string s) ∧ w'.cell? ⟨w.heap.size, 1, none⟩ = some (.int .i64 wd) ∧ w'.cell? ⟨w.heap.size, 2, none⟩ = some (.slice a rows.length cap)) ∧ w'.cell? ⟨wF.heap.size, 0, none⟩ = some (.string s) ∧ w'.cell? ⟨wF.heap.size, 1, none⟩ = some (.int .i64 wd) ∧ w'.cell? ⟨wF.heap.size, 2, none⟩ = some (.slice (some ⟨gX, 0, none⟩) rows.length rows.length))
    (first | go_keep | exact ⟨⟨(hk5.cell hgl).trans HXX.out.1.1, (hk5.cell hgl).trans HXX.out.1.2.1, (hk5.cell hgl).trans HXX.out.1.2.2⟩, (hk5.cell hxl).trans HXX.out.2.1, (hk5.cell hxl).trans HXX.out.2.2.1, (hk5.cell hxl).trans HXX.out.2.2.2⟩ | exact ⟨⟨(hk6.cell hgl).trans HXX.out.1.1, (hk6.cell hgl).trans HXX.out.1.2.1, (hk6.cell hgl).trans HXX.out.1.2.2⟩, (hk6.cell hxl).trans HXX.out.2.1, (hk6.cell hxl).trans HXX.out.2.2.1, (hk6.cell hxl).trans HXX.out.2.2.2⟩)
    (first | (go_at_call 87; refine (toTable_any s wd a cap rows _ (by exact hRE) (by omega)).mono ?_; rintro e w5r ⟨g5, es5, rfl, hO5, he5, hb5⟩; have hk5 : Below wK.heap.size wK w5r := (bel_drewN (Below.refl _ _) 1).trans hb5) | (go_at_call 88; refine (eqTable_same s wd _ _ _ _ rows w5r ((XR.on hk5).1.rwsW HEX.out HLb.out) (hO5.rwsW he5 HLb.out) (by omega)).mono ?_; rintro e w6r ⟨rfl, hb6⟩; have hk6 : Below wK.heap.size wK w6r := bel_step hk5 hb6))
  clear ta0 ta1 ta2 xb0 xb1 xb2 hRE hO5 he5 hb5 hk5 hb6 HXX hgl hxl
  replace hW := bel_step hW hk6
  replace TA := TA.on hk6
  replace SR := SR.on hk6
  replace SB := SB.on hk6
  replace XR := XR.on hk6
  replace XB := XB.on hk6
  replace X1 := X1.on hk6
  replace GR := GR.on hk6
  replace GB := GB.on hk6
  clear hk6
  go_wp2_with fail
  refine (toInt64S_any a1 cap1 row w6r (HI.out w6r hW) (by omega)).mono ?_
  rintro e wL ⟨rfl, Xr, hb, _⟩
  replace hW := bel_step hW hb
  replace TA := TA.on hb
  replace SR := SR.on hb
  replace SB := SB.on hb
  replace XR := XR.on hb
  replace XB := XB.on hb
  replace X1 := X1.on hb
  replace GR := GR.on hb
  replace GB := GB.on hb
  clear hb
  go_wp2_with fail
  refine (eqInt64S_any _ _ _ _ row row wL _ _ X1.ints Xr.ints (by omega) (by omega)).mono ?_
  rintro e wM ⟨rfl, nE, hE⟩
  rw [decide_eq_true (rfl : row = row)]
  have hb : Below wL.heap.size wL wM := by rw [hE]; exact bel_drewN (Below.refl _ _) nE
  clear hE
  clear Xr
  replace hW := bel_step hW hb
  replace TA := TA.on hb
  replace SR := SR.on hb
  replace SB := SB.on hb
  replace XR := XR.on hb
  replace XB := XB.on hb
  replace X1 := X1.on hb
  replace GR := GR.on hb
  replace GB := GB.on hb
  clear hb
  have HMx := Lib.hid (show ∀ e ∈ esX, e.r.length ≤ 2097152 from ents_rr HEX.out (fun j hj => by have := HLr.out j hj; omega))
  have hXn : rows.length ≤ 2097152 := by omega
  obtain ⟨XB0, XB1, XB2⟩ := XB.c3
  go_wp2_with fail
  refine (markTable_own _ _ s wd _ rows.length _ esX 1 wM XR hXn HMx.out (by omega) (by omega)).mono ?_
  rintro e wN ⟨rfl, _, hwi⟩
  clear XB0 XB1 XB2
  obtain ⟨hq0, hq1⟩ := kR_fit (k := 1) (by omega) HMx.out rows.length hXn
  clear XR
  replace hW := hW.trans ((hwi.wide (lo' := w.heap.size) (hi' := wF.heap.size) (by omega) (Nat.le_refl _)).bel hW.size)
  replace TA := TA.within hwi (.inl (by omega))
  replace SR := SR.within hwi (.inl (by omega))
  replace SB := SB.within hwi (.inl (by omega))
  replace XB := XB.within hwi (.inr (by omega))
  replace X1 := X1.within hwi (.inr (by omega))
  replace GR := GR.within hwi (.inr (by omega))
  replace GB := GB.within hwi (.inr (by omega))
  clear hwi
  generalize kR 1 esX rows.length = q1 at *
  go_wp2_with fail
  refine (markInt64S_any _ _ wG.heap.size row q1 wN (Row.of_blk X1) (by omega) hq0 (by omega)).mono ?_
  rintro e wO ⟨rfl, _, hg⟩
  have hwi : Within wG.heap.size (wG.heap.size + 1) _ _ := Within.of_grown hg (.inl ⟨Nat.le_refl _, Nat.lt_succ_self _⟩)
  clear hg
  clear X1
  replace hW := hW.trans ((hwi.wide (lo' := w.heap.size) (hi' := wG.heap.size + 1) (by omega) (Nat.le_refl _)).bel hW.size)
  replace TA := TA.within hwi (.inl (by omega))
  replace SR := SR.within hwi (.inl (by omega))
  replace SB := SB.within hwi (.inl (by omega))
  replace XB := XB.within hwi (.inl (by omega))
  replace GR := GR.within hwi (.inr (by omega))
  replace GB := GB.within hwi (.inr (by omega))
  clear hwi
  have hq2 : 0 ≤ q1 + (row.length : Int) := by omega
  obtain ⟨GB0, GB1, GB2⟩ := GB.c3
  obtain ⟨SB0, SB1, SB2⟩ := SB.c3
  go_wp2_with fail
  refine (eqTable_same S0 W0 _ _ _ _ R0 wO (GR.1.rwsW HQG.out HRb.out) (SR.1.rwsW HQS.out HRb.out) (by omega)).mono ?_
  rintro e wP ⟨rfl, hb⟩
  clear GB0 GB1 GB2 SB0 SB1 SB2
  replace hW := bel_step hW hb
  replace TA := TA.on hb
  replace SR := SR.on hb
  replace SB := SB.on hb
  replace XB := XB.on hb
  replace GR := GR.on hb
  replace GB := GB.on hb
  clear hb
  clear hq1
  have HMg := Lib.hid (show ∀ e ∈ eG, e.r.length ≤ 2097152 from ents_rr HQG.out (fun j hj => by have := HRr.out j hj; omega))
  have hGn : R0.length ≤ 2097152 := by omega
  have HGL := Lib.hid (show R0.length = eG.length by rw [← HQG.out, List.length_map])
  obtain ⟨GB0, GB1, GB2⟩ := GB.c3
  go_wp2_with fail
  refine (markTable_own _ _ S0 W0 _ R0.length _ eG 1 wP GR hGn HMg.out (by omega) (by omega)).mono ?_
  rintro e wQ ⟨rfl, GM, hwi⟩
  clear GB0 GB1 GB2
  clear GR
  obtain ⟨hm0, hm1g⟩ := kR_fit (k := 1) (by omega) HMg.out R0.length hGn
  replace hW := hW.trans ((hwi.wide (lo' := w.heap.size) (hi' := wI.heap.size) (by omega) (Nat.le_refl _)).bel hW.size)
  replace TA := TA.within hwi (.inl (by omega))
  replace SR := SR.within hwi (.inl (by omega))
  replace SB := SB.within hwi (.inl (by omega))
  replace XB := XB.within hwi (.inl (by omega))
  replace GB := GB.within hwi (.inr (by omega))
  clear hwi
  have HMb := Lib.hid (show ∀ e ∈ eG, e.r.length ≤ 1099511627776 from fun e he => by have := HMg.out e he; omega)
  obtain ⟨GB0, GB1, GB2⟩ := GB.c3
  go_wp2_with fail
  refine (heldTable_any S0 W0 _ R0.length _ eG 1 wQ HGL.out (GM.rwsK HMb.out) hGn HMg.out (by omega) (by omega)).mono ?_
  rintro e wR ⟨rfl, hb⟩
  clear GB0 GB1 GB2
  replace hW := bel_step hW hb
  replace TA := TA.on hb
  replace SR := SR.on hb
  replace SB := SB.on hb
  replace XB := XB.on hb
  replace GB := GB.on hb
  replace GM := GM.on hb
  clear hb
  obtain ⟨q3, hq3⟩ : ∃ q3, kR 1 eG R0.length = q3 := ⟨_, rfl⟩
  rw [hq3] at hm0 hm1g ⊢
  have HQ3 := Lib.hid hq3
  clear hq3
  obtain ⟨TA0, TA1, TA2⟩ := TA.c3
  go_wp2_with fail
  refine (toTable_any s wd a cap rows wR (HB.out wR hW) (by omega)).mono ?_
  rintro e wS ⟨gP, esP, rfl, hOP, heP, hb⟩
  clear TA0 TA1 TA2
  have HEP := Lib.hid heP
  clear heP
  replace hW := bel_step hW hb
  replace TA := TA.on hb
  replace SR := SR.on hb
  replace SB := SB.on hb
  replace XB := XB.on hb
  replace GB := GB.on hb
  replace GM := GM.on hb
  clear hb
  go_wp2_with fail
  refine (toInt64S_any a1 cap1 row wS (HI.out wS hW) (by omega)).mono ?_
  rintro e wT ⟨rfl, XP, hb, _⟩
  replace hW := bel_step hW hb
  replace TA := TA.on hb
  replace SR := SR.on hb
  replace SB := SB.on hb
  replace XB := XB.on hb
  replace GB := GB.on hb
  replace GM := GM.on hb
  replace hOP := hOP.on hb
  clear hb
  go_wp2_with fail
  refine (implPlaced_any s wd _ _ _ _ rows row wT (hOP.rwsW HEP.out HLb.out) XP.ints (by omega) (by omega) (by omega)).mono ?_
  rintro e wU ⟨vH, rfl, hTH, hb⟩
  rw [HSS.out.1, HSS.out.2.1, HSS.out.2.2.1] at hTH
  obtain ⟨uH, eH, rfl, hRH, hqH⟩ := hTH
  rw [HSS.out.2.2.2]
  obtain ⟨AH, cH, rfl⟩ := hRH.formW hqH
  have HQH := Lib.hid hqH
  clear hqH
  have HR := hRH.rin
  clear hRH
  replace hW := bel_step hW hb
  replace TA := TA.on hb
  replace SR := SR.on hb
  replace SB := SB.on hb
  replace XB := XB.on hb
  replace GB := GB.on hb
  replace GM := GM.on hb
  clear hb
  clear hOP XP
  have hb := (Below.refl wU.heap.size wU).alloc (Nat.le_refl _) (.cells #[.string S0, .int .i64 W0, .slice AH R0.length cH] 44)
  replace hW := bel_step hW hb
  replace TA := TA.on hb
  replace SR := SR.on hb
  replace SB := SB.on hb
  replace XB := XB.on hb
  replace GB := GB.on hb
  replace GM := GM.on hb
  replace HR := HR.on hb
  clear hb
  have HB := Blk.new wU 44 #[.string S0, .int .i64 W0, .slice AH R0.length cH]
  have hzH : wU.heap.size < (wU.alloc (.cells #[.string S0, .int .i64 W0, .slice AH R0.length cH] 44)).heap.size := by rw [World.size_alloc]; exact Nat.lt_succ_self _
  obtain ⟨HB0, HB1, HB2⟩ := HB.c3
  obtain ⟨SB0, SB1, SB2⟩ := SB.c3
  go_wp2_with fail
  generalize wU.alloc (.cells #[.string S0, .int .i64 W0, .slice AH R0.length cH] 44) = wV at *
  refine (eqTable_same S0 W0 _ _ _ _ R0 wV (HR.1.rwsW HQH.out HRb.out) (SR.1.rwsW HQS.out HRb.out) (by omega)).mono ?_
  rintro e wW ⟨rfl, hb⟩
  clear HB0 HB1 HB2 SB0 SB1 SB2
  replace hW := bel_step hW hb
  replace TA := TA.on hb
  replace SR := SR.on hb
  replace SB := SB.on hb
  replace XB := XB.on hb
  replace GB := GB.on hb
  replace GM := GM.on hb
  replace HR := HR.on hb
  replace HB := HB.on hb
  clear hb
  obtain ⟨GB0, GB1, GB2⟩ := GB.c3
  go_wp2_with fail
  refine (heldTable_any S0 W0 _ R0.length _ eG 1 wW HGL.out (GM.rwsK HMb.out) hGn HMg.out (by omega) (by omega)).mono ?_
  rintro e wX ⟨rfl, hb⟩
  clear GB0 GB1 GB2
  replace hW := bel_step hW hb
  replace TA := TA.on hb
  replace SR := SR.on hb
  replace SB := SB.on hb
  replace XB := XB.on hb
  replace GB := GB.on hb
  replace GM := GM.on hb
  replace HR := HR.on hb
  replace HB := HB.on hb
  clear hb
  rw [HQ3.out]
  go_wp2
  go_ret
  exact ⟨rfl, hW⟩
end Go.Proofs.Ytoncfodlffofdaa
