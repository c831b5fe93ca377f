/- The walk of laws.FnExactBagIn: it returns true, and nothing that lay has turned. -/
import Derived.Test.YtedbjjhkjkpnkaaJC
import Derived.Test.YtedbjjhkjkpnkaaTabFit
import Derived.Test.YtedbjjhkjkpnkaaTabI3
import Derived.Test.YtedbjjhkjkpnkaaMark3
namespace Go.Proofs.Ytedbjjhkjkpnkaa
open Go.RowKit

set_option maxRecDepth 100000 in
set_option maxHeartbeats 8000000 in
theorem walkFnExactBagIn (s : ByteArray) (wd : Int) (a : Option Addr) (rows : List (List Int)) (cap : Nat) (f : Int) (t : Int) (w : World) (w0 : RawRows w w.heap.size a rows) (hm : rows.length ≤ maxLen) (hs : s.size ≤ maxLen) (_wf : (Lit.int .i64 f).wf = true) (_wt : (Lit.int .i64 t).wf = true) :
    Calls Try.prog 3 #[.agg #[.string s, .int .i64 wd, .slice a rows.length cap], .int .i64 f, .int .i64 t] w fun e w' => e = .returned (.bool true) ∧ Below w.heap.size w w' := by
  clear _wf
  clear _wt
  have hW := (Below.refl w.heap.size w).alloc (Nat.le_refl _) (.cells #[.string s, .int .i64 wd, .slice a rows.length cap] 24)
  have TA := Blk.new w 24 #[.string s, .int .i64 wd, .slice a rows.length cap]
  have w1 := w0.on hW
  obtain ⟨a0, a1c, a2⟩ := TA.c3
  go_enter Try.func3, Try.ntmps3
  go_wp2_with fail
  generalize w.alloc (.cells #[.string s, .int .i64 wd, .slice a rows.length cap] 24) = wb at *
  refine (szTable_any s wd a cap rows wb w1 hs hm).mono ?_
  rintro e wA ⟨x, rfl, hx, hb⟩
  have HX := Lib.hid hx
  clear hx a0 a1c a2 w1 hs hm
  replace hW := bel_step hW hb
  replace TA := TA.on hb
  clear hb
  obtain ⟨a0, a1c, a2⟩ := TA.c3
  by_cases h0 : x < 0
  · go_wp2
    go_ret
    exact ⟨rfl, hW⟩
  obtain ⟨hls, hlr0, hlrr⟩ := HX.out (by omega)
  have HB := Lib.hid (show ∀ W, Below w.heap.size w W → Rws W W.heap.size a rows from fun W h => (w0.on h).rws (fun j hj => by have := hlrr j hj; omega))
  have HLr := Lib.hid hlrr
  have HLb := Lib.hid (show ∀ j, j < rows.length → (rr rows j).length ≤ 1099511627776 from fun j hj => by have := HLr.out j hj; omega)
  clear HX w0 hlrr
  obtain ⟨Q, hQ⟩ : ∃ Q, bagInB s wd rows f t = Q := ⟨_, rfl⟩
  obtain ⟨hQl, hQr⟩ := bagInB_fit (s := s) (wd := wd) (f := f) (t := t) HLr.out
  rw [hQ] at hQl hQr
  have HSS := Lib.hid hQ
  clear hQ
  have HQr := Lib.hid hQr
  have HQb := Lib.hid (show ∀ j, j < Q.length → (rx Q j).length ≤ 1099511627776 from fun j hj => by have := HQr.out j hj; omega)
  clear hQr
  clear a0 a1c a2
  obtain ⟨TA0, TA1, TA2⟩ := TA.c3
  go_wp2_with fail
  refine (toTable_any s wd a cap rows wA (HB.out wA hW) (by omega)).mono ?_
  rintro e wB ⟨gB, esB, rfl, hOB, heB, hb⟩
  clear TA0 TA1 TA2
  have HEB := Lib.hid heB
  clear heB
  replace hW := bel_step hW hb
  replace TA := TA.on hb
  clear hb
  go_wp2_with fail
  refine ((specBagIn_any s wd _ _ rows f t wB (hOB.rwsW HEB.out HLb.out) (by omega) (by omega)).mono fun _ _ h => h.b).mono ?_
  rintro e wC ⟨vS, eS, rfl, hTS, heS, hb⟩
  rw [HSS.out] at heS
  obtain ⟨AS, cS, rfl⟩ := hTS.formW heS
  have HQS := Lib.hid heS
  clear heS
  have SR := hTS.oin
  clear hTS
  have hz1 := hb.size
  replace hW := bel_step hW hb
  replace TA := TA.on hb
  clear hb
  have hw0 := TA.lt
  clear hOB
  obtain ⟨TA0, TA1, TA2⟩ := TA.c3
  go_wp2_with fail
  refine (toTable_any s wd a cap rows wC (HB.out wC hW) (by omega)).mono ?_
  rintro e wD ⟨gX, esX, rfl, hOX, heX, hb⟩
  clear TA0 TA1 TA2
  have HEX := Lib.hid heX
  clear heX
  replace hW := bel_step hW hb
  replace TA := TA.on hb
  replace SR := SR.on hb
  have hz2 := hb.size
  clear hb
  have XR := hOX.wrin
  clear hOX
  have hb := (Below.refl wD.heap.size wD).alloc (Nat.le_refl _) (.cells #[.string s, .int .i64 wd, .slice (some ⟨gX, 0, none⟩) rows.length rows.length] 28)
  replace hW := bel_step hW hb
  replace TA := TA.on hb
  replace SR := SR.on hb
  replace XR := XR.on hb
  clear hb
  have XB := Blk.new wD 28 #[.string s, .int .i64 wd, .slice (some ⟨gX, 0, none⟩) rows.length rows.length]
  have hzX : (wD.alloc (.cells #[.string s, .int .i64 wd, .slice (some ⟨gX, 0, none⟩) rows.length rows.length] 28)).heap.size = wD.heap.size + 1 := by simp
  obtain ⟨XB0, XB1, XB2⟩ := XB.c3
  go_wp2_with fail
  generalize wD.alloc (.cells #[.string s, .int .i64 wd, .slice (some ⟨gX, 0, none⟩) rows.length rows.length] 28) = wE at *
  refine ((implBagIn_any s wd _ _ rows f t wE (XR.1.rwsW HEX.out HLb.out) (by omega) (by omega) (Nat.le_refl _)).mono fun _ _ h => h.b).mono ?_
  rintro e wF ⟨vG, eG, rfl, hTG, heG, hb⟩
  clear XB0 XB1 XB2
  rw [HSS.out] at heG
  obtain ⟨AG, cG, rfl⟩ := hTG.formW heG
  have HQG := Lib.hid heG
  clear heG
  have GR := hTG.oin
  clear hTG
  have hz4 := hb.size
  replace hW := bel_step hW hb
  replace TA := TA.on hb
  replace SR := SR.on hb
  replace XR := XR.on hb
  replace XB := XB.on hb
  clear hb
  go_wp2_with fail
  refine (eqCountS_any _ _ _ _ Q Q wF (OBag.bagW GR.1 HQG.out HQb.out) (OBag.bagW SR.1 HQS.out HQb.out) (by omega) (by omega)).mono ?_
  rintro e wG ⟨rfl, hb⟩
  rw [decide_eq_true (rfl : Q = Q)]
  replace hW := bel_step hW hb
  replace TA := TA.on hb
  replace SR := SR.on hb
  replace XR := XR.on hb
  replace XB := XB.on hb
  replace GR := GR.on hb
  clear hb
  obtain ⟨ta0, ta1, ta2⟩ := TA.c3
  obtain ⟨xb0, xb1, xb2⟩ := XB.c3
  have hgl := TA.lt
  have hxl := XB.lt
  have hRE := HB.out wG hW
  have HXX := Lib.hid (And.intro (And.intro ta0 (And.intro ta1 ta2)) (And.intro xb0 (And.intro xb1 xb2)))
  go_wp2_with fail
  go_region_held3 (fun w' => (w'.cell? ⟨w.heap.size, 0, none⟩ = some (.string s) ∧ w'.cell? ⟨w.heap.size, 1, none⟩ = some (.int .i64 wd) ∧ w'.cell? ⟨w.heap.size, 2, none⟩ = some (.slice a rows.length cap)) ∧ w'.cell? ⟨wD.heap.size, 0, none⟩ = some (.string s) ∧ w'.cell? ⟨wD.heap.size, 1, none⟩ = some (.int .i64 wd) ∧ w'.cell? ⟨wD.heap.size, 2, none⟩ = some (.slice (some ⟨gX, 0, none⟩) rows.length rows.length))
    (first | go_keep | exact ⟨⟨(hk5.cell hgl).trans HXX.out.1.1, (hk5.cell hgl).trans HXX.out.1.2.1, (hk5.cell hgl).trans HXX.out.1.2.2⟩, (hk5.cell hxl).trans HXX.out.2.1, (hk5.cell hxl).trans HXX.out.2.2.1, (hk5.cell hxl).trans HXX.out.2.2.2⟩ | exact ⟨⟨(hk6.cell hgl).trans HXX.out.1.1, (hk6.cell hgl).trans HXX.out.1.2.1, (hk6.cell hgl).trans HXX.out.1.2.2⟩, (hk6.cell hxl).trans HXX.out.2.1, (hk6.cell hxl).trans HXX.out.2.2.1, (hk6.cell hxl).trans HXX.out.2.2.2⟩)
    (first | (go_at_call 8; refine (toTable_any s wd a cap rows _ (by exact hRE) (by omega)).mono ?_; rintro e w5r ⟨g5, es5, rfl, hO5, he5, hb5⟩; have hk5 : Below wG.heap.size wG w5r := (bel_drewN (Below.refl _ _) 1).trans hb5) | (go_at_call 11; refine (eqTable_same s wd _ _ _ _ rows w5r ((XR.on hk5).1.rwsW HEX.out HLb.out) (hO5.rwsW he5 HLb.out) (by omega)).mono ?_; rintro e w6r ⟨rfl, hb6⟩; have hk6 : Below wG.heap.size wG w6r := bel_step hk5 hb6))
  clear ta0 ta1 ta2 xb0 xb1 xb2 hRE hO5 he5 hb5 hk5 hb6 HXX hgl hxl
  replace hW := bel_step hW hk6
  replace TA := TA.on hk6
  replace SR := SR.on hk6
  replace XR := XR.on hk6
  replace XB := XB.on hk6
  replace GR := GR.on hk6
  clear hk6
  have HMx := Lib.hid (show ∀ e ∈ esX, e.r.length ≤ 2097152 from ents_rr HEX.out (fun j hj => by have := HLr.out j hj; omega))
  have hXn : rows.length ≤ 2097152 := by omega
  obtain ⟨XB0, XB1, XB2⟩ := XB.c3
  go_wp2_with fail
  refine (markTable_own _ _ s wd _ rows.length _ esX 1 w6r XR hXn HMx.out (by omega) (by omega)).mono ?_
  rintro e wH ⟨rfl, _, hwi⟩
  clear XB0 XB1 XB2
  obtain ⟨hq0, hq1⟩ := kR_fit (k := 1) (by omega) HMx.out rows.length hXn
  clear XR
  replace hW := hW.trans ((hwi.wide (lo' := w.heap.size) (hi' := wD.heap.size) (by omega) (Nat.le_refl _)).bel hW.size)
  replace TA := TA.within hwi (.inl (by omega))
  replace SR := SR.within hwi (.inl (by omega))
  replace XB := XB.within hwi (.inr (by omega))
  replace GR := GR.within hwi (.inr (by omega))
  clear hwi
  generalize kR 1 esX rows.length = q1 at *
  go_wp2_with fail
  refine (eqCountS_any _ _ _ _ Q Q wH (OBag.bagW GR.1 HQG.out HQb.out) (OBag.bagW SR.1 HQS.out HQb.out) (by omega) (by omega)).mono ?_
  rintro e wI ⟨rfl, hb⟩
  rw [decide_eq_true (rfl : Q = Q)]
  replace hW := bel_step hW hb
  replace TA := TA.on hb
  replace SR := SR.on hb
  replace XB := XB.on hb
  replace GR := GR.on hb
  clear hb
  clear hq1
  have HMg := Lib.hid (show ∀ e ∈ eG, e.r.length ≤ 2097152 from ents_of HQG.out (fun j hj => by have := HQr.out j hj; omega))
  have hGn : Q.length ≤ 2097152 := by omega
  have HGL := Lib.hid (show Q.length = eG.length by rw [← HQG.out, List.length_map])
  go_wp2_with fail
  refine (markCountS_any _ _ _ Q.length _ eG 1 wI GR hGn HMg.out (by omega) (by omega)).mono ?_
  rintro e wJ ⟨rfl, GM, hwi⟩
  clear GR
  obtain ⟨hm0, hm1g⟩ := kAt_fit (k := 1) (by omega) (by omega) HMg.out Q.length hGn
  replace hW := hW.trans ((hwi.wide (lo' := w.heap.size) (hi' := wF.heap.size) (by omega) (Nat.le_refl _)).bel hW.size)
  replace TA := TA.within hwi (.inl (by omega))
  replace SR := SR.within hwi (.inl (by omega))
  replace XB := XB.within hwi (.inl (by omega))
  clear hwi
  have HMb := Lib.hid (show ∀ e ∈ eG, e.r.length ≤ 1099511627776 from fun e he => by have := HMg.out e he; omega)
  go_wp2_with fail
  refine (heldCountS_any _ Q.length _ _ eG 1 wJ HGL.out (GM.bagK HMb.out) hGn HMg.out (by omega) (by omega)).mono ?_
  rintro e wK ⟨rfl, hE⟩
  subst hE
  obtain ⟨q3, hq3⟩ : ∃ q3, kAt 1 eG Q.length = q3 := ⟨_, rfl⟩
  rw [hq3] at hm0 hm1g ⊢
  have HQ3 := Lib.hid hq3
  clear hq3
  obtain ⟨TA0, TA1, TA2⟩ := TA.c3
  go_wp2_with fail
  refine (toTable_any s wd a cap rows wJ (HB.out wJ hW) (by omega)).mono ?_
  rintro e wL ⟨gP, esP, rfl, hOP, heP, hb⟩
  clear TA0 TA1 TA2
  have HEP := Lib.hid heP
  clear heP
  replace hW := bel_step hW hb
  replace TA := TA.on hb
  replace SR := SR.on hb
  replace XB := XB.on hb
  replace GM := GM.on hb
  clear hb
  go_wp2_with fail
  refine ((implBagIn_any s wd _ _ rows f t wL (hOP.rwsW HEP.out HLb.out) (by omega) (by omega) (Nat.le_refl _)).mono fun _ _ h => h.b).mono ?_
  rintro e wM ⟨vH, eH, rfl, hTH, heH, hb⟩
  rw [HSS.out] at heH
  obtain ⟨AH, cH, rfl⟩ := hTH.formW heH
  have HQH := Lib.hid heH
  clear heH
  have HR := hTH.oin
  clear hTH
  replace hW := bel_step hW hb
  replace TA := TA.on hb
  replace SR := SR.on hb
  replace XB := XB.on hb
  replace GM := GM.on hb
  clear hb
  clear hOP
  go_wp2_with fail
  refine (eqCountS_any _ _ _ _ Q Q wM (OBag.bagW HR.1 HQH.out HQb.out) (OBag.bagW SR.1 HQS.out HQb.out) (by omega) (by omega)).mono ?_
  rintro e wN ⟨rfl, hb⟩
  rw [decide_eq_true (rfl : Q = Q)]
  replace hW := bel_step hW hb
  replace TA := TA.on hb
  replace SR := SR.on hb
  replace XB := XB.on hb
  replace GM := GM.on hb
  replace HR := HR.on hb
  clear hb
  go_wp2_with fail
  refine (heldCountS_any _ Q.length _ _ eG 1 wN HGL.out (GM.bagK HMb.out) hGn HMg.out (by omega) (by omega)).mono ?_
  rintro e wO ⟨rfl, hE⟩
  subst hE
  rw [HQ3.out]
  go_wp2
  go_ret
  exact ⟨rfl, hW⟩
end Go.Proofs.Ytedbjjhkjkpnkaa
