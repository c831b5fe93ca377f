/- The walk of laws.FnExactBatched: it returns true, and nothing that lay has turned. -/
import Derived.Test.YtdjoiehknpfigaaGreatJZD
import Derived.Test.YtdjoiehknpfigaaGreatSp5
import Derived.Test.YtdjoiehknpfigaaGreatDesM
namespace Go.Proofs.YtdjoiehknpfigaaGreat
open Go.RowKit

set_option maxRecDepth 100000 in
set_option maxHeartbeats 1500000 in
theorem walkFnExactBatched (a0 : Option Addr) (cap0 : Nat) (ts0 : List TB) (ad : Option Addr) (capd : Nat) (ds : List DL) (w : World) (r0 : RawTabs w w.heap.size a0 ts0) (hm0 : ts0.length ≤ maxLen) (rd : RawDLs w w.heap.size ad ds) (hdm : ds.length ≤ maxLen) :
    Calls Tryz.prog 4 #[.slice a0 ts0.length cap0, .slice ad ds.length capd] w fun e w' => e = .returned (.bool true) ∧ Below w.heap.size w w' := by
  have hW := Below.refl w.heap.size w
  go_enter Tryz.func4, Tryz.ntmps4
  go_wp2_with fail
  refine (szTableS_sum a0 cap0 ts0 1048576 w r0 hm0 (by omega) (by omega)).mono ?_
  rintro e u1 ⟨x0, rfl, hx1, hx, hb⟩
  have HXx0 := Lib.hid hx
  clear hx
  replace hW := bel_step hW hb
  replace r0 := r0.on hb
  replace rd := rd.on hb
  clear hb
  by_cases h0 : x0 < 0
  · go_wp2
    go_ret
    exact ⟨rfl, hW⟩
  have hsx0 := HXx0.out (by omega)
  clear HXx0 hx1
  have hdx0 : decide (x0 < 0) = false := by simp; omega
  have hpx0 : 0 ≤ x0 ∧ x0 ≤ 1048576 := by omega
  clear h0
  go_wp2_with fail
  refine (szDeedS_sum ad capd ds x0 u1 rd hdm (by omega) (by omega)).mono ?_
  rintro e u2 ⟨xd, rfl, hx1, hx, hb⟩
  have HXxd := Lib.hid hx
  clear hx
  replace hW := bel_step hW hb
  replace r0 := r0.on hb
  replace rd := rd.on hb
  clear hb
  by_cases h0 : xd < 0
  · go_wp2
    go_ret
    exact ⟨rfl, hW⟩
  have hsxd := HXxd.out (by omega)
  clear HXxd hx1
  have hdxd : decide (xd < 0) = false := by simp; omega
  have hpxd : 0 ≤ xd ∧ xd ≤ 1048576 := by omega
  clear h0
  have hl0 : ts0.length ≤ 1048576 := by omega
  have hw0 : twS ts0 + ts0.length ≤ 1048576 := by omega
  have HF0 := Lib.hid (show fitT 1048576 ts0 from fitT_of (by omega))
  have hld : ds.length ≤ 1048576 := by omega
  have hwd : dwS ds + ds.length ≤ 1048576 := by omega
  have HFD := Lib.hid (show fitD 1048576 ds from fitD_of (by omega))
  have HB0 := Lib.hid (show ∀ W, Below u2.heap.size u2 W → Tabs W W.heap.size a0 ts0 from fun W h => (r0.on h).tabs HF0.out)
  have HI := Lib.hid (show ∀ W, Below u2.heap.size u2 W → DLs W W.heap.size ad ds from fun W h => (rd.on h).dls)
  clear r0 hm0 rd hdm
  have hV := Below.refl u2.heap.size u2
  have hzv := hW.size
  obtain ⟨P0, hP0⟩ : ∃ P0, batchB ts0 ds = P0 := ⟨_, rfl⟩
  obtain ⟨hPl, hPk⟩ := batchB_fit ts0 ds
  rw [hP0] at hPl hPk
  obtain ⟨Y0, C0⟩ := P0
  have HSS := Lib.hid hP0
  replace hPl : Y0.length ≤ 4 := hPl
  replace hPk : twS Y0 ≤ 624 := hPk
  have HPF := Lib.hid (show fitT 1048576 Y0 from fitT_of (by omega))
  have HPK := Lib.hid hPk
  clear hP0 hPk
  have hbb : (C0 != C0) = false := by simp
  go_wp2_with fail
  refine (toTableS_any a0 cap0 ts0 u2 (HB0.out u2 hV) HF0.out hl0).mono ?_
  rintro e u3 ⟨AB0, cB0, eB0, rfl, hEB0, OB0, hb⟩
  have HEB0 := Lib.hid hEB0
  clear hEB0
  replace hW := bel_step hW hb
  replace hV := bel_step hV hb
  clear hb
  go_wp2_with fail
  refine (toDeedS_any ad capd ds u3 (HI.out u3 hV) HFD.out hld).mono ?_
  rintro e u4 ⟨AB1, cB1, rfl, OB1, hb⟩
  replace hW := bel_step hW hb
  replace hV := bel_step hV hb
  replace OB0 := OB0.on hb
  clear hb
  go_wp2_with fail
  refine (specBatched_any AB0 cB0 ts0 AB1 cB1 ds u4 (OB0.tabsB HEB0.out HF0.out) HF0.out hl0 OB1.dls HFD.out hld).mono ?_
  rintro e u5 hq
  obtain ⟨AS, cS, rfl, SR, hb⟩ := specBase_got HSS.out HPF.out hq
  clear hq
  clear OB0
  clear OB1
  replace hW := bel_step hW hb
  replace hV := bel_step hV hb
  clear hb
  have hz3 := hV.size
  go_wp2_with fail
  refine (toTableS_any a0 cap0 ts0 u5 (HB0.out u5 hV) HF0.out hl0).mono ?_
  rintro e u6 ⟨AX0, cX0, eX0, rfl, hEX0, OX0, hb⟩
  have HEX0 := Lib.hid hEX0
  clear hEX0
  have hz4 := hb.size
  replace hW := bel_step hW hb
  replace hV := bel_step hV hb
  replace SR := SR.on hb
  clear hb
  go_wp2_with fail
  refine (toDeedS_any ad capd ds u6 (HI.out u6 hV) HFD.out hld).mono ?_
  rintro e u7 ⟨AX1, cX1, rfl, OX1, hb⟩
  have hz5 := hb.size
  replace hW := bel_step hW hb
  replace hV := bel_step hV hb
  replace SR := SR.on hb
  replace OX0 := OX0.on hb
  clear hb
  go_wp2_with fail
  refine (implBatched_any AX0 cX0 ts0 AX1 cX1 ds u7 (OX0.tabsB HEX0.out HF0.out) HF0.out hl0 OX1.dls HFD.out hld).mono ?_
  rintro e u8 hq
  obtain ⟨AG, cG, eG, rfl, heG, GR, hb⟩ := implBase_got HSS.out hq
  have HQG := Lib.hid heG
  clear heG hq
  have hz6 := hb.size
  replace hW := bel_step hW hb
  replace hV := bel_step hV hb
  replace SR := SR.on hb
  replace OX0 := OX0.on hb
  replace OX1 := OX1.on hb
  clear hb
  go_wp2_with fail
  refine (eqTableS_same _ _ _ _ Y0 u8 (GR.tabsB HQG.out HPF.out) SR.tabs HPF.out (by omega)).mono ?_
  rintro e u9 ⟨rfl, hb⟩
  replace hW := bel_step hW hb
  replace hV := bel_step hV hb
  replace SR := SR.on hb
  replace OX0 := OX0.on hb
  replace OX1 := OX1.on hb
  replace GR := GR.on hb
  clear hb
  go_wp2_with fail
  refine (toTableS_any a0 cap0 ts0 u9 (HB0.out u9 hV) HF0.out hl0).mono ?_
  rintro e u10 ⟨AY0, cY0, eY0, rfl, hEY0, OY0, hb⟩
  have HEY0 := Lib.hid hEY0
  clear hEY0
  replace hW := bel_step hW hb
  replace hV := bel_step hV hb
  replace SR := SR.on hb
  replace OX0 := OX0.on hb
  replace OX1 := OX1.on hb
  replace GR := GR.on hb
  clear hb
  go_wp2_with fail
  refine (eqTableS_same _ _ _ _ ts0 u10 (OX0.tabsB HEX0.out HF0.out) (OY0.tabsB HEY0.out HF0.out) HF0.out (by omega)).mono ?_
  rintro e u11 ⟨rfl, hb⟩
  clear OY0
  replace hW := bel_step hW hb
  replace hV := bel_step hV hb
  replace SR := SR.on hb
  replace OX0 := OX0.on hb
  replace OX1 := OX1.on hb
  replace GR := GR.on hb
  clear hb
  go_wp2_with fail
  refine (toDeedS_any ad capd ds u11 (HI.out u11 hV) HFD.out hld).mono ?_
  rintro e u12 ⟨AY1, cY1, rfl, OY1, hb⟩
  replace hW := bel_step hW hb
  replace hV := bel_step hV hb
  replace SR := SR.on hb
  replace OX0 := OX0.on hb
  replace OX1 := OX1.on hb
  replace GR := GR.on hb
  clear hb
  go_wp2_with fail
  refine (eqDLs_same _ _ _ _ ds u12 OX1.dls OY1.dls HFD.out hld).mono ?_
  rintro e u13 ⟨rfl, hb⟩
  clear OY1
  replace hW := bel_step hW hb
  replace hV := bel_step hV hb
  replace SR := SR.on hb
  replace OX0 := OX0.on hb
  replace OX1 := OX1.on hb
  replace GR := GR.on hb
  clear hb
  have hkx0 : kT 1 eX0 eX0.length ≤ 1 + 2 * ts0.length + twS ts0 := by have h1 := kT_sum 1 HEX0.out eX0.length (Nat.le_refl _); have h2 := Tabs.len HEX0.out; rw [← h2, List.take_of_length_le (by omega)] at h1; rw [← h2]; omega
  have hel0 := Tabs.len HEX0.out
  have hmk0 := markTableS_any AX0 cX0 1 _ _ eX0 ts0 u13 OX0 HEX0.out HF0.out (by omega) (by omega) (by omega)
  rw [← hel0] at hmk0 hkx0
  have HMK0 := Lib.hid hmk0
  clear hmk0 hel0
  go_wp2_with fail
  refine (HMK0.out).mono ?_
  rintro e u14 ⟨rfl, _, hwi⟩
  clear HMK0
  clear OX0
  replace hW := hW.trans ((hwi.wide (lo' := w.heap.size) (hi' := u6.heap.size) (by omega) (Nat.le_refl _)).bel hW.size)
  replace hV := hV.trans ((hwi.wide (lo' := u2.heap.size) (hi' := u6.heap.size) (by omega) (Nat.le_refl _)).bel hV.size)
  replace SR := SR.within hwi (by omega)
  replace OX1 := OX1.within hwi (.inr (by omega))
  replace GR := GR.within hwi (.inr (by omega))
  clear hwi
  obtain ⟨k0, hk0⟩ : ∃ k0, kT 1 eX0 ts0.length = k0 := ⟨_, rfl⟩
  rw [hk0] at hkx0 ⊢
  clear hk0
  go_wp2_with fail
  refine (markDLs_any AX1 cX1 k0 _ _ ds u14 OX1 HFD.out hld (by omega) OX1.1).mono ?_
  rintro e u15 ⟨⟨k1, rfl⟩, hwi⟩
  clear OX1
  replace hW := hW.trans ((hwi.wide (lo' := w.heap.size) (hi' := u7.heap.size) (by omega) (Nat.le_refl _)).bel hW.size)
  replace hV := hV.trans ((hwi.wide (lo' := u2.heap.size) (hi' := u7.heap.size) (by omega) (Nat.le_refl _)).bel hV.size)
  replace SR := SR.within hwi (by omega)
  replace GR := GR.within hwi (.inr (by omega))
  clear hwi
  have hkn : decide ((k1 : Int) < 0) = false := by simp
  go_wp2_with fail
  refine (eqTableS_same _ _ _ _ Y0 u15 (GR.tabsB HQG.out HPF.out) SR.tabs HPF.out (by omega)).mono ?_
  rintro e u16 ⟨rfl, hb⟩
  replace hW := bel_step hW hb
  replace hV := bel_step hV hb
  replace SR := SR.on hb
  replace GR := GR.on hb
  clear hb
  clear hkn
  have hkg : kT 1 eG eG.length ≤ 1000000000 := by have h1 := kT_sum 1 HQG.out eG.length (Nat.le_refl _); have h2 := Tabs.len HQG.out; rw [← h2, List.take_of_length_le (by omega)] at h1; rw [← h2]; have := HPK.out; omega
  have helg := Tabs.len HQG.out
  have hmk := markTableS_any AG cG 1 _ _ eG Y0 u16 GR HQG.out HPF.out (by omega) hkg (by omega)
  rw [← helg] at hmk
  have HMK := Lib.hid hmk
  clear hmk
  have HHD := Lib.hid (show ∀ W, MarkedT W u7.heap.size u8.heap.size 1 AG eG → Calls Tryz.prog 15 #[.slice AG Y0.length cG, .int .i64 1] W fun e w' => e = .returned (.int .i64 (kT 1 eG Y0.length)) ∧ Below W.heap.size W w' from fun W h => by rw [helg]; exact heldTableS_any AG cG 1 _ _ eG Y0 W h HQG.out HPF.out (by omega) hkg (by omega))
  clear helg hkg
  go_wp2_with fail
  refine (HMK.out).mono ?_
  rintro e u17 ⟨rfl, GM, hwi⟩
  clear HMK
  clear GR
  replace hW := hW.trans ((hwi.wide (lo' := w.heap.size) (hi' := u8.heap.size) (by omega) (Nat.le_refl _)).bel hW.size)
  replace hV := hV.trans ((hwi.wide (lo' := u2.heap.size) (hi' := u8.heap.size) (by omega) (Nat.le_refl _)).bel hV.size)
  replace SR := SR.within hwi (by omega)
  clear hwi
  go_wp2_with fail
  refine (HHD.out u17 GM).mono ?_
  rintro e u18 ⟨rfl, hb⟩
  replace hW := bel_step hW hb
  replace hV := bel_step hV hb
  replace SR := SR.on hb
  replace GM := GM.on hb
  clear hb
  obtain ⟨q3, hq3⟩ : ∃ q3 : Nat, kT 1 eG Y0.length = q3 := ⟨_, rfl⟩
  rw [hq3]
  have HQ3 := Lib.hid hq3
  clear hq3
  go_wp2_with fail
  refine (toTableS_any a0 cap0 ts0 u18 (HB0.out u18 hV) HF0.out hl0).mono ?_
  rintro e v1 ⟨AP0, cP0, eP0, rfl, hEP0, OP0, hb⟩
  have HEP0 := Lib.hid hEP0
  clear hEP0
  replace hW := bel_step hW hb
  replace hV := bel_step hV hb
  replace SR := SR.on hb
  replace GM := GM.on hb
  clear hb
  go_wp2_with fail
  refine (toDeedS_any ad capd ds v1 (HI.out v1 hV) HFD.out hld).mono ?_
  rintro e v2 ⟨AP1, cP1, rfl, OP1, hb⟩
  replace hW := bel_step hW hb
  replace hV := bel_step hV hb
  replace SR := SR.on hb
  replace GM := GM.on hb
  replace OP0 := OP0.on hb
  clear hb
  go_wp2_with fail
  refine (implBatched_any AP0 cP0 ts0 AP1 cP1 ds v2 (OP0.tabsB HEP0.out HF0.out) HF0.out hl0 OP1.dls HFD.out hld).mono ?_
  rintro e u19 hq
  obtain ⟨AH, cH, eH, rfl, heH, HR, hb⟩ := implBase_got HSS.out hq
  have HQH := Lib.hid heH
  clear heH hq
  clear OP0
  clear OP1
  replace hW := bel_step hW hb
  replace hV := bel_step hV hb
  replace SR := SR.on hb
  replace GM := GM.on hb
  clear hb
  go_wp2_with fail
  refine (eqTableS_same _ _ _ _ Y0 u19 (HR.tabsB HQH.out HPF.out) SR.tabs HPF.out (by omega)).mono ?_
  rintro e u20 ⟨rfl, hb⟩
  replace hW := bel_step hW hb
  replace hV := bel_step hV hb
  replace SR := SR.on hb
  replace GM := GM.on hb
  replace HR := HR.on hb
  clear hb
  go_wp2_with fail
  refine (HHD.out u20 GM).mono ?_
  rintro e u21 ⟨rfl, hb⟩
  replace hW := bel_step hW hb
  rw [HQ3.out]
  go_wp2
  go_ret
  exact ⟨rfl, hW⟩
end Go.Proofs.YtdjoiehknpfigaaGreat
