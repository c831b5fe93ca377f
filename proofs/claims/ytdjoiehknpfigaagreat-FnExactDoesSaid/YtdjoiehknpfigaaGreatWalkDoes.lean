/- The walk of laws.FnExactDoes: it returns true, and nothing that lay has turned. -/
import Derived.Test.YtdjoiehknpfigaaGreatJZD
import Derived.Deep.RegionHeld3
namespace Go.Proofs.YtdjoiehknpfigaaGreat
open Go.RowKit

set_option maxRecDepth 100000 in
set_option maxHeartbeats 1500000 in
theorem walkFnExactDoes (a0 : Option Addr) (cap0 : Nat) (ts0 : List TB) (kd : Int) (s : ByteArray) (ad : Option Addr) (capd : Nat) (zs : List Int) (w : World) (r0 : RawTabs w w.heap.size a0 ts0) (hm0 : ts0.length ≤ maxLen) (hI : Ints w w.heap.size ad zs) (hzl : zs.length ≤ maxLen) (hsl : s.size ≤ maxLen) :
    Calls Tryz.prog 3 #[.slice a0 ts0.length cap0, .agg #[.int .i64 kd, .string s, .slice ad zs.length capd]] w fun e w' => e = .returned (.bool true) ∧ Below w.heap.size w w' := by
  have hW := (Below.refl w.heap.size w).alloc (Nat.le_refl _) (.cells #[.int .i64 kd, .string s, .slice ad zs.length capd] 25)
  have DA := Blk.new w 25 #[.int .i64 kd, .string s, .slice ad zs.length capd]
  replace hI := hI.on hW
  replace r0 := r0.on hW
  have hzw := DA.lt
  go_enter Tryz.func3, Tryz.ntmps3
  go_wp2_with fail
  generalize w.alloc (.cells #[.int .i64 kd, .string s, .slice ad zs.length capd] 25) = ub at *
  refine (szTableS_sum a0 cap0 ts0 1048576 ub r0 hm0 (by omega) (by omega)).mono ?_
  rintro e u1 ⟨x0, rfl, hx1, hx, hb⟩
  have HXx0 := Lib.hid hx
  clear hx
  replace hW := bel_step hW hb
  replace DA := DA.on hb
  replace hI := hI.on hb
  replace r0 := r0.on hb
  clear hb
  by_cases h0 : x0 < 0
  · go_wp2
    go_ret
    exact ⟨rfl, hW⟩
  have hsx0 := HXx0.out (by omega)
  clear HXx0 hx1
  have hdx0 : decide (x0 < 0) = false := by simp; omega
  have hpx0 : 0 ≤ x0 ∧ x0 ≤ 1048576 := by omega
  clear h0
  obtain ⟨DA0, DA1, DA2⟩ := DA.c3
  go_wp2_with fail
  refine (szDeed_sum kd s ad zs.length capd x0 u1 hsl hzl (by omega) (by omega)).mono ?_
  rintro e u2 ⟨xd, rfl, hx1, hx, hb⟩
  clear DA0 DA1 DA2
  have HXxd := Lib.hid hx
  clear hx
  replace hW := bel_step hW hb
  replace DA := DA.on hb
  replace hI := hI.on hb
  replace r0 := r0.on hb
  clear hb
  by_cases h0 : xd < 0
  · go_wp2
    go_ret
    exact ⟨rfl, hW⟩
  have hsxd := HXxd.out (by omega)
  clear HXxd hx1
  have hdxd : decide (xd < 0) = false := by simp; omega
  have hpxd : 0 ≤ xd ∧ xd ≤ 1048576 := by omega
  clear h0
  have hl0 : ts0.length ≤ 1048576 := by omega
  have hw0 : twS ts0 + ts0.length ≤ 1048576 := by omega
  have HF0 := Lib.hid (show fitT 1048576 ts0 from fitT_of (by omega))
  have hlz : zs.length ≤ 1048576 := by omega
  have hls : s.size ≤ 1048576 := by omega
  have HB0 := Lib.hid (show ∀ W, Below u2.heap.size u2 W → Tabs W W.heap.size a0 ts0 from fun W h => (r0.on h).tabs HF0.out)
  have HI := Lib.hid (show ∀ W, Below u2.heap.size u2 W → Ints W W.heap.size ad zs from fun W h => hI.on h)
  clear r0 hm0 hI hzl hsl
  have hV := Below.refl u2.heap.size u2
  have hzv := hW.size
  have hzd := DA.lt
  obtain ⟨P0, hP0⟩ : ∃ P0, doesB ts0 ⟨kd, s, zs⟩ = P0 := ⟨_, rfl⟩
  obtain ⟨hPl, hPk⟩ := doesB_fit ts0 ⟨kd, s, zs⟩
  rw [hP0] at hPl hPk
  obtain ⟨Y0, C0⟩ := P0
  have HSS := Lib.hid hP0
  replace hPl : Y0.length ≤ 4 := hPl
  replace hPk : twS Y0 ≤ 624 := hPk
  have HPF := Lib.hid (show fitT 1048576 Y0 from fitT_of (by omega))
  have HPK := Lib.hid hPk
  clear hP0 hPk
  have hbb : (C0 != C0) = false := by simp
  obtain ⟨DA0, DA1, DA2⟩ := DA.c3
  have hgl := DA.lt
  have HXX := Lib.hid (And.intro DA0 (And.intro DA1 DA2))
  have hTt := HB0.out u2 hV
  have hVV := hV
  go_wp2_with fail
  go_region_held3 (fun w' => w'.cell? ⟨w.heap.size, 0, none⟩ = some (.int .i64 kd) ∧ w'.cell? ⟨w.heap.size, 1, none⟩ = some (.string s) ∧ w'.cell? ⟨w.heap.size, 2, none⟩ = some (.slice ad zs.length capd))
    (first | go_keep | exact ⟨(hkc.cell (p := ⟨w.heap.size, 0, none⟩) hgl).trans HXX.out.1, (hkc.cell (p := ⟨w.heap.size, 1, none⟩) hgl).trans HXX.out.2.1, (hkc.cell (p := ⟨w.heap.size, 2, none⟩) hgl).trans HXX.out.2.2⟩ | exact ⟨(hkb.cell (p := ⟨w.heap.size, 0, none⟩) hgl).trans HXX.out.1, (hkb.cell (p := ⟨w.heap.size, 1, none⟩) hgl).trans HXX.out.2.1, (hkb.cell (p := ⟨w.heap.size, 2, none⟩) hgl).trans HXX.out.2.2⟩ | exact ⟨(hka.cell (p := ⟨w.heap.size, 0, none⟩) hgl).trans HXX.out.1, (hka.cell (p := ⟨w.heap.size, 1, none⟩) hgl).trans HXX.out.2.1, (hka.cell (p := ⟨w.heap.size, 2, none⟩) hgl).trans HXX.out.2.2⟩)
    (first
      | (go_at_call 8; refine (toTableS_any a0 cap0 ts0 _ (by exact hTt) HF0.out hl0).mono ?_; rintro e va ⟨AB, cAB, eAB, rfl, heAB, OAB, hbAB⟩; have hka : Below u2.heap.size u2 va := (bel_drewN (Below.refl _ _) 1).trans hbAB)
      | (go_at_call 9; refine (toDeed_own kd s ad capd zs va (HI.out va (bel_step hVV hka)) (by omega)).mono ?_; rintro e vb ⟨AC, cAC, gAC, rfl, hgAC, OAC, hbAC⟩; have hkb : Below u2.heap.size u2 vb := bel_step hka hbAC)
      | (go_at_call 7; refine (specDoes_any AB cAB ts0 kd s AC cAC zs vb ((OAB.on hbAC).tabsB heAB HF0.out) HF0.out hl0 OAC.ints hls hlz).mono ?_; rintro e u5 hq; obtain ⟨AS, cS, rfl, SR, hbq⟩ := specBase_got HSS.out HPF.out hq; have hkc : Below u2.heap.size u2 u5 := bel_step hkb hbq))
  clear HXX DA0 DA1 DA2 hTt hVV
  replace hW := bel_step hW hkc
  replace hV := bel_step hV hkc
  replace DA := DA.on hkc
  have hz3 := hkc.size
  clear hka hkb hkc hbAB hbAC hbq OAB OAC hq hgl
  go_wp2_with fail
  refine (toTableS_any a0 cap0 ts0 u5 (HB0.out u5 hV) HF0.out hl0).mono ?_
  rintro e u6 ⟨AX0, cX0, eX0, rfl, hEX0, OX0, hb⟩
  have HEX0 := Lib.hid hEX0
  clear hEX0
  have hz4 := hb.size
  replace hW := bel_step hW hb
  replace hV := bel_step hV hb
  replace DA := DA.on hb
  replace SR := SR.on hb
  clear hb
  obtain ⟨DA0, DA1, DA2⟩ := DA.c3
  go_wp2_with fail
  refine (toDeed_own kd s ad capd zs u6 (HI.out u6 hV) (by omega)).mono ?_
  rintro e u7 ⟨AX1, cX1, gX1, rfl, hgX1, OX1, hb⟩
  clear DA0 DA1 DA2
  have hz5 := hb.size
  replace hW := bel_step hW hb
  replace hV := bel_step hV hb
  replace DA := DA.on hb
  replace SR := SR.on hb
  replace OX0 := OX0.on hb
  clear hb
  have hb := (Below.refl u7.heap.size u7).alloc (Nat.le_refl _) (.cells #[.int .i64 kd, .string s, .slice AX1 zs.length cX1] 32)
  replace hW := bel_step hW hb
  replace hV := bel_step hV hb
  replace DA := DA.on hb
  replace SR := SR.on hb
  replace OX0 := OX0.on hb
  replace OX1 := OX1.on hb
  clear hb
  have XD := Blk.new u7 32 #[.int .i64 kd, .string s, .slice AX1 zs.length cX1]
  have hzXD : u7.heap.size < (u7.alloc (.cells #[.int .i64 kd, .string s, .slice AX1 zs.length cX1] 32)).heap.size := by rw [World.size_alloc]; exact Nat.lt_succ_self _
  obtain ⟨XD0, XD1, XD2⟩ := XD.c3
  go_wp2_with fail
  generalize u7.alloc (.cells #[.int .i64 kd, .string s, .slice AX1 zs.length cX1] 32) = u8 at *
  refine (implDoes_any AX0 cX0 ts0 kd s AX1 cX1 zs u8 (OX0.tabsB HEX0.out HF0.out) HF0.out hl0 OX1.ints hls hlz).mono ?_
  rintro e u9 hq
  clear XD0 XD1 XD2
  obtain ⟨AG, cG, eG, rfl, heG, GR, hb⟩ := implBase_got HSS.out hq
  have HQG := Lib.hid heG
  clear heG hq
  have hz6 := hb.size
  replace hW := bel_step hW hb
  replace hV := bel_step hV hb
  replace DA := DA.on hb
  replace SR := SR.on hb
  replace OX0 := OX0.on hb
  replace OX1 := OX1.on hb
  replace XD := XD.on hb
  clear hb
  go_wp2_with fail
  refine (eqTableS_same _ _ _ _ Y0 u9 (GR.tabsB HQG.out HPF.out) SR.tabs HPF.out (by omega)).mono ?_
  rintro e u10 ⟨rfl, hb⟩
  replace hW := bel_step hW hb
  replace hV := bel_step hV hb
  replace DA := DA.on hb
  replace SR := SR.on hb
  replace OX0 := OX0.on hb
  replace OX1 := OX1.on hb
  replace XD := XD.on hb
  replace GR := GR.on hb
  clear hb
  go_wp2_with fail
  refine (toTableS_any a0 cap0 ts0 u10 (HB0.out u10 hV) HF0.out hl0).mono ?_
  rintro e u11 ⟨AY0, cY0, eY0, rfl, hEY0, OY0, hb⟩
  have HEY0 := Lib.hid hEY0
  clear hEY0
  have hz7 := hb.size
  replace hW := bel_step hW hb
  replace hV := bel_step hV hb
  replace DA := DA.on hb
  replace SR := SR.on hb
  replace OX0 := OX0.on hb
  replace OX1 := OX1.on hb
  replace XD := XD.on hb
  replace GR := GR.on hb
  clear hb
  go_wp2_with fail
  refine (eqTableS_same _ _ _ _ ts0 u11 (OX0.tabsB HEX0.out HF0.out) (OY0.tabsB HEY0.out HF0.out) HF0.out (by omega)).mono ?_
  rintro e u12 ⟨rfl, hb⟩
  clear OY0
  replace hW := bel_step hW hb
  replace hV := bel_step hV hb
  replace DA := DA.on hb
  replace SR := SR.on hb
  replace OX0 := OX0.on hb
  replace OX1 := OX1.on hb
  replace XD := XD.on hb
  replace GR := GR.on hb
  clear hb
  obtain ⟨DA0, DA1, DA2⟩ := DA.c3
  obtain ⟨XD0, XD1, XD2⟩ := XD.c3
  have hgl := DA.lt
  have hxl := XD.lt
  have HXX := Lib.hid (And.intro (And.intro DA0 (And.intro DA1 DA2)) (And.intro XD0 (And.intro XD1 XD2)))
  have hIu := HI.out u12 hV
  go_wp2_with fail
  go_region_held3 (fun w' => (w'.cell? ⟨w.heap.size, 0, none⟩ = some (.int .i64 kd) ∧ w'.cell? ⟨w.heap.size, 1, none⟩ = some (.string s) ∧ w'.cell? ⟨w.heap.size, 2, none⟩ = some (.slice ad zs.length capd)) ∧ w'.cell? ⟨u7.heap.size, 0, none⟩ = some (.int .i64 kd) ∧ w'.cell? ⟨u7.heap.size, 1, none⟩ = some (.string s) ∧ w'.cell? ⟨u7.heap.size, 2, none⟩ = some (.slice AX1 zs.length cX1))
    (first | go_keep | exact ⟨⟨(hkb.cell (p := ⟨w.heap.size, 0, none⟩) hgl).trans HXX.out.1.1, (hkb.cell (p := ⟨w.heap.size, 1, none⟩) hgl).trans HXX.out.1.2.1, (hkb.cell (p := ⟨w.heap.size, 2, none⟩) hgl).trans HXX.out.1.2.2⟩, (hkb.cell (p := ⟨u7.heap.size, 0, none⟩) hxl).trans HXX.out.2.1, (hkb.cell (p := ⟨u7.heap.size, 1, none⟩) hxl).trans HXX.out.2.2.1, (hkb.cell (p := ⟨u7.heap.size, 2, none⟩) hxl).trans HXX.out.2.2.2⟩ | exact ⟨⟨(hka.cell (p := ⟨w.heap.size, 0, none⟩) hgl).trans HXX.out.1.1, (hka.cell (p := ⟨w.heap.size, 1, none⟩) hgl).trans HXX.out.1.2.1, (hka.cell (p := ⟨w.heap.size, 2, none⟩) hgl).trans HXX.out.1.2.2⟩, (hka.cell (p := ⟨u7.heap.size, 0, none⟩) hxl).trans HXX.out.2.1, (hka.cell (p := ⟨u7.heap.size, 1, none⟩) hxl).trans HXX.out.2.2.1, (hka.cell (p := ⟨u7.heap.size, 2, none⟩) hxl).trans HXX.out.2.2.2⟩)
    (first
      | (go_at_call 9; refine (toDeed_any kd s ad capd zs _ (by exact hIu) (by omega)).mono ?_; rintro e va1 ⟨ga1, rfl, _, hOa1, hba1⟩; have hka : Below u12.heap.size u12 va1 := (bel_drewN (Below.refl _ _) 1).trans hba1)
      | (go_at_call 12; refine (eqDeed_same kd s _ _ _ _ zs va1 (OX1.on hka).ints hOa1.ints (by omega)).mono ?_; rintro e u13 ⟨rfl, hbb1⟩; have hkb : Below u12.heap.size u12 u13 := bel_step hka hbb1))
  clear HXX DA0 DA1 DA2 XD0 XD1 XD2 hgl hxl hIu
  replace hW := bel_step hW hkb
  replace hV := bel_step hV hkb
  replace DA := DA.on hkb
  replace SR := SR.on hkb
  replace OX0 := OX0.on hkb
  replace OX1 := OX1.on hkb
  replace XD := XD.on hkb
  replace GR := GR.on hkb
  clear hka hkb hba1 hbb1 hOa1
  have hkx0 : kT 1 eX0 eX0.length ≤ 1000000000 := by have h1 := kT_sum 1 HEX0.out eX0.length (Nat.le_refl _); have h2 := Tabs.len HEX0.out; rw [← h2, List.take_of_length_le (by omega)] at h1; rw [← h2]; omega
  have hel0 := Tabs.len HEX0.out
  have hmk0 := markTableS_any AX0 cX0 1 _ _ eX0 ts0 u13 OX0 HEX0.out HF0.out (by omega) hkx0 (by omega)
  rw [← hel0] at hmk0 hkx0
  have HMK0 := Lib.hid hmk0
  clear hmk0
  clear hel0
  go_wp2_with fail
  refine (HMK0.out).mono ?_
  rintro e u14 ⟨rfl, _, hwi⟩
  clear HMK0
  clear OX0
  replace hW := hW.trans ((hwi.wide (lo' := w.heap.size) (hi' := u6.heap.size) (by omega) (Nat.le_refl _)).bel hW.size)
  replace hV := hV.trans ((hwi.wide (lo' := u2.heap.size) (hi' := u6.heap.size) (by omega) (Nat.le_refl _)).bel hV.size)
  replace DA := DA.within hwi (.inl (by omega))
  replace SR := SR.within hwi (by omega)
  replace OX1 := OX1.within hwi (fun _ => .inr (by omega))
  replace XD := XD.within hwi (.inr (by omega))
  replace GR := GR.within hwi (.inr (by omega))
  clear hwi
  obtain ⟨k0, hk0⟩ : ∃ k0, kT 1 eX0 ts0.length = k0 := ⟨_, rfl⟩
  rw [hk0] at hkx0 ⊢
  clear hk0
  obtain ⟨XD0, XD1, XD2⟩ := XD.c3
  go_wp2_with fail
  refine (markDeed_any kd s AX1 cX1 gX1 zs (k0 : Int) u14 OX1 (by omega) (by omega) (by omega)).mono ?_
  rintro e u15 ⟨rfl, _, hgr⟩
  clear XD0 XD1 XD2
  have hwi : Within gX1 (gX1 + 1) u14 u15 := Within.of_grown hgr (.inl ⟨Nat.le_refl _, Nat.lt_succ_self _⟩)
  clear hgr
  clear OX1
  replace hW := hW.trans ((hwi.wide (lo' := w.heap.size) (hi' := gX1 + 1) (by omega) (Nat.le_refl _)).bel hW.size)
  replace hV := hV.trans ((hwi.wide (lo' := u2.heap.size) (hi' := gX1 + 1) (by omega) (Nat.le_refl _)).bel hV.size)
  replace DA := DA.within hwi (.inl (by omega))
  replace SR := SR.within hwi (by omega)
  replace XD := XD.within hwi (.inr (by omega))
  replace GR := GR.within hwi (.inr (by omega))
  clear hwi
  clear XD
  have hkn : decide ((k0 : Int) + (zs.length : Int) < 0) = false := by simp; omega
  go_wp2_with fail
  refine (eqTableS_same _ _ _ _ Y0 u15 (GR.tabsB HQG.out HPF.out) SR.tabs HPF.out (by omega)).mono ?_
  rintro e u16 ⟨rfl, hb⟩
  replace hW := bel_step hW hb
  replace hV := bel_step hV hb
  replace DA := DA.on hb
  replace SR := SR.on hb
  replace GR := GR.on hb
  clear hb hkn
  have hkg : kT 1 eG eG.length ≤ 1000000000 := by have h1 := kT_sum 1 HQG.out eG.length (Nat.le_refl _); have h2 := Tabs.len HQG.out; rw [← h2, List.take_of_length_le (by omega)] at h1; rw [← h2]; have := HPK.out; omega
  have helg := Tabs.len HQG.out
  have hmk := markTableS_any AG cG 1 _ _ eG Y0 u16 GR HQG.out HPF.out (by omega) hkg (by omega)
  rw [← helg] at hmk
  have HMK := Lib.hid hmk
  clear hmk
  have HHD := Lib.hid (show ∀ W, MarkedT W u8.heap.size u9.heap.size 1 AG eG → Calls Tryz.prog 15 #[.slice AG Y0.length cG, .int .i64 1] W fun e w' => e = .returned (.int .i64 (kT 1 eG Y0.length)) ∧ Below W.heap.size W w' from fun W h => by rw [helg]; exact heldTableS_any AG cG 1 _ _ eG Y0 W h HQG.out HPF.out (by omega) hkg (by omega))
  clear helg hkg
  go_wp2_with fail
  refine (HMK.out).mono ?_
  rintro e u17 ⟨rfl, GM, hwi⟩
  clear HMK
  clear GR
  replace hW := hW.trans ((hwi.wide (lo' := w.heap.size) (hi' := u9.heap.size) (by omega) (Nat.le_refl _)).bel hW.size)
  replace hV := hV.trans ((hwi.wide (lo' := u2.heap.size) (hi' := u9.heap.size) (by omega) (Nat.le_refl _)).bel hV.size)
  replace DA := DA.within hwi (.inl (by omega))
  replace SR := SR.within hwi (by omega)
  clear hwi
  go_wp2_with fail
  refine (HHD.out u17 GM).mono ?_
  rintro e u18 ⟨rfl, hb⟩
  replace hW := bel_step hW hb
  replace hV := bel_step hV hb
  replace DA := DA.on hb
  replace SR := SR.on hb
  replace GM := GM.on hb
  clear hb
  obtain ⟨q3, hq3⟩ : ∃ q3 : Nat, kT 1 eG Y0.length = q3 := ⟨_, rfl⟩
  rw [hq3]
  have HQ3 := Lib.hid hq3
  clear hq3
  obtain ⟨DA0, DA1, DA2⟩ := DA.c3
  have hgl := DA.lt
  have HXX := Lib.hid (And.intro DA0 (And.intro DA1 DA2))
  have hTt := HB0.out u18 hV
  have hVV := hV
  go_wp2_with fail
  go_region_held3 (fun w' => w'.cell? ⟨w.heap.size, 0, none⟩ = some (.int .i64 kd) ∧ w'.cell? ⟨w.heap.size, 1, none⟩ = some (.string s) ∧ w'.cell? ⟨w.heap.size, 2, none⟩ = some (.slice ad zs.length capd))
    (first | go_keep | exact ⟨(hkc.cell (p := ⟨w.heap.size, 0, none⟩) hgl).trans HXX.out.1, (hkc.cell (p := ⟨w.heap.size, 1, none⟩) hgl).trans HXX.out.2.1, (hkc.cell (p := ⟨w.heap.size, 2, none⟩) hgl).trans HXX.out.2.2⟩ | exact ⟨(hkb.cell (p := ⟨w.heap.size, 0, none⟩) hgl).trans HXX.out.1, (hkb.cell (p := ⟨w.heap.size, 1, none⟩) hgl).trans HXX.out.2.1, (hkb.cell (p := ⟨w.heap.size, 2, none⟩) hgl).trans HXX.out.2.2⟩ | exact ⟨(hka.cell (p := ⟨w.heap.size, 0, none⟩) hgl).trans HXX.out.1, (hka.cell (p := ⟨w.heap.size, 1, none⟩) hgl).trans HXX.out.2.1, (hka.cell (p := ⟨w.heap.size, 2, none⟩) hgl).trans HXX.out.2.2⟩)
    (first
      | (go_at_call 8; refine (toTableS_any a0 cap0 ts0 _ (by exact hTt) HF0.out hl0).mono ?_; rintro e vc ⟨AP, cAP, eAP, rfl, heAP, OAP, hbAP⟩; have hka : Below u18.heap.size u18 vc := (bel_drewN (Below.refl _ _) 1).trans hbAP)
      | (go_at_call 9; refine (toDeed_own kd s ad capd zs vc (HI.out vc (bel_step hVV hka)) (by omega)).mono ?_; rintro e vd ⟨AQ, cAQ, gAQ, rfl, hgAQ, OAQ, hbAQ⟩; have hkb : Below u18.heap.size u18 vd := bel_step hka hbAQ)
      | (go_at_call 10; refine (implDoes_any AP cAP ts0 kd s AQ cAQ zs vd ((OAP.on hbAQ).tabsB heAP HF0.out) HF0.out hl0 OAQ.ints hls hlz).mono ?_; rintro e u19 hq; obtain ⟨AH, cH, eH, rfl, heH, HR, hbq⟩ := implBase_got HSS.out hq; have hkc : Below u18.heap.size u18 u19 := bel_step hkb hbq))
  clear HXX DA0 DA1 DA2 hTt hVV
  replace hW := bel_step hW hkc
  replace hV := bel_step hV hkc
  replace DA := DA.on hkc
  replace SR := SR.on hkc
  replace GM := GM.on hkc
  clear hka hkb hkc hbAP hbAQ hbq OAP OAQ hq hgl
  have HQH := Lib.hid heH
  go_wp2_with fail
  refine (eqTableS_same _ _ _ _ Y0 u19 (HR.tabsB HQH.out HPF.out) SR.tabs HPF.out (by omega)).mono ?_
  rintro e u20 ⟨rfl, hb⟩
  replace hW := bel_step hW hb
  replace hV := bel_step hV hb
  replace DA := DA.on hb
  replace SR := SR.on hb
  replace GM := GM.on hb
  replace HR := HR.on hb
  clear hb
  go_wp2_with fail
  refine (HHD.out u20 GM).mono ?_
  rintro e u21 ⟨rfl, hb⟩
  replace hW := bel_step hW hb
  rw [HQ3.out]
  go_wp2
  go_ret
  exact ⟨rfl, hW⟩
end Go.Proofs.YtdjoiehknpfigaaGreat
