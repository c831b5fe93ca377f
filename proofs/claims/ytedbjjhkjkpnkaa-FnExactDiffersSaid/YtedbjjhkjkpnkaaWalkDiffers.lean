/- The walk of laws.FnExactDiffers: it returns true, and nothing that lay has turned. -/
import Derived.Test.YtedbjjhkjkpnkaaBas5
import Derived.Test.YtedbjjhkjkpnkaaBasM
namespace Go.Proofs.Ytedbjjhkjkpnkaa
open Go.RowKit

set_option maxRecDepth 100000 in
set_option maxHeartbeats 8000000 in
theorem walkFnExactDiffers (a0 : Option Addr) (cap0 : Nat) (ts0 : List TB) (a1 : Option Addr) (cap1 : Nat) (ts1 : List TB) (nm : ByteArray) (w : World) (r0 : RawTabs w w.heap.size a0 ts0) (hm0 : ts0.length ≤ maxLen) (r1 : RawTabs w w.heap.size a1 ts1) (hm1 : ts1.length ≤ maxLen) (_hn : nm.size ≤ maxLen) :
    Calls Try.prog 4 #[.slice a0 ts0.length cap0, .slice a1 ts1.length cap1, .string nm] w fun e w' => e = .returned (.bool true) ∧ Below w.heap.size w w' := by
  clear _hn
  by_cases hbig : 1048576 < nm.size
  · have hb : (1048576 : Int) < (nm.size : Int) := by omega
    go_enter Try.func4, Try.ntmps4
    go_wp2
    go_ret
    exact ⟨rfl, Below.refl _ _⟩
  have hb : decide ((1048576 : Int) < (nm.size : Int)) = false := by simp; omega
  have hW := Below.refl w.heap.size w
  go_enter Try.func4, Try.ntmps4
  go_wp2_with fail
  refine (szTableS_sum a0 cap0 ts0 1048576 w r0 hm0 (by omega) (by omega)).mono ?_
  rintro e u1 ⟨x0, rfl, hx1, hx, hb⟩
  have HXx0 := Lib.hid hx
  clear hx
  replace hW := bel_step hW hb
  replace r0 := r0.on hb
  replace r1 := r1.on hb
  clear hb
  by_cases h0 : x0 < 0
  · go_wp2
    go_ret
    exact ⟨rfl, hW⟩
  have hsx0 := HXx0.out (by omega)
  clear HXx0 hx1
  have hdx0 : decide (x0 < 0) = false := by simp; omega
  have hpx0 : 0 ≤ x0 ∧ x0 ≤ 1048576 := by omega
  clear h0
  go_wp2_with fail
  refine (szTableS_sum a1 cap1 ts1 x0 u1 r1 hm1 (by omega) (by omega)).mono ?_
  rintro e u2 ⟨x1, rfl, hx1, hx, hb⟩
  have HXx1 := Lib.hid hx
  clear hx
  replace hW := bel_step hW hb
  replace r0 := r0.on hb
  replace r1 := r1.on hb
  clear hb
  by_cases h0 : x1 < 0
  · go_wp2
    go_ret
    exact ⟨rfl, hW⟩
  have hsx1 := HXx1.out (by omega)
  clear HXx1 hx1
  have hdx1 : decide (x1 < 0) = false := by simp; omega
  have hpx1 : 0 ≤ x1 ∧ x1 ≤ 1048576 := by omega
  clear h0
  have hl0 : ts0.length ≤ 1048576 := by omega
  have hw0 : twS ts0 + ts0.length ≤ 1048576 := by omega
  have HF0 := Lib.hid (show fitT 1048576 ts0 from fitT_of (by omega))
  have hl1 : ts1.length ≤ 1048576 := by omega
  have hw1 : twS ts1 + ts1.length ≤ 1048576 := by omega
  have HF1 := Lib.hid (show fitT 1048576 ts1 from fitT_of (by omega))
  have HB0 := Lib.hid (show ∀ W, Below u2.heap.size u2 W → Tabs W W.heap.size a0 ts0 from fun W h => (r0.on h).tabs HF0.out)
  have HB1 := Lib.hid (show ∀ W, Below u2.heap.size u2 W → Tabs W W.heap.size a1 ts1 from fun W h => (r1.on h).tabs HF1.out)
  clear r0 hm0 r1 hm1
  have hV := Below.refl u2.heap.size u2
  have hzv := hW.size
  obtain ⟨Q, hQ⟩ : ∃ Q, diffB ts0 ts1 nm = Q := ⟨_, rfl⟩
  obtain ⟨hQl, hQr⟩ := diffB_fit ts0 ts1 nm
  rw [hQ] at hQl hQr
  have HSS := Lib.hid hQ
  clear hQ
  have HQr := Lib.hid hQr
  have HQb := Lib.hid (show ∀ j, j < Q.length → (rx Q j).length ≤ 1099511627776 from fun j hj => by have := HQr.out j hj; omega)
  clear hQr
  go_wp2_with fail
  refine (toTableS_any a0 cap0 ts0 u2 (HB0.out u2 hV) HF0.out hl0).mono ?_
  rintro e u3 ⟨AB0, cB0, eB0, rfl, hEB0, OB0, hb⟩
  have HEB0 := Lib.hid hEB0
  clear hEB0
  have hz1 := hb.size
  replace hV := bel_step hV hb
  replace hW := bel_step hW hb
  clear hb
  go_wp2_with fail
  refine (toTableS_any a1 cap1 ts1 u3 (HB1.out u3 hV) HF1.out hl1).mono ?_
  rintro e u4 ⟨AB1, cB1, eB1, rfl, hEB1, OB1, hb⟩
  have HEB1 := Lib.hid hEB1
  clear hEB1
  have hz2 := hb.size
  replace hV := bel_step hV hb
  replace hW := bel_step hW hb
  replace OB0 := OB0.on hb
  clear hb
  go_wp2_with fail
  refine (specDiffers_any AB0 AB1 cB0 cB1 ts0 ts1 nm u4 (OB0.tabsB HEB0.out HF0.out) (OB1.tabsB HEB1.out HF1.out) HF0.out HF1.out hl0 hl1).mono ?_
  rintro e u5 ⟨vS, eS, rfl, hTS, heS, hb⟩
  rw [HSS.out] at heS
  obtain ⟨AS, cS, rfl⟩ := hTS.formW heS
  have HQS := Lib.hid heS
  clear heS
  have SR := hTS.oin
  clear hTS
  have hz3 := hb.size
  replace hV := bel_step hV hb
  replace hW := bel_step hW hb
  replace OB0 := OB0.on hb
  replace OB1 := OB1.on hb
  clear hb
  clear OB0
  clear OB1
  go_wp2_with fail
  refine (toTableS_any a0 cap0 ts0 u5 (HB0.out u5 hV) HF0.out hl0).mono ?_
  rintro e u6 ⟨AX0, cX0, eX0, rfl, hEX0, OX0, hb⟩
  have HEX0 := Lib.hid hEX0
  clear hEX0
  have hz4 := hb.size
  replace hV := bel_step hV hb
  replace hW := bel_step hW hb
  replace SR := SR.on hb
  clear hb
  go_wp2_with fail
  refine (toTableS_any a1 cap1 ts1 u6 (HB1.out u6 hV) HF1.out hl1).mono ?_
  rintro e u7 ⟨AX1, cX1, eX1, rfl, hEX1, OX1, hb⟩
  have HEX1 := Lib.hid hEX1
  clear hEX1
  have hz5 := hb.size
  replace hV := bel_step hV hb
  replace hW := bel_step hW hb
  replace SR := SR.on hb
  replace OX0 := OX0.on hb
  clear hb
  go_wp2_with fail
  refine (implDiffers_any AX0 AX1 cX0 cX1 ts0 ts1 nm u7 (OX0.tabsB HEX0.out HF0.out) (OX1.tabsB HEX1.out HF1.out) HF0.out HF1.out hl0 hl1).mono ?_
  rintro e u8 ⟨vG, eG, rfl, hTG, heG, hb⟩
  rw [HSS.out] at heG
  obtain ⟨AG, cG, rfl⟩ := hTG.formW heG
  have HQG := Lib.hid heG
  clear heG
  have GR := hTG.oin
  clear hTG
  have hz6 := hb.size
  replace hV := bel_step hV hb
  replace hW := bel_step hW hb
  replace SR := SR.on hb
  replace OX0 := OX0.on hb
  replace OX1 := OX1.on hb
  clear hb
  go_wp2_with fail
  refine (eqCountS_any _ _ _ _ Q Q u8 (OBag.bagW GR.1 HQG.out HQb.out) (OBag.bagW SR.1 HQS.out HQb.out) (by omega) (by omega)).mono ?_
  rintro e u9 ⟨rfl, hb⟩
  rw [decide_eq_true (rfl : Q = Q)]
  replace hV := bel_step hV hb
  replace hW := bel_step hW hb
  replace SR := SR.on hb
  replace OX0 := OX0.on hb
  replace OX1 := OX1.on hb
  replace GR := GR.on hb
  clear hb
  go_wp2_with fail
  refine (toTableS_any a0 cap0 ts0 u9 (HB0.out u9 hV) HF0.out hl0).mono ?_
  rintro e u10 ⟨AY0, cY0, eY0, rfl, hEY0, OY0, hb⟩
  have HEY0 := Lib.hid hEY0
  clear hEY0
  have hz7 := hb.size
  replace hV := bel_step hV hb
  replace hW := bel_step hW hb
  replace SR := SR.on hb
  replace OX0 := OX0.on hb
  replace OX1 := OX1.on hb
  replace GR := GR.on hb
  clear hb
  go_wp2_with fail
  refine (eqTableS_same _ _ _ _ ts0 u10 (OX0.tabsB HEX0.out HF0.out) (OY0.tabsB HEY0.out HF0.out) HF0.out (by omega)).mono ?_
  rintro e u11 ⟨rfl, hb⟩
  clear OY0
  replace hV := bel_step hV hb
  replace hW := bel_step hW hb
  replace SR := SR.on hb
  replace OX0 := OX0.on hb
  replace OX1 := OX1.on hb
  replace GR := GR.on hb
  clear hb
  go_wp2_with fail
  refine (toTableS_any a1 cap1 ts1 u11 (HB1.out u11 hV) HF1.out hl1).mono ?_
  rintro e u12 ⟨AY1, cY1, eY1, rfl, hEY1, OY1, hb⟩
  have HEY1 := Lib.hid hEY1
  clear hEY1
  have hz8 := hb.size
  replace hV := bel_step hV hb
  replace hW := bel_step hW hb
  replace SR := SR.on hb
  replace OX0 := OX0.on hb
  replace OX1 := OX1.on hb
  replace GR := GR.on hb
  clear hb
  go_wp2_with fail
  refine (eqTableS_same _ _ _ _ ts1 u12 (OX1.tabsB HEX1.out HF1.out) (OY1.tabsB HEY1.out HF1.out) HF1.out (by omega)).mono ?_
  rintro e u13 ⟨rfl, hb⟩
  clear OY1
  replace hV := bel_step hV hb
  replace hW := bel_step hW hb
  replace SR := SR.on hb
  replace OX0 := OX0.on hb
  replace OX1 := OX1.on hb
  replace GR := GR.on hb
  clear hb
  have hkx0 : kT 1 eX0 eX0.length ≤ 1000000000 := by have h1 := kT_sum 1 HEX0.out eX0.length (Nat.le_refl _); have h2 := Tabs.len HEX0.out; rw [← h2, List.take_of_length_le (by omega)] at h1; rw [← h2]; omega
  have hks0 : kT 1 eX0 ts0.length ≤ 1 + 2 * ts0.length + twS ts0 := by have h1 := kT_sum 1 HEX0.out eX0.length (Nat.le_refl _); have h2 := Tabs.len HEX0.out; rw [← h2, List.take_of_length_le (by omega)] at h1; exact h1
  have hel0 := Tabs.len HEX0.out
  have hmk0 := markTableS_any AX0 cX0 1 _ _ eX0 ts0 u13 OX0 HEX0.out HF0.out (by omega) hkx0 (by omega)
  rw [← hel0] at hmk0
  have HMK0 := Lib.hid hmk0
  clear hmk0
  have hkl0 : 1 ≤ kT 1 eX0 ts0.length := kT_mono 1 eX0 (i := 0) (Nat.zero_le _)
  rw [← hel0] at hkx0
  clear hel0
  go_wp2_with fail
  refine (HMK0.out).mono ?_
  rintro e u14 ⟨rfl, _, hwi⟩
  clear OX0 HMK0
  replace hW := hW.trans ((hwi.wide (lo' := w.heap.size) (hi' := u6.heap.size) (by omega) (Nat.le_refl _)).bel hW.size)
  replace hV := hV.trans ((hwi.wide (lo' := u2.heap.size) (hi' := u6.heap.size) (by omega) (Nat.le_refl _)).bel hV.size)
  replace SR := SR.within hwi (.inl (by omega))
  replace OX1 := OX1.within hwi (.inr (by omega))
  replace GR := GR.within hwi (.inr (by omega))
  clear hwi
  generalize kT 1 eX0 ts0.length = k0 at *
  have hkx1 : kT k0 eX1 eX1.length ≤ 1000000000 := by have h1 := kT_sum k0 HEX1.out eX1.length (Nat.le_refl _); have h2 := Tabs.len HEX1.out; rw [← h2, List.take_of_length_le (by omega)] at h1; rw [← h2]; omega
  have hks1 : kT k0 eX1 ts1.length ≤ k0 + 2 * ts1.length + twS ts1 := by have h1 := kT_sum k0 HEX1.out eX1.length (Nat.le_refl _); have h2 := Tabs.len HEX1.out; rw [← h2, List.take_of_length_le (by omega)] at h1; exact h1
  have hel1 := Tabs.len HEX1.out
  have hmk1 := markTableS_any AX1 cX1 k0 _ _ eX1 ts1 u14 OX1 HEX1.out HF1.out (by omega) hkx1 (by omega)
  rw [← hel1] at hmk1
  have HMK1 := Lib.hid hmk1
  clear hmk1
  have hkl1 : k0 ≤ kT k0 eX1 ts1.length := kT_mono k0 eX1 (i := 0) (Nat.zero_le _)
  rw [← hel1] at hkx1
  clear hel1
  go_wp2_with fail
  refine (HMK1.out).mono ?_
  rintro e u15 ⟨rfl, _, hwi⟩
  clear OX1 HMK1
  replace hW := hW.trans ((hwi.wide (lo' := w.heap.size) (hi' := u7.heap.size) (by omega) (Nat.le_refl _)).bel hW.size)
  replace hV := hV.trans ((hwi.wide (lo' := u2.heap.size) (hi' := u7.heap.size) (by omega) (Nat.le_refl _)).bel hV.size)
  replace SR := SR.within hwi (.inl (by omega))
  replace GR := GR.within hwi (.inr (by omega))
  clear hwi
  generalize kT k0 eX1 ts1.length = k1 at *
  have hkn : decide (((k1 : Nat) : Int) < 0) = false := by simp
  go_wp2_with fail
  refine (eqCountS_any _ _ _ _ Q Q u15 (OBag.bagW GR.1 HQG.out HQb.out) (OBag.bagW SR.1 HQS.out HQb.out) (by omega) (by omega)).mono ?_
  rintro e u16 ⟨rfl, hb⟩
  rw [decide_eq_true (rfl : Q = Q)]
  replace hV := bel_step hV hb
  replace hW := bel_step hW hb
  replace SR := SR.on hb
  replace GR := GR.on hb
  clear hb
  have HMg := Lib.hid (show ∀ e ∈ eG, e.r.length ≤ 2097152 from ents_of HQG.out (fun j hj => by have := HQr.out j hj; omega))
  have hGn : Q.length ≤ 2097152 := by omega
  have HGL := Lib.hid (show Q.length = eG.length by rw [← HQG.out, List.length_map])
  go_wp2_with fail
  refine (markCountS_any _ _ _ Q.length _ eG 1 u16 GR hGn HMg.out (by omega) (by omega)).mono ?_
  rintro e u17 ⟨rfl, GM, hwi⟩
  clear GR
  obtain ⟨hm0, hm1g⟩ := kAt_fit (k := 1) (by omega) (by omega) HMg.out Q.length hGn
  replace hW := hW.trans ((hwi.wide (lo' := w.heap.size) (hi' := u8.heap.size) (by omega) (Nat.le_refl _)).bel hW.size)
  replace hV := hV.trans ((hwi.wide (lo' := u2.heap.size) (hi' := u8.heap.size) (by omega) (Nat.le_refl _)).bel hV.size)
  replace SR := SR.within hwi (.inl (by omega))
  clear hwi
  have HMb := Lib.hid (show ∀ e ∈ eG, e.r.length ≤ 1099511627776 from fun e he => by have := HMg.out e he; omega)
  go_wp2_with fail
  refine (heldCountS_any _ Q.length _ _ eG 1 u17 HGL.out (GM.bagK HMb.out) hGn HMg.out (by omega) (by omega)).mono ?_
  rintro e u18 ⟨rfl, hE⟩
  subst hE
  obtain ⟨q3, hq3⟩ : ∃ q3, kAt 1 eG Q.length = q3 := ⟨_, rfl⟩
  rw [hq3] at hm0 hm1g ⊢
  have HQ3 := Lib.hid hq3
  clear hq3
  go_wp2_with fail
  refine (toTableS_any a0 cap0 ts0 u17 (HB0.out u17 hV) HF0.out hl0).mono ?_
  rintro e u19 ⟨AP0, cP0, eP0, rfl, hEP0, OP0, hb⟩
  have HEP0 := Lib.hid hEP0
  clear hEP0
  have hz9 := hb.size
  replace hV := bel_step hV hb
  replace hW := bel_step hW hb
  replace SR := SR.on hb
  replace GM := GM.on hb
  clear hb
  go_wp2_with fail
  refine (toTableS_any a1 cap1 ts1 u19 (HB1.out u19 hV) HF1.out hl1).mono ?_
  rintro e u20 ⟨AP1, cP1, eP1, rfl, hEP1, OP1, hb⟩
  have HEP1 := Lib.hid hEP1
  clear hEP1
  have hz10 := hb.size
  replace hV := bel_step hV hb
  replace hW := bel_step hW hb
  replace SR := SR.on hb
  replace GM := GM.on hb
  replace OP0 := OP0.on hb
  clear hb
  go_wp2_with fail
  refine (implDiffers_any AP0 AP1 cP0 cP1 ts0 ts1 nm u20 (OP0.tabsB HEP0.out HF0.out) (OP1.tabsB HEP1.out HF1.out) HF0.out HF1.out hl0 hl1).mono ?_
  rintro e u21 ⟨vH, eH, rfl, hTH, heH, hb⟩
  rw [HSS.out] at heH
  obtain ⟨AH, cH, rfl⟩ := hTH.formW heH
  have HQH := Lib.hid heH
  clear heH
  have HR := hTH.oin
  clear hTH
  have hz11 := hb.size
  replace hV := bel_step hV hb
  replace hW := bel_step hW hb
  replace SR := SR.on hb
  replace GM := GM.on hb
  replace OP0 := OP0.on hb
  replace OP1 := OP1.on hb
  clear hb
  clear OP0
  clear OP1
  go_wp2_with fail
  refine (eqCountS_any _ _ _ _ Q Q u21 (OBag.bagW HR.1 HQH.out HQb.out) (OBag.bagW SR.1 HQS.out HQb.out) (by omega) (by omega)).mono ?_
  rintro e u22 ⟨rfl, hb⟩
  rw [decide_eq_true (rfl : Q = Q)]
  replace hV := bel_step hV hb
  replace hW := bel_step hW hb
  replace SR := SR.on hb
  replace GM := GM.on hb
  replace HR := HR.on hb
  clear hb
  go_wp2_with fail
  refine (heldCountS_any _ Q.length _ _ eG 1 u22 HGL.out (GM.bagK HMb.out) hGn HMg.out (by omega) (by omega)).mono ?_
  rintro e u23 ⟨rfl, hE⟩
  subst hE
  rw [HQ3.out]
  go_wp2
  go_ret
  exact ⟨rfl, hW⟩
end Go.Proofs.Ytedbjjhkjkpnkaa
