/- The walk of laws.FnExactTableIn: it returns true, and nothing that lay has turned. -/
import Derived.Test.YtjidfoeajnfmdaaBas4
import Derived.Test.YtjidfoeajnfmdaaBasM
import Derived.Test.YtjidfoeajnfmdaaTabFit
namespace Go.Proofs.Ytjidfoeajnfmdaa
open Go.RowKit

set_option maxRecDepth 100000 in
set_option maxHeartbeats 8000000 in
theorem walkFnExactTableIn (a0 : Option Addr) (cap0 : Nat) (ts0 : List TB) (nm : ByteArray) (w : World) (r0 : RawTabs w w.heap.size a0 ts0) (hm0 : ts0.length ≤ maxLen) (_hn : nm.size ≤ maxLen) :
    Calls Try.prog 4 #[.slice a0 ts0.length cap0, .string nm] w fun e w' => e = .returned (.bool true) ∧ Below w.heap.size w w' := by
  clear _hn
  by_cases hbig : 1048576 < nm.size
  · have hb : (1048576 : Int) < (nm.size : Int) := by omega
    go_enter Try.func4, Try.ntmps4
    go_wp2
    go_ret
    exact ⟨rfl, Below.refl _ _⟩
  have hb : decide ((1048576 : Int) < (nm.size : Int)) = false := by simp; omega
  have hW := Below.refl w.heap.size w
  go_enter Try.func4, Try.ntmps4
  go_wp2_with fail
  refine (szTableS_sum a0 cap0 ts0 1048576 w r0 hm0 (by omega) (by omega)).mono ?_
  rintro e u1 ⟨x0, rfl, hx1, hx, hb⟩
  have HXx0 := Lib.hid hx
  clear hx
  replace hW := bel_step hW hb
  replace r0 := r0.on hb
  clear hb
  by_cases h0 : x0 < 0
  · go_wp2
    go_ret
    exact ⟨rfl, hW⟩
  have hsx0 := HXx0.out (by omega)
  clear HXx0 hx1
  have hdx0 : decide (x0 < 0) = false := by simp; omega
  have hpx0 : 0 ≤ x0 ∧ x0 ≤ 1048576 := by omega
  clear h0
  have hl0 : ts0.length ≤ 1048576 := by omega
  have hw0 : twS ts0 + ts0.length ≤ 1048576 := by omega
  have HF0 := Lib.hid (show fitT 1048576 ts0 from fitT_of (by omega))
  have HB0 := Lib.hid (show ∀ W, Below u1.heap.size u1 W → Tabs W W.heap.size a0 ts0 from fun W h => (r0.on h).tabs HF0.out)
  clear r0 hm0
  have hV := Below.refl u1.heap.size u1
  have hzv := hW.size
  obtain ⟨T0, hT0⟩ : ∃ T0, inT ts0 nm = T0 := ⟨_, rfl⟩
  obtain ⟨B0, hB0⟩ : ∃ B0, inB6 ts0 nm = B0 := ⟨_, rfl⟩
  obtain ⟨hRl, hRr⟩ := inT_fit nm HF0.out
  rw [hT0] at hRl hRr
  have HSS := Lib.hid (And.intro hT0 hB0)
  clear hT0 hB0
  have HRr := Lib.hid hRr
  have HRb := Lib.hid (show ∀ j, j < T0.rows.length → (rr T0.rows j).length ≤ 1099511627776 from fun j hj => by have := HRr.out j hj; omega)
  clear hRr
  have hbb : (B0 != B0) = false := by simp
  go_wp2_with fail
  refine (toTableS_any a0 cap0 ts0 u1 (HB0.out u1 hV) HF0.out hl0).mono ?_
  rintro e u2 ⟨AB0, cB0, eB0, rfl, hEB0, OB0, hb⟩
  have HEB0 := Lib.hid hEB0
  clear hEB0
  have hz1 := hb.size
  replace hV := bel_step hV hb
  replace hW := bel_step hW hb
  clear hb
  go_wp2_with fail
  refine (specTableIn_any AB0 cB0 ts0 nm u2 (OB0.tabsB HEB0.out HF0.out) HF0.out hl0).mono ?_
  rintro e u3 ⟨vS, rfl, hTS, hb⟩
  rw [HSS.out.1] at hTS
  obtain ⟨qS, eS, rfl, hRS, hqS⟩ := hTS
  rw [HSS.out.2]
  obtain ⟨AS, cS, rfl⟩ := hRS.formW hqS
  have HQS := Lib.hid hqS
  clear hqS
  have SR := hRS.wrin
  clear hRS
  have hz2 := hb.size
  replace hV := bel_step hV hb
  replace hW := bel_step hW hb
  replace OB0 := OB0.on hb
  clear hb
  clear OB0
  have hb := (Below.refl u3.heap.size u3).alloc (Nat.le_refl _) (.cells #[.string T0.n, .int .i64 T0.wd, .slice AS T0.rows.length cS] 31)
  replace hV := bel_step hV hb
  replace hW := bel_step hW hb
  replace SR := SR.on hb
  clear hb
  have SB := Blk.new u3 31 #[.string T0.n, .int .i64 T0.wd, .slice AS T0.rows.length cS]
  have hzSB : u3.heap.size < (u3.alloc (.cells #[.string T0.n, .int .i64 T0.wd, .slice AS T0.rows.length cS] 31)).heap.size := by rw [World.size_alloc]; exact Nat.lt_succ_self _
  go_wp2_with fail
  generalize u3.alloc (.cells #[.string T0.n, .int .i64 T0.wd, .slice AS T0.rows.length cS] 31) = u4 at *
  refine (toTableS_any a0 cap0 ts0 u4 (HB0.out u4 hV) HF0.out hl0).mono ?_
  rintro e u5 ⟨AX0, cX0, eX0, rfl, hEX0, OX0, hb⟩
  have HEX0 := Lib.hid hEX0
  clear hEX0
  have hz3 := hb.size
  replace hV := bel_step hV hb
  replace hW := bel_step hW hb
  replace SR := SR.on hb
  replace SB := SB.on hb
  clear hb
  go_wp2_with fail
  refine (implTableIn_any AX0 cX0 ts0 nm u5 (OX0.tabsB HEX0.out HF0.out) HF0.out hl0).mono ?_
  rintro e u6 ⟨vG, rfl, hTG, hb⟩
  rw [HSS.out.1] at hTG
  obtain ⟨qG, eG, rfl, hRG, hqG⟩ := hTG
  rw [HSS.out.2]
  obtain ⟨AG, cG, rfl⟩ := hRG.formW hqG
  have HQG := Lib.hid hqG
  clear hqG
  have GR := hRG.rin
  clear hRG
  have hz4 := hb.size
  replace hV := bel_step hV hb
  replace hW := bel_step hW hb
  replace SR := SR.on hb
  replace SB := SB.on hb
  replace OX0 := OX0.on hb
  clear hb
  have hb := (Below.refl u6.heap.size u6).alloc (Nat.le_refl _) (.cells #[.string T0.n, .int .i64 T0.wd, .slice AG T0.rows.length cG] 31)
  replace hV := bel_step hV hb
  replace hW := bel_step hW hb
  replace SR := SR.on hb
  replace SB := SB.on hb
  replace OX0 := OX0.on hb
  replace GR := GR.on hb
  clear hb
  have GB := Blk.new u6 31 #[.string T0.n, .int .i64 T0.wd, .slice AG T0.rows.length cG]
  have hzGB : u6.heap.size < (u6.alloc (.cells #[.string T0.n, .int .i64 T0.wd, .slice AG T0.rows.length cG] 31)).heap.size := by rw [World.size_alloc]; exact Nat.lt_succ_self _
  obtain ⟨GB0, GB1, GB2⟩ := GB.c3
  obtain ⟨SB0, SB1, SB2⟩ := SB.c3
  go_wp2_with fail
  generalize u6.alloc (.cells #[.string T0.n, .int .i64 T0.wd, .slice AG T0.rows.length cG] 31) = u7 at *
  refine (eqTable_same T0.n T0.wd _ _ _ _ T0.rows u7 (GR.1.rwsW HQG.out HRb.out) (SR.1.rwsW HQS.out HRb.out) (by omega)).mono ?_
  rintro e u8 ⟨rfl, hb⟩
  clear GB0 GB1 GB2 SB0 SB1 SB2
  replace hV := bel_step hV hb
  replace hW := bel_step hW hb
  replace SR := SR.on hb
  replace SB := SB.on hb
  replace OX0 := OX0.on hb
  replace GR := GR.on hb
  replace GB := GB.on hb
  clear hb
  go_wp2_with fail
  refine (toTableS_any a0 cap0 ts0 u8 (HB0.out u8 hV) HF0.out hl0).mono ?_
  rintro e u9 ⟨AY0, cY0, eY0, rfl, hEY0, OY0, hb⟩
  have HEY0 := Lib.hid hEY0
  clear hEY0
  have hz5 := hb.size
  replace hV := bel_step hV hb
  replace hW := bel_step hW hb
  replace SR := SR.on hb
  replace SB := SB.on hb
  replace OX0 := OX0.on hb
  replace GR := GR.on hb
  replace GB := GB.on hb
  clear hb
  go_wp2_with fail
  refine (eqTableS_same _ _ _ _ ts0 u9 (OX0.tabsB HEX0.out HF0.out) (OY0.tabsB HEY0.out HF0.out) HF0.out (by omega)).mono ?_
  rintro e u10 ⟨rfl, hb⟩
  clear OY0
  replace hV := bel_step hV hb
  replace hW := bel_step hW hb
  replace SR := SR.on hb
  replace SB := SB.on hb
  replace OX0 := OX0.on hb
  replace GR := GR.on hb
  replace GB := GB.on hb
  clear hb
  have hkx0 : kT 1 eX0 eX0.length ≤ 1000000000 := by have h1 := kT_sum 1 HEX0.out eX0.length (Nat.le_refl _); have h2 := Tabs.len HEX0.out; rw [← h2, List.take_of_length_le (by omega)] at h1; rw [← h2]; omega
  have hel0 := Tabs.len HEX0.out
  have hmk0 := markTableS_any AX0 cX0 1 _ _ eX0 ts0 u10 OX0 HEX0.out HF0.out (by omega) hkx0 (by omega)
  rw [← hel0] at hmk0
  have HMK0 := Lib.hid hmk0
  clear hmk0
  have hkl0 : 1 ≤ kT 1 eX0 ts0.length := kT_mono 1 eX0 (i := 0) (Nat.zero_le _)
  rw [← hel0] at hkx0
  clear hel0
  go_wp2_with fail
  refine (HMK0.out).mono ?_
  rintro e u11 ⟨rfl, _, hwi⟩
  clear OX0 HMK0
  replace hW := hW.trans ((hwi.wide (lo' := w.heap.size) (hi' := u5.heap.size) (by omega) (Nat.le_refl _)).bel hW.size)
  replace hV := hV.trans ((hwi.wide (lo' := u1.heap.size) (hi' := u5.heap.size) (by omega) (Nat.le_refl _)).bel hV.size)
  replace SR := SR.within hwi (.inl (by omega))
  replace SB := SB.within hwi (.inl (by omega))
  replace GR := GR.within hwi (.inr (by omega))
  replace GB := GB.within hwi (.inr (by omega))
  clear hwi
  generalize kT 1 eX0 ts0.length = k0 at *
  have hkn : decide (((k0 : Nat) : Int) < 0) = false := by simp
  obtain ⟨GB0, GB1, GB2⟩ := GB.c3
  obtain ⟨SB0, SB1, SB2⟩ := SB.c3
  go_wp2_with fail
  refine (eqTable_same T0.n T0.wd _ _ _ _ T0.rows u11 (GR.1.rwsW HQG.out HRb.out) (SR.1.rwsW HQS.out HRb.out) (by omega)).mono ?_
  rintro e u12 ⟨rfl, hb⟩
  clear GB0 GB1 GB2 SB0 SB1 SB2
  replace hV := bel_step hV hb
  replace hW := bel_step hW hb
  replace SR := SR.on hb
  replace SB := SB.on hb
  replace GR := GR.on hb
  replace GB := GB.on hb
  clear hb
  have HMg := Lib.hid (show ∀ e ∈ eG, e.r.length ≤ 2097152 from ents_rr HQG.out (fun j hj => by have := HRr.out j hj; omega))
  have hGn : T0.rows.length ≤ 2097152 := by omega
  have HGL := Lib.hid (show T0.rows.length = eG.length by rw [← HQG.out, List.length_map])
  obtain ⟨GB0, GB1, GB2⟩ := GB.c3
  go_wp2_with fail
  refine (markTable_own _ _ T0.n T0.wd _ T0.rows.length _ eG 1 u12 GR hGn HMg.out (by omega) (by omega)).mono ?_
  rintro e u13 ⟨rfl, GM, hwi⟩
  clear GB0 GB1 GB2
  clear GR
  obtain ⟨hm0, hm1g⟩ := kR_fit (k := 1) (by omega) HMg.out T0.rows.length hGn
  replace hW := hW.trans ((hwi.wide (lo' := w.heap.size) (hi' := u6.heap.size) (by omega) (Nat.le_refl _)).bel hW.size)
  replace hV := hV.trans ((hwi.wide (lo' := u1.heap.size) (hi' := u6.heap.size) (by omega) (Nat.le_refl _)).bel hV.size)
  replace SR := SR.within hwi (.inl (by omega))
  replace SB := SB.within hwi (.inl (by omega))
  replace GB := GB.within hwi (.inr (by omega))
  clear hwi
  have HMb := Lib.hid (show ∀ e ∈ eG, e.r.length ≤ 1099511627776 from fun e he => by have := HMg.out e he; omega)
  obtain ⟨GB0, GB1, GB2⟩ := GB.c3
  go_wp2_with fail
  refine (heldTable_any T0.n T0.wd _ T0.rows.length _ eG 1 u13 HGL.out (GM.rwsK HMb.out) hGn HMg.out (by omega) (by omega)).mono ?_
  rintro e u14 ⟨rfl, hb⟩
  clear GB0 GB1 GB2
  replace hV := bel_step hV hb
  replace hW := bel_step hW hb
  replace SR := SR.on hb
  replace SB := SB.on hb
  replace GB := GB.on hb
  replace GM := GM.on hb
  clear hb
  obtain ⟨q3, hq3⟩ : ∃ q3, kR 1 eG T0.rows.length = q3 := ⟨_, rfl⟩
  rw [hq3] at hm0 hm1g ⊢
  have HQ3 := Lib.hid hq3
  clear hq3
  go_wp2_with fail
  refine (toTableS_any a0 cap0 ts0 u14 (HB0.out u14 hV) HF0.out hl0).mono ?_
  rintro e u15 ⟨AP0, cP0, eP0, rfl, hEP0, OP0, hb⟩
  have HEP0 := Lib.hid hEP0
  clear hEP0
  have hz6 := hb.size
  replace hV := bel_step hV hb
  replace hW := bel_step hW hb
  replace SR := SR.on hb
  replace SB := SB.on hb
  replace GB := GB.on hb
  replace GM := GM.on hb
  clear hb
  go_wp2_with fail
  refine (implTableIn_any AP0 cP0 ts0 nm u15 (OP0.tabsB HEP0.out HF0.out) HF0.out hl0).mono ?_
  rintro e u16 ⟨vH, rfl, hTH, hb⟩
  rw [HSS.out.1] at hTH
  obtain ⟨qH, eH, rfl, hRH, hqH⟩ := hTH
  rw [HSS.out.2]
  obtain ⟨AH, cH, rfl⟩ := hRH.formW hqH
  have HQH := Lib.hid hqH
  clear hqH
  have HR := hRH.rin
  clear hRH
  have hz7 := hb.size
  replace hV := bel_step hV hb
  replace hW := bel_step hW hb
  replace SR := SR.on hb
  replace SB := SB.on hb
  replace GB := GB.on hb
  replace GM := GM.on hb
  replace OP0 := OP0.on hb
  clear hb
  clear OP0
  have hb := (Below.refl u16.heap.size u16).alloc (Nat.le_refl _) (.cells #[.string T0.n, .int .i64 T0.wd, .slice AH T0.rows.length cH] 31)
  replace hV := bel_step hV hb
  replace hW := bel_step hW hb
  replace SR := SR.on hb
  replace SB := SB.on hb
  replace GB := GB.on hb
  replace GM := GM.on hb
  replace HR := HR.on hb
  clear hb
  have HB := Blk.new u16 31 #[.string T0.n, .int .i64 T0.wd, .slice AH T0.rows.length cH]
  have hzHB : u16.heap.size < (u16.alloc (.cells #[.string T0.n, .int .i64 T0.wd, .slice AH T0.rows.length cH] 31)).heap.size := by rw [World.size_alloc]; exact Nat.lt_succ_self _
  obtain ⟨HB0, HB1, HB2⟩ := HB.c3
  obtain ⟨SB0, SB1, SB2⟩ := SB.c3
  go_wp2_with fail
  generalize u16.alloc (.cells #[.string T0.n, .int .i64 T0.wd, .slice AH T0.rows.length cH] 31) = u17 at *
  refine (eqTable_same T0.n T0.wd _ _ _ _ T0.rows u17 (HR.1.rwsW HQH.out HRb.out) (SR.1.rwsW HQS.out HRb.out) (by omega)).mono ?_
  rintro e u18 ⟨rfl, hb⟩
  clear HB0 HB1 HB2 SB0 SB1 SB2
  replace hV := bel_step hV hb
  replace hW := bel_step hW hb
  replace SR := SR.on hb
  replace SB := SB.on hb
  replace GB := GB.on hb
  replace GM := GM.on hb
  replace HR := HR.on hb
  replace HB := HB.on hb
  clear hb
  obtain ⟨GB0, GB1, GB2⟩ := GB.c3
  go_wp2_with fail
  refine (heldTable_any T0.n T0.wd _ T0.rows.length _ eG 1 u18 HGL.out (GM.rwsK HMb.out) hGn HMg.out (by omega) (by omega)).mono ?_
  rintro e u19 ⟨rfl, hb⟩
  clear GB0 GB1 GB2
  replace hV := bel_step hV hb
  replace hW := bel_step hW hb
  replace SR := SR.on hb
  replace SB := SB.on hb
  replace GB := GB.on hb
  replace GM := GM.on hb
  replace HR := HR.on hb
  replace HB := HB.on hb
  clear hb
  rw [HQ3.out]
  go_wp2
  go_ret
  exact ⟨rfl, hW⟩
end Go.Proofs.Ytjidfoeajnfmdaa
