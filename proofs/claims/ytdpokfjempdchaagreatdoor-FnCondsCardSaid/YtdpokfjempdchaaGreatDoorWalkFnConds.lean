/- The walk of laws.FnConds: it returns true, whatever the code; nothing that lay has turned. The library's variables lie as the text lays them. -/
import Derived.Test.YtdpokfjempdchaaGreatDoorDrCnv
import Derived.Test.YtdpokfjempdchaaGreatDoorCndN
import Derived.Test.YtdpokfjempdchaaGreatDoorCndH
import Derived.Test.YtdpokfjempdchaaGreatDoorCndJ
import Derived.Test.YtdpokfjempdchaaGreatDoorCndK
import Derived.Test.YtdpokfjempdchaaGreatDoorCndS
import Derived.Test.YtdpokfjempdchaaGreatDoorLike1
namespace Go.Proofs.YtdpokfjempdchaaGreatDoor
open Go.RowKit

theorem showCs_some {l : List Cnd} (h : rightB l = true) : showCs l ≠ [] := fun e => by
  have h1 := readCs_show h
  rw [e] at h1
  have h2 : (specReadCs []).2 = false := by decide
  rw [h1] at h2
  cases h2
theorem conds_each {p : List Cnd} {row : List Int} (h : condsB p row.length = true) (hr : rowOkB row = true) : (p.all fun c => holdsB [c] row) = holdsB p row := by
  have h0 := h
  unfold condsB rightB at h
  rw [Bool.and_eq_true, Bool.and_eq_true, List.all_eq_true, List.all_eq_true] at h
  unfold holdsB
  rw [h0, hr, Bool.true_and, Bool.true_and]
  rw [Bool.eq_iff_iff, List.all_eq_true, List.all_eq_true]
  have e : ∀ c ∈ p, (condsB [c] row.length && (true && [c].all (holdC row))) = holdC row c := fun c hc => by
    have h1 := h.1.1 c hc
    have h2 := h.2 c hc
    simp [condsB, rightB, h1, h2]
  constructor
  · intro hh c hc
    rw [← e c hc]
    exact hh c hc
  · intro hh c hc
    rw [e c hc]
    exact hh c hc
theorem cnds_one {w : World} {b off : Nat} {d : Cnd} (hb : b < w.heap.size) (h0 : w.cell? ⟨b, off, none⟩ = some (.int .i64 d.p)) (h1 : w.cell? ⟨b, off + 1, none⟩ = some (.int .i64 d.o)) (h2 : w.cell? ⟨b, off + 2, none⟩ = some (.int .i64 d.t)) (h3 : w.cell? ⟨b, off + 3, none⟩ = some (.bool d.i)) : Cnds w w.heap.size (some ⟨b, off, none⟩) [d] := fun _ => by
  refine ⟨b, off, rfl, hb, fun j hj => ?_⟩
  obtain rfl : j = 0 := by simpa using hj
  simpa [cx] using ⟨h0, h1, h2, h3⟩
theorem row_small {row : List Int} (h : ∀ x ∈ row, -1 ≤ x ∧ x ≤ 2) (hl : row.length ≤ 3) : rowOkB row = true := by
  unfold rowOkB
  rw [Bool.and_eq_true, decide_eq_true_eq, List.all_eq_true]
  refine ⟨fun x hx => ?_, by omega⟩
  have := h x hx
  unfold cellB inB
  simp
  omega
set_option maxRecDepth 100000 in
set_option maxHeartbeats 16000000 in
theorem walkFnConds (a0 : Option Addr) (len0 cap0 : Nat) (z0 : List Int) (w : World) (hT : LaidAll w) (w0 : IsRow .u8 w a0 len0 cap0 z0) :
    Calls Tryz.prog 3 #[.slice a0 len0 cap0] w fun e w' => e = .returned (.bool true) ∧ Below w.heap.size w w' := by
  obtain ⟨zs, rfl, hU, hm⟩ := isRow_u8 w0
  unfold maxLen at hm
  by_cases hbig : 4096 < zs.length
  · have hb : decide ((4096 : Int) < (zs.length : Int)) = true := by simp; omega
    go_enter Tryz.func3, Tryz.ntmps3
    go_wp2_with fail
    refine (big_any _ _ _ _).mono ?_
    rintro e w1 ⟨rfl, rfl⟩
    rw [hb]
    go_wp2
    go_ret
    exact ⟨rfl, Below.refl _ _⟩
  have hbg : decide ((4096 : Int) < (zs.length : Int)) = false := by simp; omega
  have hzl : zs.length ≤ 1048576 := by omega
  clear hbig hm w0
  go_enter Tryz.func3, Tryz.ntmps3
  go_wp2_with fail
  refine (big_any _ _ _ _).mono ?_
  rintro e w1 ⟨rfl, rfl⟩
  rw [hbg]
  go_wp2_with fail
  refine (drawShowConds_any a0 cap0 zs w hU hzl).mono ?_
  rintro e w1 ⟨Al, cl, l, rfl, hll, hCl, hb1⟩
  go_wp2_with fail
  refine (implShowConds_any Al cl l w1 hCl (by omega) (hT.on hb1).tab).mono ?_
  rintro e w2 ⟨rfl, hb2⟩
  obtain ⟨S, hS⟩ : ∃ S, mkB (showCs l) = S := ⟨_, rfl⟩
  have HS := Lib.hid hS
  have hSz : S.size ≤ 141 := by rw [← hS, ← bl_length, bl_mkB]; exact showCs_le l
  rw [hS]
  clear hS
  replace hCl := hCl.on hb2
  replace hb2 := bel_step hb1 hb2
  clear hb1
  go_wp2_with fail
  refine (drawReadConds_any a0 cap0 zs w2 (hU.on hb2) hzl).mono ?_
  rintro e w3 ⟨t, rfl, hts, hb3⟩
  replace hCl := hCl.on hb3
  replace hb3 := bel_step hb2 hb3
  clear hb2
  have hCA := implReadConds_any t w3 (by omega) (hT.on hb3)
  have HSR := Lib.hid (show ∀ W, Calls Tryz.prog 11 #[.string t] W (CAns (specReadCs (bl t)) W) from fun W => specReadConds_any t W (by omega))
  have hx3 := specReadCs_len (bl t)
  obtain ⟨X, ok, hXk⟩ : ∃ X ok, specReadCs (bl t) = (X, ok) := ⟨_, _, rfl⟩
  rw [hXk] at hCA HSR hx3
  have HXK := Lib.hid hXk
  simp only at hx3
  clear hXk
  go_wp2_with fail
  refine hCA.mono ?_
  rintro e w4 ⟨vx, rfl, hownx, hb4⟩
  obtain ⟨Ax, cx', gx, rfl, _, RX⟩ := crow_of_own hownx
  dsimp only at RX ⊢
  have hCX := RX.cnds
  replace hCl := hCl.on hb4
  replace hb4 := bel_step hb3 hb4
  clear hb3 hCA hownx RX
  go_wp2_with fail
  refine (drawCondsOk_any a0 cap0 zs w4 (hU.on hb4) hzl).mono ?_
  rintro e w5 ⟨Aq, cq, q, wd, rfl, hlq, hCq, hb5⟩
  replace hCl := hCl.on hb5
  replace hCX := hCX.on hb5
  replace hb5 := bel_step hb4 hb5
  clear hb4
  go_wp2_with fail
  refine (drawHolds_any a0 cap0 zs w5 (hU.on hb5) hzl).mono ?_
  rintro e w6 ⟨Ap, cp, p, Ar, cr, row, rfl, ⟨hlp, hcp⟩, hlr, hrb, hCp, hIr, hb6⟩
  replace hCl := hCl.on hb6
  replace hCX := hCX.on hb6
  replace hCq := hCq.on hb6
  replace hb6 := bel_step hb5 hb6
  have HO := Lib.hid (show ∀ W, Below w6.heap.size w6 W → (Cnds W W.heap.size Al l ∧ Cnds W W.heap.size Ax X) ∧ Cnds W W.heap.size Aq q ∧ (Cnds W W.heap.size Ap p ∧ Ints W W.heap.size Ar row) ∧ LaidAll W from fun W h => ⟨⟨hCl.on h, hCX.on h⟩, hCq.on h, ⟨hCp.on h, hIr.on h⟩, hT.on (bel_step hb6 h)⟩)
  have HROW := Lib.hid (row_small hrb hlr)
  have HW6 := Lib.hid hb6
  have hz := Below.refl w6.heap.size w6
  clear hb5 hCl hCX hCq hCp hIr hT hU hrb hb6
  have hok : (ok != ok) = false := by simp
  have hSS : (S.toList != S.toList) = false := by simp
  go_wp2_with fail
  refine (HSR.out w6).mono ?_
  rintro e w7 ⟨vy, rfl, howny, hb7⟩
  obtain ⟨Ay, cy, gy, rfl, _, RY⟩ := crow_of_own howny
  dsimp only at RY ⊢
  have hCY := RY.cnds
  replace hz := bel_step hz hb7
  clear howny RY hb7
  go_wp2_with fail
  refine (likeConds_same Ax Ay cx' cy X w7 (HO.out w7 hz).1.2 hCY (by omega)).mono ?_
  rintro e w8 ⟨rfl, hb8⟩
  replace hz := bel_step hz hb8
  clear hb8 hCY
  go_wp2_with fail
  refine (specShowConds_any Al cl l w8 (HO.out w8 hz).1.1 (by omega)).mono ?_
  rintro e w9 ⟨rfl, hb9⟩
  rw [HS.out]
  replace hz := bel_step hz hb9
  clear hb9
  go_wp2_with fail
  refine (implCondsOk_any Aq cq q wd w9 (HO.out w9 hz).2.1 (by omega)).mono ?_
  rintro e wA ⟨rfl, hbA⟩
  replace hz := bel_step hz hbA
  clear hbA
  obtain ⟨B1, hB1⟩ : ∃ B1, condsB q wd = B1 := ⟨_, rfl⟩
  have HB1 := Lib.hid hB1
  have hb1 : (B1 != B1) = false := by simp
  rw [hB1]
  clear hB1
  go_wp2_with fail
  refine (specCondsOk_any Aq cq q wd wA (HO.out wA hz).2.1 (by omega)).mono ?_
  rintro e wB ⟨rfl, hbB⟩
  rw [HB1.out]
  replace hz := bel_step hz hbB
  clear hbB
  go_wp2_with fail
  refine (implHolds_any Ap Ar cp cr p row wB (HO.out wB hz).2.2.1.1 (HO.out wB hz).2.2.1.2 (by omega) (by omega)).mono ?_
  rintro e wC ⟨rfl, hbC⟩
  replace hz := bel_step hz hbC
  clear hbC
  obtain ⟨B2, hB2⟩ : ∃ B2, holdsB p row = B2 := ⟨_, rfl⟩
  have HB2 := Lib.hid hB2
  have hb2 : (B2 != B2) = false := by simp
  rw [hB2]
  clear hB2
  go_wp2_with fail
  refine (specHolds_any Ap Ar cp cr p row wC (HO.out wC hz).2.2.1.1 (HO.out wC hz).2.2.1.2 (by omega) (by omega)).mono ?_
  rintro e wD ⟨rfl, hbD⟩
  rw [HB2.out]
  replace hz := bel_step hz hbD
  clear hbD
  cases ok with
  | false =>
    go_wp2_with fail
    refine (specCondsOk_any Ap cp p (row.length : Int) wD (HO.out wD hz).2.2.1.1 (by omega)).mono ?_
    rintro e wG ⟨rfl, hbG⟩
    replace hz := bel_step hz hbG
    clear hbG
    cases hcb : condsB p row.length with
    | false =>
      clear hcb
      cases hr : rightB l with
      | false =>
        have hse : S.toList.isEmpty = true := by rw [toList_bl, ← HS.out, bl_mkB]; unfold showCs; rw [hr]; rfl
        have hl0 : 0 < l.length := by
          cases l with
          | nil => exact absurd hr (by decide)
          | cons a r => simp
        have hWf := HW6.out.trans (hz.mono HW6.out.size)
        clear hr
        go_wp2
        go_ret
        exact ⟨rfl, hWf⟩
      | true =>
        have hne := showCs_some hr
        have hse : S.toList.isEmpty = false := by rw [toList_bl, ← HS.out, bl_mkB]; simpa using hne
        have hRS := implReadConds_any S wG (by omega) (HO.out wG hz).2.2.2
        have e1 : specReadCs (bl S) = (l, true) := by rw [← HS.out, bl_mkB]; exact readCs_show hr
        rw [e1] at hRS
        have HRS := Lib.hid hRS
        clear hr hne e1 hRS
        go_wp2_with fail
        refine HRS.out.mono ?_
        rintro e wY ⟨vz, rfl, hownz, hbY⟩
        obtain ⟨Az, cz, gz, rfl, _, RZ⟩ := crow_of_own hownz
        dsimp only at RZ ⊢
        have hzY := bel_step hz hbY
        go_wp2_with fail
        refine (likeConds_same Az Al cz cl l wY RZ.cnds (HO.out wY hzY).1.1 (by omega)).mono ?_
        rintro e wZ ⟨rfl, hbZ⟩
        have hzZ := bel_step hzY hbZ
        have hWf := HW6.out.trans (hzZ.mono HW6.out.size)
        clear hownz RZ hbY hbZ
        go_wp2
        go_ret
        exact ⟨rfl, hWf⟩
    | true =>
      have HEQ := Lib.hid (show (p.all fun c => holdsB [c] row) = B2 by rw [conds_each hcb HROW.out]; exact HB2.out)
      clear hcb
      go_wp2_with fail
      go_loopw [14, 15] (fun a i wr => ∃ k : Nat, k ≤ p.length ∧ i = .int .i64 k ∧ a = .bool ((p.take k).all fun c => holdsB [c] row) ∧ Below w6.heap.size w6 wr) (fun _ i _ => p.length - (intOf i).toNat)
      case atStart => exact ⟨0, Nat.zero_le _, rfl, rfl, hz⟩
      case round =>
        clear hz
        obtain ⟨k, hk, rfl, rfl, hz⟩ := hrel
        by_cases hlt : k < p.length
        · obtain ⟨b, off, rfl, hbl, h0, h1, h2, h3⟩ := (HO.out wr hz).2.2.1.1.here hlt
          have hO1 := cnds_one hbl h0 h1 h2 h3
          have HA0 : (p.take (k + 1)).all (fun c => holdsB [c] row) = ((p.take k).all (fun c => holdsB [c] row) && holdsB [cx p k] row) := by
            rw [List.take_succ_eq_append_getElem hlt, List.all_append, ← cx_eq p k hlt]; simp
          obtain ⟨ab, hab⟩ : ∃ ab, (p.take k).all (fun c => holdsB [c] row) = ab := ⟨_, rfl⟩
          rw [hab] at HA0 ⊢
          have HA := Lib.hid HA0
          have hw1 : IntKind.i64.wrap ((k : Int) + 1) = ((k + 1 : Nat) : Int) := by rw [IntKind.wrap_i64]; omega
          have hkc : ((k + 1 : Nat) : Int) ≤ (cp : Int) := by omega
          have hkc2 : k + 1 ≤ cp := by omega
          have HHO := Lib.hid (show ∀ c2, Calls Tryz.prog 16 #[.slice (some ⟨b, off + k * 4, none⟩) 1 c2, .slice Ar row.length cr] wr (fun e w' => e = .returned (.bool (holdsB [cx p k] row)) ∧ Below wr.heap.size wr w') from fun c2 => implHolds_any (some ⟨b, off + k * 4, none⟩) Ar c2 cr [cx p k] row wr hO1 (HO.out wr hz).2.2.1.2 (by simp) (by omega))
          generalize holdsB [cx p k] row = hb at *
          clear hab HA0 hO1 h0 h1 h2 h3 hbl
          cases ab with
          | false =>
            go_wp2
            go_roundw
            case rel => exact ⟨k + 1, by omega, by go_num, by rw [HA.out]; rfl, hz⟩
            case measure => simp [intOf]; omega
          | true =>
            go_wp2_with fail
            refine (HHO.out _).mono ?_
            rintro e w' ⟨rfl, hb'⟩
            have hz' := bel_step hz hb'
            clear hz hb'
            go_wp2
            go_roundw
            case rel => exact ⟨k + 1, by omega, by go_num, by rw [HA.out]; rfl, hz'⟩
            case measure => simp [intOf]; omega
        · have hd : decide (k < p.length) = false := by simpa using hlt
          obtain rfl : k = p.length := by omega
          rw [List.take_length, HEQ.out]
          go_wp2_with fail
          refine (implHolds_any Ap Ar cp cr p row wr (HO.out wr hz).2.2.1.1 (HO.out wr hz).2.2.1.2 (by omega) (by omega)).mono ?_
          rintro e wK ⟨rfl, hbK⟩
          rw [HB2.out]
          replace hz := bel_step hz hbK
          clear hbK
          cases hr : rightB l with
          | false =>
            have hse : S.toList.isEmpty = true := by rw [toList_bl, ← HS.out, bl_mkB]; unfold showCs; rw [hr]; rfl
            have hl0 : 0 < l.length := by
              cases l with
              | nil => exact absurd hr (by decide)
              | cons a r => simp
            have hWf := HW6.out.trans (hz.mono HW6.out.size)
            clear hr
            go_wp2
            go_ret
            exact ⟨rfl, hWf⟩
          | true =>
            have hne := showCs_some hr
            have hse : S.toList.isEmpty = false := by rw [toList_bl, ← HS.out, bl_mkB]; simpa using hne
            have hRS := implReadConds_any S wK (by omega) (HO.out wK hz).2.2.2
            have e1 : specReadCs (bl S) = (l, true) := by rw [← HS.out, bl_mkB]; exact readCs_show hr
            rw [e1] at hRS
            have HRS := Lib.hid hRS
            clear hr hne e1 hRS
            go_wp2_with fail
            refine HRS.out.mono ?_
            rintro e wY ⟨vz, rfl, hownz, hbY⟩
            obtain ⟨Az, cz, gz, rfl, _, RZ⟩ := crow_of_own hownz
            dsimp only at RZ ⊢
            have hzY := bel_step hz hbY
            go_wp2_with fail
            refine (likeConds_same Az Al cz cl l wY RZ.cnds (HO.out wY hzY).1.1 (by omega)).mono ?_
            rintro e wZ ⟨rfl, hbZ⟩
            have hzZ := bel_step hzY hbZ
            have hWf := HW6.out.trans (hzZ.mono HW6.out.size)
            clear hownz RZ hbY hbZ
            go_wp2
            go_ret
            exact ⟨rfl, hWf⟩
  | true =>
    obtain ⟨_, hsx⟩ := readCs_right HXK.out
    have hty : mkB (showCs X) = t := by rw [hsx]; rfl
    have HTY := Lib.hid hty
    have htt : (t.toList != t.toList) = false := by simp
    clear hty hsx
    go_wp2_with fail
    refine (implShowConds_any Ax cx' X wD (HO.out wD hz).1.2 (by omega) (HO.out wD hz).2.2.2.tab).mono ?_
    rintro e wE ⟨rfl, hbE⟩
    rw [HTY.out]
    replace hz := bel_step hz hbE
    clear hbE
    go_wp2_with fail
    refine (specCondsOk_any Ap cp p (row.length : Int) wE (HO.out wE hz).2.2.1.1 (by omega)).mono ?_
    rintro e wG ⟨rfl, hbG⟩
    replace hz := bel_step hz hbG
    clear hbG
    cases hcb : condsB p row.length with
    | false =>
      clear hcb
      cases hr : rightB l with
      | false =>
        have hse : S.toList.isEmpty = true := by rw [toList_bl, ← HS.out, bl_mkB]; unfold showCs; rw [hr]; rfl
        have hl0 : 0 < l.length := by
          cases l with
          | nil => exact absurd hr (by decide)
          | cons a r => simp
        have hWf := HW6.out.trans (hz.mono HW6.out.size)
        clear hr
        go_wp2
        go_ret
        exact ⟨rfl, hWf⟩
      | true =>
        have hne := showCs_some hr
        have hse : S.toList.isEmpty = false := by rw [toList_bl, ← HS.out, bl_mkB]; simpa using hne
        have hRS := implReadConds_any S wG (by omega) (HO.out wG hz).2.2.2
        have e1 : specReadCs (bl S) = (l, true) := by rw [← HS.out, bl_mkB]; exact readCs_show hr
        rw [e1] at hRS
        have HRS := Lib.hid hRS
        clear hr hne e1 hRS
        go_wp2_with fail
        refine HRS.out.mono ?_
        rintro e wY ⟨vz, rfl, hownz, hbY⟩
        obtain ⟨Az, cz, gz, rfl, _, RZ⟩ := crow_of_own hownz
        dsimp only at RZ ⊢
        have hzY := bel_step hz hbY
        go_wp2_with fail
        refine (likeConds_same Az Al cz cl l wY RZ.cnds (HO.out wY hzY).1.1 (by omega)).mono ?_
        rintro e wZ ⟨rfl, hbZ⟩
        have hzZ := bel_step hzY hbZ
        have hWf := HW6.out.trans (hzZ.mono HW6.out.size)
        clear hownz RZ hbY hbZ
        go_wp2
        go_ret
        exact ⟨rfl, hWf⟩
    | true =>
      have HEQ := Lib.hid (show (p.all fun c => holdsB [c] row) = B2 by rw [conds_each hcb HROW.out]; exact HB2.out)
      clear hcb
      go_wp2_with fail
      go_loopw [14, 15] (fun a i wr => ∃ k : Nat, k ≤ p.length ∧ i = .int .i64 k ∧ a = .bool ((p.take k).all fun c => holdsB [c] row) ∧ Below w6.heap.size w6 wr) (fun _ i _ => p.length - (intOf i).toNat)
      case atStart => exact ⟨0, Nat.zero_le _, rfl, rfl, hz⟩
      case round =>
        clear hz
        obtain ⟨k, hk, rfl, rfl, hz⟩ := hrel
        by_cases hlt : k < p.length
        · obtain ⟨b, off, rfl, hbl, h0, h1, h2, h3⟩ := (HO.out wr hz).2.2.1.1.here hlt
          have hO1 := cnds_one hbl h0 h1 h2 h3
          have HA0 : (p.take (k + 1)).all (fun c => holdsB [c] row) = ((p.take k).all (fun c => holdsB [c] row) && holdsB [cx p k] row) := by
            rw [List.take_succ_eq_append_getElem hlt, List.all_append, ← cx_eq p k hlt]; simp
          obtain ⟨ab, hab⟩ : ∃ ab, (p.take k).all (fun c => holdsB [c] row) = ab := ⟨_, rfl⟩
          rw [hab] at HA0 ⊢
          have HA := Lib.hid HA0
          have hw1 : IntKind.i64.wrap ((k : Int) + 1) = ((k + 1 : Nat) : Int) := by rw [IntKind.wrap_i64]; omega
          have hkc : ((k + 1 : Nat) : Int) ≤ (cp : Int) := by omega
          have hkc2 : k + 1 ≤ cp := by omega
          have HHO := Lib.hid (show ∀ c2, Calls Tryz.prog 16 #[.slice (some ⟨b, off + k * 4, none⟩) 1 c2, .slice Ar row.length cr] wr (fun e w' => e = .returned (.bool (holdsB [cx p k] row)) ∧ Below wr.heap.size wr w') from fun c2 => implHolds_any (some ⟨b, off + k * 4, none⟩) Ar c2 cr [cx p k] row wr hO1 (HO.out wr hz).2.2.1.2 (by simp) (by omega))
          generalize holdsB [cx p k] row = hb at *
          clear hab HA0 hO1 h0 h1 h2 h3 hbl
          cases ab with
          | false =>
            go_wp2
            go_roundw
            case rel => exact ⟨k + 1, by omega, by go_num, by rw [HA.out]; rfl, hz⟩
            case measure => simp [intOf]; omega
          | true =>
            go_wp2_with fail
            refine (HHO.out _).mono ?_
            rintro e w' ⟨rfl, hb'⟩
            have hz' := bel_step hz hb'
            clear hz hb'
            go_wp2
            go_roundw
            case rel => exact ⟨k + 1, by omega, by go_num, by rw [HA.out]; rfl, hz'⟩
            case measure => simp [intOf]; omega
        · have hd : decide (k < p.length) = false := by simpa using hlt
          obtain rfl : k = p.length := by omega
          rw [List.take_length, HEQ.out]
          go_wp2_with fail
          refine (implHolds_any Ap Ar cp cr p row wr (HO.out wr hz).2.2.1.1 (HO.out wr hz).2.2.1.2 (by omega) (by omega)).mono ?_
          rintro e wK ⟨rfl, hbK⟩
          rw [HB2.out]
          replace hz := bel_step hz hbK
          clear hbK
          cases hr : rightB l with
          | false =>
            have hse : S.toList.isEmpty = true := by rw [toList_bl, ← HS.out, bl_mkB]; unfold showCs; rw [hr]; rfl
            have hl0 : 0 < l.length := by
              cases l with
              | nil => exact absurd hr (by decide)
              | cons a r => simp
            have hWf := HW6.out.trans (hz.mono HW6.out.size)
            clear hr
            go_wp2
            go_ret
            exact ⟨rfl, hWf⟩
          | true =>
            have hne := showCs_some hr
            have hse : S.toList.isEmpty = false := by rw [toList_bl, ← HS.out, bl_mkB]; simpa using hne
            have hRS := implReadConds_any S wK (by omega) (HO.out wK hz).2.2.2
            have e1 : specReadCs (bl S) = (l, true) := by rw [← HS.out, bl_mkB]; exact readCs_show hr
            rw [e1] at hRS
            have HRS := Lib.hid hRS
            clear hr hne e1 hRS
            go_wp2_with fail
            refine HRS.out.mono ?_
            rintro e wY ⟨vz, rfl, hownz, hbY⟩
            obtain ⟨Az, cz, gz, rfl, _, RZ⟩ := crow_of_own hownz
            dsimp only at RZ ⊢
            have hzY := bel_step hz hbY
            go_wp2_with fail
            refine (likeConds_same Az Al cz cl l wY RZ.cnds (HO.out wY hzY).1.1 (by omega)).mono ?_
            rintro e wZ ⟨rfl, hbZ⟩
            have hzZ := bel_step hzY hbZ
            have hWf := HW6.out.trans (hzZ.mono HW6.out.size)
            clear hownz RZ hbY hbZ
            go_wp2
            go_ret
            exact ⟨rfl, hWf⟩
end Go.Proofs.YtdpokfjempdchaaGreatDoor
