/- The walk of laws.FnGroups: it returns true, whatever the code; nothing that lay has turned. -/
import Derived.Test.YtcfnbpofbcendabDrGrp
import Derived.Test.YtcfnbpofbcendabGrpFn
import Derived.Test.YtcfnbpofbcendabPlaces
import Derived.Test.YtcfnbpofbcendabLike1
import Derived.Test.YtcfnbpofbcendabMark3
namespace Go.Proofs.Ytcfnbpofbcendab
open Go.RowKit

/-- A bag whose rows have their room told. -/
def BagC (w : World) (B : Nat) (A : Option Addr) (bag : List (List Int × Int)) : Prop :=
  0 < bag.length → ∃ b off, A = some ⟨b, off, none⟩ ∧ b < B ∧ ∀ j, j < bag.length → ∃ Ar cap, w.cell? ⟨b, off + j * 2, none⟩ = some (.slice Ar (rx bag j).length cap) ∧ w.cell? ⟨b, off + j * 2 + 1, none⟩ = some (.int .i64 (nx bag j)) ∧ Ints w B Ar (rx bag j) ∧ (rx bag j).length ≤ 1099511627776 ∧ (rx bag j).length ≤ cap
theorem BagC.bag {w : World} {B : Nat} {A : Option Addr} {bag : List (List Int × Int)} (h : BagC w B A bag) : Bag w B A bag := fun hn => by
  obtain ⟨b, off, e, hb, hc⟩ := h hn
  refine ⟨b, off, e, hb, fun j hj => ?_⟩
  obtain ⟨Ar, cap, h1, h2, h3, h4, _⟩ := hc j hj
  exact ⟨Ar, cap, h1, h2, h3, h4⟩
theorem BagC.on {w w' : World} {A : Option Addr} {bag : List (List Int × Int)} (h : BagC w w.heap.size A bag) (hb : Below w.heap.size w w') : BagC w' w'.heap.size A bag := fun hn => by
  obtain ⟨b, off, e, hb', hc⟩ := h hn
  refine ⟨b, off, e, by have := hb.size; omega, fun j hj => ?_⟩
  obtain ⟨Ar, cap, h1, h2, h3, h4, h5⟩ := hc j hj
  exact ⟨Ar, cap, (hb.cell hb').trans h1, (hb.cell hb').trans h2, h3.on hb, h4, h5⟩
theorem obBagC {w : World} {lo g cap : Nat} {es : List Ent} {W : List (List Int × Int)} (h : OB w lo g cap es) (he : es.map Ent.pair = W) (hl : ∀ j, j < W.length → (rx W j).length ≤ 1099511627776) (hc : ∀ e ∈ es, e.r.length ≤ e.c) : BagC w w.heap.size (some ⟨g, 0, none⟩) W := fun _ => by
  subst he
  refine ⟨g, 0, rfl, (h.1.lt g rfl).2, fun j hj => ?_⟩
  have hj' : j < es.length := by simpa using hj
  obtain ⟨k0, k1, _⟩ := OBag.cellsAt h hj'
  have hm := List.getElem_mem hj'
  rw [Nat.zero_add]
  exact ⟨es[j].A, es[j].c, by rw [rx_map hj']; exact k0, by rw [nx_map hj']; exact k1, by rw [rx_map hj']; exact (h.2.1 _ hm).1.ints, hl j hj, by rw [rx_map hj']; exact hc _ hm⟩
theorem Ints.pre {w : World} {B : Nat} {A : Option Addr} {zs : List Int} (h : Ints w B A zs) (n : Nat) : Ints w B A (zs.take n) := fun hn => by
  rw [List.length_take] at hn
  obtain ⟨b, off, e, hb, hc⟩ := h (by omega)
  refine ⟨b, off, e, hb, fun j hj => ?_⟩
  rw [List.length_take] at hj
  rw [show ix (zs.take n) j = ix zs j by simp [ix, show j < n by omega]]
  exact hc j (by omega)
theorem likePre_no (A A' : Option Addr) (c c' n : Nat) (zs ys : List Int) (w : World) (B B' : Nat) (hI : Ints w B A zs) (hI' : Ints w B' A' ys) (hl : n ≤ 1099511627776) (h1 : n ≤ zs.length) (h2 : n ≤ ys.length) (h : ¬ zs.take n = ys.take n) :
    Calls Try.prog 11 #[.slice A n c, .slice A' n c'] w fun e w' => e = .returned (.bool false) ∧ ∃ n, w' = w.drewN n := by
  have e1 : (zs.take n).length = n := by rw [List.length_take]; omega
  have e2 : (ys.take n).length = n := by rw [List.length_take]; omega
  have := likeRow_no A A' c c' (zs.take n) (ys.take n) w B B' (hI.pre n) (hI'.pre n) (by omega) (by omega) h
  rwa [e1, e2] at this
theorem has_part {b : List (List Int × Int)} {ps : List Int} {j : Nat} (hj : j < ps.length) (h : hasB b [ix ps j] = false) : hasB b ps = false := by
  obtain ⟨x, hx, e⟩ := List.all_eq_false.1 h
  refine List.all_eq_false.2 ⟨x, hx, fun h2 => e ?_⟩
  unfold placesB at h2 ⊢
  have := List.all_eq_true.1 h2 _ (List.getElem_mem hj)
  rw [← ix_eq ps j hj] at this
  simpa using this
theorem has_all {b : List (List Int × Int)} {ps : List Int} (h : ∀ j, j < ps.length → hasB b [ix ps j] = true) : hasB b ps = true := by
  refine List.all_eq_true.2 fun x hx => ?_
  unfold placesB
  refine List.all_eq_true.2 fun p hp => ?_
  obtain ⟨j, hj, rfl⟩ := List.getElem_of_mem hp
  have h1 := List.all_eq_true.1 (h j hj) x hx
  unfold placesB at h1
  rw [ix_eq ps j hj] at h1
  simpa using h1

set_option maxRecDepth 100000 in
set_option maxHeartbeats 16000000 in
theorem walkFnGroups (a0 : Option Addr) (len0 cap0 : Nat) (z0 : List Int) (w : World) (w0 : IsRow .u8 w a0 len0 cap0 z0) :
    Calls Try.prog 3 #[.slice a0 len0 cap0] w fun e w' => e = .returned (.bool true) ∧ Below w.heap.size w w' := by
  obtain ⟨zs, rfl, hU, hm⟩ := isRow_u8 w0
  clear w0
  by_cases hbig : (4096 : Int) < (zs.length : Int)
  · have hd := decide_eq_true hbig
    have HD := Lib.hid hd
    clear hd hbig
    go_enter Try.func3, Try.ntmps3
    go_wp2_with fail
    refine (big_any a0 zs.length cap0 w).mono ?_
    rintro e w1 ⟨rfl, rfl⟩
    rw [HD.out]
    go_wp2
    go_ret
    exact ⟨rfl, Below.refl _ _⟩
  have hd := decide_eq_false hbig
  have HD := Lib.hid hd
  have hzl : zs.length ≤ 1048576 := by omega
  clear hd hbig hm
  go_enter Try.func3, Try.ntmps3
  go_wp2_with fail
  refine (big_any a0 zs.length cap0 w).mono ?_
  rintro e w1 ⟨rfl, rfl⟩
  rw [HD.out]
  clear HD
  go_wp2_with fail
  refine (drawGrouped_any a0 cap0 zs w hU hzl).mono ?_
  rintro e w1 ⟨g, cap, b, A, cap', ps, p, rfl, hB1, hlb, hrb, hI1, hlp, hp0, hp2, hb1⟩
  have HRB := Lib.hid (show ∀ j, j < b.length → (rx b j).length ≤ 1000 from fun j hj => by have := hrb b[j] (List.getElem_mem hj); rw [bag_ix hj] at this; simpa using this)
  have HRB2 := Lib.hid (show ∀ j, j < b.length → (rx b j).length ≤ 1073741824 from fun j hj => by have := HRB.out j hj; omega)
  clear hrb
  obtain ⟨hWl0, hWr0⟩ := grpB_fit (b := b) (p := p) (m := 2097152) (show ps.length + 2 ≤ 2097152 by omega)
  obtain ⟨X, hX⟩ : ∃ X, grpB b ps p = X := ⟨_, rfl⟩
  rw [hX] at hWl0 hWr0
  have HX := Lib.hid hX
  have HXr := Lib.hid (show ∀ j, j < X.length → (rx X j).length ≤ 1099511627776 from fun j hj => by have := hWr0 j hj; omega)
  have hXl : X.length ≤ 300 := hWl0
  clear hX hWr0 hWl0
  go_wp2_with fail
  refine (implGrouped_caps _ _ _ _ b ps p w1 hB1 hI1 (by omega) HRB2.out (by omega)).mono ?_
  rintro e w2 ⟨gx, capx, esx, rfl, hOx, hex, hb2, hcx⟩
  rw [HX.out] at hex
  have hXC2 := obBagC hOx hex HXr.out hcx
  have hexl : esx.length = X.length := by rw [← hex, List.length_map]
  rw [hexl]
  have hB2 := hB1.on hb2
  have hI2 := hI1.on hb2
  have hb02 := bel_step hb1 hb2
  clear hcx hex hexl hOx hB1 hI1 hb1 hb2
  go_wp2_with fail
  refine ((specGrouped_any _ _ _ _ b ps p w2 hB2 hI2 (by omega) HRB2.out (by omega)).mono fun _ _ h => OwnBag.b h).mono ?_
  rintro e w3 ⟨vd, esd, rfl, hOd, hed, hb3⟩
  rw [HX.out] at hed
  obtain ⟨Ay, capy, rfl⟩ := hOd.formW hed
  have hY3 := OBag.bagW hOd hed HXr.out
  have hX3 := hXC2.on hb3
  have hB3 := hB2.on hb3
  have hI3 := hI2.on hb3
  have hb03 := bel_step hb02 hb3
  clear hed hOd hB2 hI2 hXC2 hb02 hb3
  go_wp2_with fail
  refine (likeBag_any _ _ _ _ X X w3 hX3.bag hY3 (by omega) (by omega)).mono ?_
  rintro e w4 ⟨rfl, n4, rfl⟩
  rw [decide_eq_true (rfl : X = X)]
  have hX4 : BagC (w3.drewN n4) (w3.drewN n4).heap.size (some ⟨gx, 0, none⟩) X := hX3
  have hB4 : Bag (w3.drewN n4) (w3.drewN n4).heap.size (some ⟨g, 0, none⟩) b := hB3
  have hI4 : Ints (w3.drewN n4) (w3.drewN n4).heap.size A ps := hI3
  have hb04 := bel_drewN hb03 n4
  clear hX3 hB3 hI3 hY3 hb03
  generalize w3.drewN n4 = w4 at *
  go_wp2_with fail
  refine (specBagOk_any _ _ b w4 _ hB4 (by omega)).mono ?_
  rintro e w5 ⟨rfl, n5, rfl⟩
  have hX5 : BagC (w4.drewN n5) (w4.drewN n5).heap.size (some ⟨gx, 0, none⟩) X := hX4
  have hB5 : Bag (w4.drewN n5) (w4.drewN n5).heap.size (some ⟨g, 0, none⟩) b := hB4
  have hI5 : Ints (w4.drewN n5) (w4.drewN n5).heap.size A ps := hI4
  have hb05 := bel_drewN hb04 n5
  clear hX4 hB4 hI4 hb04
  generalize w4.drewN n5 = w5 at *
  cases h1 : bagOkB b with
  | false =>
    have hXe : X.length = 0 := by rw [← HX.out, grpB_no (by unfold grpOk; rw [h1]; rfl)]; rfl
    clear h1
    go_wp2
    go_ret
    exact ⟨rfl, hb05⟩
  | true =>
  have H1 := Lib.hid h1
  clear h1
  go_wp2
  go_loop [7] (fun i => ∃ k : Nat, k ≤ ps.length ∧ i = .int .i64 k ∧ ∀ j, j < k → hasB b [ix ps j] = true) (fun i => ps.length - (intOf i).toNat)
  case atStart => exact ⟨0, Nat.zero_le _, rfl, fun j hj => absurd hj (by omega)⟩
  case round =>
    obtain ⟨k, hk, rfl, hj⟩ := hrel
    have HJ := Lib.hid hj
    clear hj
    by_cases hlt : k < ps.length
    · obtain ⟨ba, oa, rfl, _, hci⟩ := hI5 (by omega)
      have hck := hci k hlt
      have hk0 : (0 : Int) ≤ (k : Int) := Int.natCast_nonneg _
      have hk1 : (k : Int) < (ps.length : Int) := by omega
      clear hci
      go_wp2_with fail
      refine (placesG_any _ _ b (ix ps k) w5 _ hB5 (by omega)).mono ?_
      rintro e w6 ⟨rfl, rfl⟩
      cases h3 : hasB b [ix ps k] with
      | false =>
        have hXe : X.length = 0 := by rw [← HX.out, grpB_no (by unfold grpOk; rw [has_part hlt h3]; simp)]; rfl
        clear h3
        go_wp2
        go_ret
        exact ⟨rfl, hb05⟩
      | true =>
        have H3 := Lib.hid h3
        clear h3
        go_wp2
        go_round
        case rel => exact ⟨k + 1, by omega, by go_num, fun j hj => by
          by_cases e : j = k
          · rw [e]; exact H3.out
          · exact HJ.out j (by omega)⟩
        case measure => simp [intOf]; omega
    · have hd : decide (k < ps.length) = false := by simpa using hlt
      have H2 := Lib.hid (show hasB b ps = true from has_all fun j hj => HJ.out j (by omega))
      clear HJ
      go_upto_region 14 with fail
      go_cut [61] (fun s wx => wx = w5 ∧ ((s = .bool true ∧ X.length = 0) ∨ (s = .bool false ∧ grpOk b ps p = true)))
      case first =>
        by_cases hp1 : p = -1
        · have hpb : (p != -1) = false := by simpa using hp1
          have HG := Lib.hid (show grpOk b ps p = true by unfold grpOk; rw [H1.out, H2.out, hp1]; rfl)
          clear hp1
          go_wp2_with fail
          go_meet
          exact ⟨rfl, .inr ⟨rfl, HG.out⟩⟩
        · have hpb : (p != -1) = true := by simpa using hp1
          have hpc : (p == -1) = false := by simpa using hp1
          have HG := Lib.hid (show grpOk b ps p = hasB b [p] by unfold grpOk; rw [H1.out, H2.out, hpc]; simp)
          clear hp1 hpc
          go_wp2_with fail
          refine (placesG_any _ _ b p w5 _ hB5 (by omega)).mono ?_
          rintro e w6 ⟨rfl, rfl⟩
          cases h3 : hasB b [p] with
          | false =>
            have HXe := Lib.hid (show X.length = 0 by rw [← HX.out, grpB_no (HG.out.trans h3)]; rfl)
            clear h3
            go_wp2_with fail
            go_meet
            exact ⟨rfl, .inl ⟨rfl, HXe.out⟩⟩
          | true =>
            have HXe := Lib.hid (HG.out.trans h3)
            clear h3
            go_wp2_with fail
            go_meet
            exact ⟨rfl, .inr ⟨rfl, HXe.out⟩⟩
      case rest =>
        obtain ⟨rfl, ⟨rfl, hXe⟩ | ⟨rfl, hok⟩⟩ := hcut
        · go_wp2
          go_ret
          exact ⟨rfl, hb05⟩
        have HOK := Lib.hid hok
        have hGW := grp_walk hok
        have hROW := fun k hk => grp_row (b := b) (ps := ps) (p := p) hok (k := k) hk
        have hAP := fun k hk => grp_apart (b := b) (ps := ps) (p := p) hok (k := k) hk
        rw [HX.out] at hGW hROW hAP
        obtain ⟨F1, F2, G1, G2, f1, f2, f3, f4, f5, f6, f7, f8⟩ := hGW
        have HROW := Lib.hid hROW
        have HAP := Lib.hid hAP
        have HF3 := Lib.hid f3
        have HF4 := Lib.hid f4
        have HF1 := Lib.hid f1
        have HF2 := Lib.hid f2
        have HF5 := Lib.hid f5
        have HF6 := Lib.hid f6
        have HF7 := Lib.hid f7
        have HF8 := Lib.hid f8
        have HPLACE := Lib.hid (ok_parts hok).2.2
        clear hok hROW hAP f1 f2 f3 f4 f5 f6 f7 f8 H1 H2 hlt hk
        go_wp2
        go_loopw [9, 10, 11] (fun c s i wr => ∃ k : Nat, k ≤ X.length ∧ i = .int .i64 k ∧ c = .int .i64 (F1 k) ∧ s = .int .i64 (F2 k) ∧ ∃ n, wr = wc.drewN n) (fun _ _ i _ => X.length - (intOf i).toNat)
        case atStart => exact ⟨0, Nat.zero_le _, rfl, by rw [HF1.out], by rw [HF2.out], 0, rfl⟩
        case round =>
          obtain ⟨k, hk, rfl, rfl, rfl, hW⟩ := hrel
          have hXr : BagC wr wr.heap.size (some ⟨gx, 0, none⟩) X := by obtain ⟨n, rfl⟩ := hW; exact hX5
          have hBr : Bag wr wr.heap.size (some ⟨g, 0, none⟩) b := by obtain ⟨n, rfl⟩ := hW; exact hB5
          have HW := Lib.hid hW
          clear hW
          by_cases hlt : k < X.length
          · obtain ⟨bx, ox, hbx, _, hc⟩ := hXr (by omega)
            obtain ⟨rfl, rfl⟩ : gx = bx ∧ 0 = ox := by simpa using hbx
            obtain ⟨Ak, ck, h1, h2, h3, h4, h5⟩ := hc k hlt
            obtain ⟨r1, r2, r3, _⟩ := HROW.out k hlt
            rw [r1] at h2
            rw [Nat.zero_add] at h1 h2
            have hk0 : (0 : Int) ≤ (k : Int) := Int.natCast_nonneg _
            have hk1 : (k : Int) < (X.length : Int) := by omega
            obtain ⟨s1, s2⟩ := HF5.out k hlt
            have HS2 := Lib.hid s2
            obtain ⟨br, or', rfl, hbr, hcr⟩ := h3 (by omega)
            have hc0 := hcr ps.length (by omega)
            have HCR := Lib.hid hcr
            have HC := Lib.hid hc
            have HR2 := Lib.hid r2
            have hln : (ps.length : Int) < ((rx X k).length : Int) := by omega
            have hcn : (ps.length : Int) ≤ (ck : Int) := by omega
            obtain ⟨q, hq⟩ : ∃ q, F1 k = q := ⟨_, rfl⟩
            obtain ⟨q', hq'⟩ : ∃ q', F1 (k + 1) = q' := ⟨_, rfl⟩
            obtain ⟨y, hy⟩ : ∃ y, ix (rx X k) ps.length = y := ⟨_, rfl⟩
            rw [hq, hq', hy] at s1
            rw [hy] at hc0 r3
            rw [hq]
            have HQ' := Lib.hid hq'
            have s1b : wrap64 (q + y) = q' := by rw [← s1, IntKind.wrap_i64, wrap64]
            have hy1 : ¬ y < 1 := by omega
            clear hq hq' hy hbx hcr hc r1 r2 r3 s2 h5 hBr
            have h3 : Ints wr wr.heap.size (some ⟨br, or', none⟩) (rx X k) := fun _ => ⟨br, or', rfl, hbr, HCR.out⟩
            by_cases hkp : 0 < k
            · obtain ⟨k0, hk0e⟩ : ∃ k0 : Nat, k = k0 + 1 := ⟨k - 1, by omega⟩
              obtain ⟨Ap, cp, p1, _, p3, _, p5⟩ := HC.out k0 (by omega)
              rw [Nat.zero_add] at p1
              have hrp := (HROW.out k0 (by omega)).2.1
              have hwr : IntKind.i64.wrap ((k : Int) - 1) = (k0 : Int) := by rw [IntKind.wrap_i64]; omega
              have hk0l : (k0 : Int) < (X.length : Int) := by omega
              have hcp : (ps.length : Int) ≤ (cp : Int) := by omega
              have hrp2 : ps.length ≤ (rx X k0).length := by omega
              have hrp3 : ps.length ≤ (rx X k).length := by omega
              obtain ⟨bp, op, rfl, hbp, hcrp⟩ := p3 (by omega)
              have p3 : Ints wr wr.heap.size (some ⟨bp, op, none⟩) (rx X k0) := fun _ => ⟨bp, op, rfl, hbp, hcrp⟩
              have HAPk := Lib.hid (show ¬ (rx X k).take ps.length = (rx X k0).take ps.length from by rw [hk0e]; exact HAP.out k0 (by omega))
              clear hrp hcrp p5 hk0e
              go_upto_region 22 with fail
              go_quiet (first | (go_at_call 11; exact Calls.quiet_of (likePre_no _ _ _ _ ps.length (rx X k) (rx X k0) _ wr.heap.size wr.heap.size (h3.drewN _) (p3.drewN _) (by omega) hrp3 hrp2 HAPk.out)))
              by_cases hp1 : p = -1
              · have HE := Lib.hid ((HF6.out hp1 (k + 1)).1)
                have hs0 := (HF6.out hp1 k).1
                rw [hs0]
                have hpn : ¬ (0 : Int) ≤ p := by omega
                clear hs0 hp1
                go_wp2_with fail
                go_roundw
                case rel => exact ⟨k + 1, by omega, by go_num, by rw [HQ'.out], by rw [HE.out], (by first | exact HW.out | exact drew_more HW.out _ | exact drew_more (drew_more HW.out _) _ | exact drew_more (drew_more (drew_more HW.out _) _) _)⟩
                case measure => simp [intOf]; omega
              · have s2 := HS2.out hp1
                have hr2 := HR2.out
                rw [if_neg hp1] at hr2
                have hc1 := HCR.out (ps.length + 1) (by omega)
                have hln1 : ((ps.length + 1 : Nat) : Int) < ((rx X k).length : Int) := by omega
                have hln2 : (ps.length : Int) + 1 < ((rx X k).length : Int) := by omega
                obtain ⟨u, hu⟩ : ∃ u, F2 k = u := ⟨_, rfl⟩
                obtain ⟨u', hu'⟩ : ∃ u', F2 (k + 1) = u' := ⟨_, rfl⟩
                obtain ⟨x, hx⟩ : ∃ x, ix (rx X k) (ps.length + 1) = x := ⟨_, rfl⟩
                rw [hu, hu', hx] at s2
                rw [hx] at hc1
                rw [hu]
                have HU' := Lib.hid hu'
                have s2b : wrap64 (u + x) = u' := by rw [← s2, IntKind.wrap_i64, wrap64]
                have hpn : (0 : Int) ≤ p := by omega
                clear hu hu' hx hr2 hp1
                go_wp2_with fail
                go_roundw
                case rel => exact ⟨k + 1, by omega, by go_num, by rw [HQ'.out], by rw [HU'.out], (by first | exact HW.out | exact drew_more HW.out _ | exact drew_more (drew_more HW.out _) _ | exact drew_more (drew_more (drew_more HW.out _) _) _)⟩
                case measure => simp [intOf]; omega
            · have hd0 : decide (0 < k) = false := by simpa using hkp
              clear hkp
              go_upto_region 22 with fail
              go_quiet (fail)
              by_cases hp1 : p = -1
              · have HE := Lib.hid ((HF6.out hp1 (k + 1)).1)
                have hs0 := (HF6.out hp1 k).1
                rw [hs0]
                have hpn : ¬ (0 : Int) ≤ p := by omega
                clear hs0 hp1
                go_wp2_with fail
                go_roundw
                case rel => exact ⟨k + 1, by omega, by go_num, by rw [HQ'.out], by rw [HE.out], (by first | exact HW.out | exact drew_more HW.out _ | exact drew_more (drew_more HW.out _) _ | exact drew_more (drew_more (drew_more HW.out _) _) _)⟩
                case measure => simp [intOf]; omega
              · have s2 := HS2.out hp1
                have hr2 := HR2.out
                rw [if_neg hp1] at hr2
                have hc1 := HCR.out (ps.length + 1) (by omega)
                have hln1 : ((ps.length + 1 : Nat) : Int) < ((rx X k).length : Int) := by omega
                have hln2 : (ps.length : Int) + 1 < ((rx X k).length : Int) := by omega
                obtain ⟨u, hu⟩ : ∃ u, F2 k = u := ⟨_, rfl⟩
                obtain ⟨u', hu'⟩ : ∃ u', F2 (k + 1) = u' := ⟨_, rfl⟩
                obtain ⟨x, hx⟩ : ∃ x, ix (rx X k) (ps.length + 1) = x := ⟨_, rfl⟩
                rw [hu, hu', hx] at s2
                rw [hx] at hc1
                rw [hu]
                have HU' := Lib.hid hu'
                have s2b : wrap64 (u + x) = u' := by rw [← s2, IntKind.wrap_i64, wrap64]
                have hpn : (0 : Int) ≤ p := by omega
                clear hu hu' hx hr2 hp1
                go_wp2_with fail
                go_roundw
                case rel => exact ⟨k + 1, by omega, by go_num, by rw [HQ'.out], by rw [HU'.out], (by first | exact HW.out | exact drew_more HW.out _ | exact drew_more (drew_more HW.out _) _ | exact drew_more (drew_more (drew_more HW.out _) _) _)⟩
                case measure => simp [intOf]; omega
          · have hdk : decide (k < X.length) = false := by simpa using hlt
            have hkX : k = X.length := by omega
            have hb0r : Below w.heap.size w wr := by obtain ⟨n, rfl⟩ := HW.out; exact bel_drewN hb05 n
            have e1 : F1 k = G1 0 := by rw [hkX]; exact HF3.out
            have e2 : F2 k = G2 0 := by rw [hkX]; exact HF4.out
            rw [e1, e2]
            clear e1 e2 hkX hXr hX5 hB5 hI5 hb05 HW HF3 HF4 HF1 HF2 HF5 HROW HAP
            obtain ⟨wp, rfl⟩ : ∃ wp : World, wp = wr := ⟨_, rfl⟩
            go_wp2
            go_loopw [9, 10, 12] (fun c s i wr => ∃ j : Nat, j ≤ b.length ∧ i = .int .i64 j ∧ c = .int .i64 (G1 j) ∧ s = .int .i64 (G2 j) ∧ (∀ q, q < j → 0 ≤ nx b q) ∧ ∃ n, wr = wp.drewN n) (fun _ _ i _ => b.length - (intOf i).toNat)
            case atStart => exact ⟨0, Nat.zero_le _, rfl, rfl, rfl, (fun q hq => absurd hq (by omega)), 0, rfl⟩
            case round =>
              obtain ⟨j, hj, rfl, rfl, rfl, hn, hW⟩ := hrel
              have hBs : Bag wr wr.heap.size (some ⟨g, 0, none⟩) b := by obtain ⟨n, rfl⟩ := hW; exact hBr
              have hb0s : Below w.heap.size w wr := by obtain ⟨n, rfl⟩ := hW; exact bel_drewN hb0r n
              have HW := Lib.hid hW
              clear hW hBr hb0r
              have HN := Lib.hid hn
              clear hn
              by_cases hlt2 : j < b.length
              · obtain ⟨bb, ob, hbb, _, hc⟩ := hBs (by omega)
                obtain ⟨rfl, rfl⟩ : g = bb ∧ 0 = ob := by simpa using hbb
                obtain ⟨Ak, ck, h1, h2, h3, h4⟩ := hc j hlt2
                rw [Nat.zero_add] at h1 h2
                have hj0 : (0 : Int) ≤ (j : Int) := Int.natCast_nonneg _
                have hj1 : (j : Int) < (b.length : Int) := by omega
                obtain ⟨s1, s2⟩ := HF7.out j hlt2
                have HS2 := Lib.hid s2
                obtain ⟨y, hy⟩ : ∃ y, nx b j = y := ⟨_, rfl⟩
                rw [hy] at h2 s1
                have HY := Lib.hid hy
                clear hc hbb s2 hy hlt hdk hk
                by_cases hneg : y < 0
                · clear s1
                  go_wp2
                  go_ret
                  exact ⟨rfl, by first | exact hb0s | exact bel_drewN hb0s _⟩
                obtain ⟨q, hq⟩ : ∃ q, G1 j = q := ⟨_, rfl⟩
                obtain ⟨q', hq'⟩ : ∃ q', G1 (j + 1) = q' := ⟨_, rfl⟩
                rw [hq, hq'] at s1
                rw [hq]
                have HQ' := Lib.hid hq'
                have s1b : wrap64 (q - y) = q' := by rw [← s1, IntKind.wrap_i64, wrap64]
                have HN2 := Lib.hid (show ∀ t, t < j + 1 → 0 ≤ nx b t from fun t ht => by
                  by_cases e : t = j
                  · rw [e, HY.out]; omega
                  · exact HN.out t (by omega))
                clear hq hq'
                by_cases hp1 : p = -1
                · have HE := Lib.hid ((HF6.out hp1 (j + 1)).2)
                  have hs0 := (HF6.out hp1 j).2
                  rw [hs0]
                  have hpn : ¬ (0 : Int) ≤ p := by omega
                  clear hs0 hp1
                  go_wp2_with fail
                  try (go_quiet (fail); go_wp2_with fail)
                  try (go_quiet (fail); go_wp2_with fail)
                  go_roundw
                  case rel => exact ⟨j + 1, by omega, by go_num, by rw [HQ'.out], by rw [HE.out], HN2.out, (by first | exact HW.out | exact drew_more HW.out _ | exact drew_more (drew_more HW.out _) _ | exact drew_more (drew_more (drew_more HW.out _) _) _)⟩
                  case measure => simp [intOf]; omega
                · obtain ⟨m, m1, m2⟩ := HS2.out hp1
                  obtain ⟨pl0, pl1⟩ := HPLACE.out hp1 j hlt2
                  obtain ⟨pn, hpn⟩ : ∃ pn : Nat, p = pn := ⟨p.toNat, by omega⟩
                  rw [hpn] at m1 pl1 ⊢
                  rw [Int.toNat_natCast, HY.out] at m1
                  obtain ⟨br, or', rfl, hbr, hcr⟩ := h3 (by omega)
                  have hcp := hcr pn (by omega)
                  obtain ⟨x, hx⟩ : ∃ x, ix (rx b j) pn = x := ⟨_, rfl⟩
                  rw [hx] at hcp m1
                  obtain ⟨u, hu⟩ : ∃ u, G2 j = u := ⟨_, rfl⟩
                  obtain ⟨u', hu'⟩ : ∃ u', G2 (j + 1) = u' := ⟨_, rfl⟩
                  rw [hu, hu'] at m2
                  rw [hu]
                  have HU' := Lib.hid hu'
                  have m1b : wrap64 (y * x) = m := by rw [← m1, IntKind.wrap_i64, wrap64]
                  have m2b : wrap64 (u - m) = u' := by rw [← m2, IntKind.wrap_i64, wrap64]
                  have hpn0 : (0 : Int) ≤ (pn : Int) := Int.natCast_nonneg _
                  clear hu hu' hx hcr hp1 hpn pl0
                  go_wp2_with fail
                  try (go_quiet (fail); go_wp2_with fail)
                  try (go_quiet (fail); go_wp2_with fail)
                  go_roundw
                  case rel => exact ⟨j + 1, by omega, by go_num, by rw [HQ'.out], by rw [HU'.out], HN2.out, (by first | exact HW.out | exact drew_more HW.out _ | exact drew_more (drew_more HW.out _) _ | exact drew_more (drew_more (drew_more HW.out _) _) _)⟩
                  case measure => simp [intOf]; omega
              · have hd2 : decide (j < b.length) = false := by simpa using hlt2
                have hjb : j = b.length := by omega
                obtain ⟨e1, e2⟩ := HF8.out fun t ht => HN.out t (by omega)
                rw [hjb, e1, e2]
                have hdb : decide (b.length < b.length) = false := by simp
                clear e1 e2 hjb hd2 hlt2
                go_wp2
                go_ret
                exact ⟨rfl, by first | exact hb0s | exact bel_drewN hb0s _⟩
end Go.Proofs.Ytcfnbpofbcendab
