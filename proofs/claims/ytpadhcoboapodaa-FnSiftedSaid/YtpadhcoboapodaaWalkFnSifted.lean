/- The walk of laws.FnSifted: it returns true, whatever the code; nothing that lay has turned. -/
import Derived.Test.YtpadhcoboapodaaDrCnd
import Derived.Test.YtpadhcoboapodaaCndF
import Derived.Test.YtpadhcoboapodaaMark3
import Derived.Test.YtpadhcoboapodaaWalkFnPlus
namespace Go.Proofs.Ytpadhcoboapodaa
open Go.RowKit

theorem ok_weak : ∀ {bag : List (List Int × Int)} {r : List Int} {p : Option (List Int)}, okFrom (some r) bag = true → (∀ q, p = some q → lessB q r = true) → okFrom p bag = true
  | [], _, _, _, _ => by simp [okFrom]
  | (s, m) :: cs, r, p, h, hp => by
    simp only [okFrom, Bool.and_eq_true] at h ⊢
    refine ⟨⟨h.1.1, ?_⟩, h.2⟩
    cases p with
    | none => rfl
    | some q => exact less_trans (hp q rfl) h.1.2
theorem ok_filter (f : List Int × Int → Bool) : ∀ {bag : List (List Int × Int)} {p : Option (List Int)}, okFrom p bag = true → okFrom p (bag.filter f) = true
  | [], _, _ => by simp [okFrom]
  | (r, n) :: bs, p, h => by
    simp only [okFrom, Bool.and_eq_true] at h
    have ih := ok_filter f h.2
    rw [List.filter_cons]
    split
    · simp only [okFrom, Bool.and_eq_true]
      exact ⟨h.1, ih⟩
    · refine ok_weak ih fun q hq => ?_
      subst hq
      exact h.1.2
theorem bagOk_filter {f : List Int × Int → Bool} {bag : List (List Int × Int)} (h : bagOkB bag = true) : bagOkB (bag.filter f) = true := by
  unfold bagOkB at h ⊢
  rw [Bool.and_eq_true, decide_eq_true_eq] at h ⊢
  exact ⟨ok_filter f h.1, Nat.le_trans (List.length_filter_le _ _) h.2⟩
theorem times_filter (l : List Cnd) (s : List Int) : ∀ bag : List (List Int × Int), timesL (bag.filter (sif l)) s = if holdsB l s = true then timesL bag s else 0
  | [] => by simp [timesL]
  | (r, n) :: bs => by
    have ih := times_filter l s bs
    rw [List.filter_cons]
    by_cases hh : sif l (r, n) = true
    · rw [if_pos hh]
      have hr : holdsB l r = true := hh
      simp only [timesL]
      by_cases e : r = s
      · subst e
        simp only [if_pos, hr]
      · simp only [if_neg e]; exact ih
    · rw [if_neg hh, ih]
      have hr : ¬ holdsB l r = true := hh
      simp only [timesL]
      by_cases e : r = s
      · subst e
        rw [if_neg hr, if_neg hr]
      · simp only [if_neg e]
theorem sb_filter {f : List Int × Int → Bool} {bag : List (List Int × Int)} (h : SB bag) : SB (bag.filter f) := List.Pairwise.filter f h
theorem nz_filter {f : List Int × Int → Bool} {bag : List (List Int × Int)} (h : NZ bag) : NZ (bag.filter f) := fun p hp => h p (List.mem_filter.1 hp).1
theorem sift_plus {l : List Cnd} {b d : List (List Int × Int)} (hb : bagOkB b = true) (hd : bagOkB d = true) (hs : bagOkB (plusB b d) = true) : siftL l (plusB b d) = plusB (siftL l b) (siftL l d) := by
  rw [sift_is hb, sift_is hd, sift_is hs, plusB_is hb hd, plusB_is (bagOk_filter hb) (bagOk_filter hd)]
  obtain ⟨fb, lb⟩ := bagOk_fit hb
  obtain ⟨fd, ld⟩ := bagOk_fit hd
  obtain ⟨fb2, lb2⟩ := bagOk_fit (bagOk_filter (f := sif l) hb)
  obtain ⟨fd2, ld2⟩ := bagOk_fit (bagOk_filter (f := sif l) hd)
  obtain ⟨p1, p2, p3⟩ := Fit.plus (by omega) (by omega) fb fd (by omega)
  obtain ⟨q1, q2, q3⟩ := Fit.plus (by omega) (by omega) fb2 fd2 (by omega)
  refine canon (sb_filter p1) q1 (nz_filter p2) q2 fun s => ?_
  rw [times_filter, q3, times_filter, times_filter, p3]
  split
  · rfl
  · omega
theorem sift_twice (l : List Cnd) (b : List (List Int × Int)) : siftL l (siftL l b) = siftL l b := by
  cases hb : bagOkB b with
  | false => rw [sift_no hb]; unfold siftL; split <;> rfl
  | true => rw [sift_is hb, sift_is (bagOk_filter hb), List.filter_filter]; congr 1; funext x; simp
theorem siftL_fitS {m : Nat} (l : List Cnd) {a : List (List Int × Int)} (h : ∀ j, j < a.length → (rx a j).length ≤ m) : (siftL l a).length ≤ a.length ∧ ∀ j, j < (siftL l a).length → (rx (siftL l a) j).length ≤ m := by
  unfold siftL
  split
  · refine ⟨List.length_filter_le _ _, rows_mem.2 fun p hp => rows_mem.1 h p (List.mem_filter.1 hp).1⟩
  · exact ⟨Nat.zero_le _, fun j hj => absurd hj (by simp)⟩
set_option maxRecDepth 100000 in
set_option maxHeartbeats 16000000 in
theorem walkFnSifted (a0 : Option Addr) (len0 cap0 : Nat) (z0 : List Int) (w : World) (w0 : IsRow .u8 w a0 len0 cap0 z0) :
    Calls Try.prog 3 #[.slice a0 len0 cap0] w fun e w' => e = .returned (.bool true) ∧ Below w.heap.size w w' := by
  obtain ⟨zs, rfl, hU, hm⟩ := isRow_u8 w0
  clear w0
  by_cases hbig : (4096 : Int) < (zs.length : Int)
  · have hd := decide_eq_true hbig
    have HD := Lib.hid hd
    clear hd hbig
    go_enter Try.func3, Try.ntmps3
    go_wp2_with fail
    refine (big_any a0 zs.length cap0 w).mono ?_
    rintro e w1 ⟨rfl, rfl⟩
    rw [HD.out]
    go_wp2
    go_ret
    exact ⟨rfl, Below.refl _ _⟩
  have hd := decide_eq_false hbig
  have HD := Lib.hid hd
  have hzl : zs.length ≤ 1048576 := by omega
  clear hd hbig hm
  go_enter Try.func3, Try.ntmps3
  go_wp2_with fail
  refine (big_any a0 zs.length cap0 w).mono ?_
  rintro e w1 ⟨rfl, rfl⟩
  rw [HD.out]
  clear HD
  go_wp2_with fail
  refine (drawSifted_any a0 cap0 zs w hU hzl).mono ?_
  rintro e w1 ⟨Al, cl, l, gb, cb, b, rfl, hll, hL1, hB1, hcb, hlb, hb1⟩
  obtain ⟨X, hX⟩ : ∃ X, siftL l b = X := ⟨_, rfl⟩
  obtain ⟨hXl, hXr⟩ := siftL_fitS l hB1.le
  rw [hX] at hXl hXr
  have HX := Lib.hid hX
  have HXr := Lib.hid hXr
  have hXl2 : X.length ≤ 400 := by omega
  clear hX hXr hXl
  go_wp2_with fail
  refine (implSifted_any _ _ _ _ l b w1 hL1 hB1 (by omega) (by omega)).mono ?_
  rintro e w2 ⟨vx, esx, rfl, hOx, hex, hb2⟩
  rw [HX.out] at hex
  obtain ⟨Ax, capx, rfl⟩ := hOx.formW hex
  have hX2 := OBag.bagW hOx hex HXr.out
  have hL2 := hL1.on hb2
  have hB2 := hB1.on hb2
  have hb02 := bel_step hb1 hb2
  clear hex hOx hL1 hB1 hb1 hb2
  go_wp2_with fail
  refine (specSifted_any _ _ _ _ l b w2 hL2 hB2 (by omega) (by omega)).mono ?_
  rintro e w3 ⟨vs, ess, rfl, hOs, hes, hb3⟩
  rw [HX.out] at hes
  obtain ⟨As, caps, rfl⟩ := hOs.formW hes
  have hS3 := OBag.bagW hOs hes HXr.out
  have hX3 := hX2.on hb3
  have hL3 := hL2.on hb3
  have hB3 := hB2.on hb3
  have hb03 := bel_step hb02 hb3
  clear hes hOs hX2 hL2 hB2 hb02 hb3
  go_wp2_with fail
  refine (likeBag_any _ _ _ _ X X w3 hX3 hS3 (by omega) (by omega)).mono ?_
  rintro e w4 ⟨rfl, n4, hw4⟩
  rw [decide_eq_true (rfl : X = X)]
  have hb34 : Below w3.heap.size w3 w4 := by rw [hw4]; exact bel_drewN (Below.refl _ _) n4
  have hX4 := hX3.on hb34
  have hL4 := hL3.on hb34
  have hB4 := hB3.on hb34
  have hb04 := bel_step hb03 hb34
  clear hw4 hS3 hX3 hL3 hB3 hb03 hb34
  -- another bag
  go_wp2_with fail
  refine (drawPlus_any a0 cap0 zs w4 (hU.on hb04) hzl).mono ?_
  rintro e w5 ⟨g1, cap1, u, gd, cd, d, rfl, _, _, _, hD5, hcd, hld, hb5⟩
  have hX5 := hX4.on hb5
  have hL5 := hL4.on hb5
  have hB5 := hB4.on hb5
  have hb05 := bel_step hb04 hb5
  obtain ⟨S, hS⟩ : ∃ S, plusB b d = S := ⟨_, rfl⟩
  obtain ⟨hSl, hSr⟩ := plusB_fit hB5.le hD5.le
  rw [hS] at hSl hSr
  have HS := Lib.hid hS
  have HSr := Lib.hid hSr
  have hSl2 : S.length ≤ 800 := by omega
  obtain ⟨Y, hY⟩ : ∃ Y, siftL l d = Y := ⟨_, rfl⟩
  obtain ⟨hYl, hYr⟩ := siftL_fitS l hD5.le
  rw [hY] at hYl hYr
  have HY := Lib.hid hY
  have HYr := Lib.hid hYr
  have hYl2 : Y.length ≤ 400 := by omega
  clear hX4 hL4 hB4 hb04 hb5 hS hSr hSl hY hYr hYl
  go_wp2_with fail
  refine ((specPlus_any _ _ _ _ b d w5 hB5 hD5 (by omega) (by omega)).mono fun _ _ h => OwnBag.b h).mono ?_
  rintro e w6 ⟨vs, ess, rfl, hOs, hes, hb6⟩
  rw [HS.out] at hes
  obtain ⟨As6, caps6, rfl⟩ := hOs.formW hes
  have hS6 := OBag.bagW hOs hes HSr.out
  have hX6 := hX5.on hb6
  have hL6 := hL5.on hb6
  have hB6 := hB5.on hb6
  have hD6 := hD5.on hb6
  have hb06 := bel_step hb05 hb6
  clear hes hOs hX5 hL5 hB5 hD5 hb05 hb6
  go_wp2_with fail
  refine (specBagOk_any _ _ b w6 _ hB6 (by omega)).mono ?_
  rintro e w7 ⟨rfl, n7, hw7⟩
  have hb67 : Below w6.heap.size w6 w7 := by rw [hw7]; exact bel_drewN (Below.refl _ _) n7
  have hS7 := hS6.on hb67
  have hX7 := hX6.on hb67
  have hL7 := hL6.on hb67
  have hD7 := hD6.on hb67
  have hb07 := bel_step hb06 hb67
  clear hw7 hS6 hX6 hL6 hB6 hD6 hb06 hb67
  cases hkb : bagOkB b with
  | false =>
    clear hkb
    go_wp2
    go_ret
    exact ⟨rfl, hb07⟩
  | true =>
  have HKB := Lib.hid hkb
  clear hkb
  go_wp2_with fail
  refine (specBagOk_any _ _ d w7 _ hD7 (by omega)).mono ?_
  rintro e w8 ⟨rfl, n8, hw8⟩
  have hb78 : Below w7.heap.size w7 w8 := by rw [hw8]; exact bel_drewN (Below.refl _ _) n8
  have hS8 := hS7.on hb78
  have hX8 := hX7.on hb78
  have hL8 := hL7.on hb78
  have hD8 := hD7.on hb78
  have hb08 := bel_step hb07 hb78
  clear hw8 hS7 hX7 hL7 hD7 hb07 hb78
  cases hkd : bagOkB d with
  | false =>
    clear hkd
    go_wp2
    go_ret
    exact ⟨rfl, hb08⟩
  | true =>
  have HKD := Lib.hid hkd
  clear hkd
  go_wp2_with fail
  refine (specBagOk_any _ _ S w8 _ hS8 (by omega)).mono ?_
  rintro e w9 ⟨rfl, n9, hw9⟩
  have hb89 : Below w8.heap.size w8 w9 := by rw [hw9]; exact bel_drewN (Below.refl _ _) n9
  have hS9 := hS8.on hb89
  have hX9 := hX8.on hb89
  have hL9 := hL8.on hb89
  have hD9 := hD8.on hb89
  have hb09 := bel_step hb08 hb89
  clear hw9 hS8 hX8 hL8 hD8 hb08 hb89
  cases hks : bagOkB S with
  | false =>
    clear hks
    go_wp2
    go_ret
    exact ⟨rfl, hb09⟩
  | true =>
  have HLAW := Lib.hid (show siftL l S = plusB X Y by rw [← HS.out, ← HX.out, ← HY.out]; exact sift_plus HKB.out HKD.out (by rw [HS.out]; exact hks))
  clear hks
  obtain ⟨Z, hZ⟩ : ∃ Z, siftL l S = Z := ⟨_, rfl⟩
  obtain ⟨hZl, hZr⟩ := siftL_fitS l hS9.le
  rw [hZ] at hZl hZr
  have HZ := Lib.hid hZ
  have HZr := Lib.hid hZr
  have hZl2 : Z.length ≤ 800 := by omega
  clear hZ hZr hZl
  go_wp2_with fail
  refine (implSifted_any _ _ _ _ l S w9 hL9 hS9 (by omega) (by omega)).mono ?_
  rintro e wA ⟨vz, esz, rfl, hOz, hez, hbA⟩
  rw [HZ.out] at hez
  obtain ⟨Az, capz, rfl⟩ := hOz.formW hez
  have hZA := OBag.bagW hOz hez HZr.out
  have hXA := hX9.on hbA
  have hLA := hL9.on hbA
  have hDA := hD9.on hbA
  have hb0A := bel_step hb09 hbA
  clear hez hOz hX9 hL9 hD9 hS9 hb09 hbA
  go_wp2_with fail
  refine (implSifted_any _ _ _ _ l d wA hLA hDA (by omega) (by omega)).mono ?_
  rintro e wB ⟨vy, esy, rfl, hOy, hey, hbB⟩
  rw [HY.out] at hey
  obtain ⟨Ay, capy, rfl⟩ := hOy.formW hey
  have hYB := OBag.bagW hOy hey HYr.out
  have hZB := hZA.on hbB
  have hXB := hXA.on hbB
  have hLB := hLA.on hbB
  have hb0B := bel_step hb0A hbB
  clear hey hOy hZA hXA hLA hDA hb0A hbB
  go_wp2_with fail
  refine ((specPlus_any _ _ _ _ X Y wB hXB hYB (by omega) (by omega)).mono fun _ _ h => OwnBag.b h).mono ?_
  rintro e wC ⟨vp, esp, rfl, hOp, hep, hbC⟩
  rw [← HLAW.out, HZ.out] at hep
  obtain ⟨Ap, capp, rfl⟩ := hOp.formW hep
  have hPC := OBag.bagW hOp hep HZr.out
  have hZC := hZB.on hbC
  have hXC := hXB.on hbC
  have hLC := hLB.on hbC
  have hb0C := bel_step hb0B hbC
  clear hep hOp hZB hXB hLB hYB hb0B hbC
  go_wp2_with fail
  refine (likeBag_any _ _ _ _ Z Z wC hZC hPC (by omega) (by omega)).mono ?_
  rintro e wD ⟨rfl, nD, hwD⟩
  rw [decide_eq_true (rfl : Z = Z)]
  have hbCD : Below wC.heap.size wC wD := by rw [hwD]; exact bel_drewN (Below.refl _ _) nD
  have hXD := hXC.on hbCD
  have hLD := hLC.on hbCD
  have hb0D := bel_step hb0C hbCD
  clear hwD hPC hZC hXC hLC hb0C hbCD
  have HTW := Lib.hid (show siftL l X = X by rw [← HX.out]; exact sift_twice l b)
  go_wp2_with fail
  refine (implSifted_any _ _ _ _ l X wD hLD hXD (by omega) (by omega)).mono ?_
  rintro e wE ⟨vq, esq, rfl, hOq, heq, hbE⟩
  rw [HTW.out] at heq
  obtain ⟨Aq, capq, rfl⟩ := hOq.formW heq
  have hQE := OBag.bagW hOq heq HXr.out
  have hXE := hXD.on hbE
  have hb0E := bel_step hb0D hbE
  clear heq hOq hXD hLD hb0D hbE
  go_wp2_with fail
  refine (likeBag_any _ _ _ _ X X wE hQE hXE (by omega) (by omega)).mono ?_
  rintro e wF ⟨rfl, nF, hwF⟩
  rw [decide_eq_true (rfl : X = X)]
  have hbEF : Below wE.heap.size wE wF := by rw [hwF]; exact bel_drewN (Below.refl _ _) nF
  have hb0F := bel_step hb0E hbEF
  clear hwF
  go_wp2
  go_ret
  exact ⟨rfl, hb0F⟩
end Go.Proofs.Ytpadhcoboapodaa
