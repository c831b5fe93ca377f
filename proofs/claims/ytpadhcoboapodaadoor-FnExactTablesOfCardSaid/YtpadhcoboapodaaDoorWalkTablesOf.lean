/- The walk of laws.FnExactTablesOf: it returns true, and nothing that lay has turned. The program's own variable lies as the text lays it. -/
import Derived.Test.YtpadhcoboapodaaDoorTbo2
import Derived.Test.YtpadhcoboapodaaDoorTbo3
import Derived.Test.YtpadhcoboapodaaDoorNodY
import Derived.Test.YtpadhcoboapodaaDoorBas2
namespace Go.Proofs.YtpadhcoboapodaaDoor
open Go.RowKit

def nw1 (d : Nd) : Nat := d.n.size + d.c.length + d.z.length
def nwS (v : List Nd) : Nat := (v.map nw1).sum
theorem nwS_take {v : List Nd} {k : Nat} (h : k < v.length) : nwS (v.take (k + 1)) = nwS (v.take k) + nw1 (ndx v k) := by
  unfold nwS
  rw [List.take_succ_eq_append_getElem h, List.map_append, List.sum_append_nat, ← ndx_eq v k h]; simp
theorem nwS_ge {v : List Nd} : ∀ j, j < v.length → nw1 (ndx v j) ≤ nwS v := fun j hj => by
  unfold nwS
  rw [ndx_eq v j hj]
  exact le_sum (List.mem_map.2 ⟨_, List.getElem_mem hj, rfl⟩)
theorem fitN_of {v : List Nd} {m : Nat} (h : nwS v ≤ m) : fitN m v := fun j hj => by
  have h1 := nwS_ge j hj
  unfold nw1 at h1
  exact ⟨by omega, by omega, by omega⟩
theorem kNd_sum {m : Nat} {es : List NV} {v : List Nd} (hv : es.map NV.d = v) : ∀ j, j ≤ es.length → kNd m es j ≤ m + 4 * (j + nwS (v.take j))
  | 0, _ => by rw [kNd_zero]; omega
  | j + 1, h => by
    have hl : es.length = v.length := by rw [← hv, List.length_map]
    have h1 := kNd_sum (m := m) hv j (by omega)
    have hx : ndx v j = (nvx es j).d := by rw [ndx_eq v j (by omega), nvx_eq es j (by omega)]; simp [← hv]
    rw [kNd_succ (by omega), nwS_take (by omega), hx]
    unfold wN nw1
    omega
set_option maxRecDepth 100000 in
set_option maxHeartbeats 2000000 in
theorem szNode_sum (d : Nd) (Ac : Option Addr) (cc : Nat) (Az : Option Addr) (cz : Nat) (left : Int) (w : World) (hf : fitD maxLen d) (hz0 : 0 ≤ left) (hz1 : left ≤ 1048576) :
    Calls Tryd.prog 6 #[.agg #[.int .i64 d.k, .string d.n, .slice Ac d.c.length cc, .slice Az d.z.length cz, .int .i64 d.p], .int .i64 left] w (SzE (d.n.size + d.c.length + d.z.length) left w) := by
  obtain ⟨hn, hc, hzl⟩ := hf
  have HC := Lib.hid hc
  have HZ := Lib.hid hzl
  unfold maxLen at hn
  clear hc hzl
  have bc := (Below.refl w.heap.size w).alloc (Nat.le_refl _) (.cells #[.int .i64 d.k, .string d.n, .slice Ac d.c.length cc, .slice Az d.z.length cz, .int .i64 d.p] 25)
  obtain ⟨b0, b1, b2, b3, b4⟩ := (Blk.new w 25 #[.int .i64 d.k, .string d.n, .slice Ac d.c.length cc, .slice Az d.z.length cz, .int .i64 d.p]).c5
  by_cases hbig : left < (d.n.size : Int)
  · have hbn : left - (d.n.size : Int) < 0 := by omega
    go_enter Tryd.func6, Tryd.ntmps6
    go_wp2
    go_ret
    exact ⟨-1, rfl, by omega, fun h => absurd h (by omega), bc⟩
  have hx2 : 0 ≤ left - (d.n.size : Int) ∧ left - (d.n.size : Int) ≤ 1048576 := by omega
  have hbn : decide (left - (d.n.size : Int) < 0) = false := by simp; omega
  have HX2 := Lib.hid hx2
  go_enter Tryd.func6, Tryd.ntmps6
  go_wp2_with fail
  generalize w.alloc (.cells #[.int .i64 d.k, .string d.n, .slice Ac d.c.length cc, .slice Az d.z.length cz, .int .i64 d.p] 25) = wb at *
  refine (szCondS_any Ac d.c.length cc (left - (d.n.size : Int)) wb HC.out hx2.1 hx2.2).mono ?_
  rintro e w1 ⟨rfl, rfl⟩
  by_cases hc0 : left - (d.n.size : Int) < (d.c.length : Int)
  · rw [if_pos hc0]
    clear hc0 hbn hx2
    go_wp2
    go_ret
    exact ⟨-1, rfl, by omega, fun h => absurd h (by omega), bc⟩
  rw [if_neg hc0]
  obtain ⟨y, hy⟩ : ∃ y, left - (d.n.size : Int) - (d.c.length : Int) = y := ⟨_, rfl⟩
  have hy0 : 0 ≤ y := by omega
  have hy1 : y ≤ 1048576 := by omega
  have hyd : decide (y < 0) = false := by simp; omega
  have HY := Lib.hid hy
  rw [hy]
  clear hy hc0 hbn hx2
  go_wp2_with fail
  refine (szInt64S_any Az d.z.length cz y wb HZ.out hy0 hy1).mono ?_
  rintro e w1 ⟨rfl, rfl⟩
  by_cases h0 : szI d.z.length y < 0
  · rw [szI_no h0]
    clear h0
    go_wp2
    go_ret
    exact ⟨-1, rfl, by omega, fun h => absurd h (by omega), bc⟩
  · have hle := szI_le (n := d.z.length) (left := y) (by omega)
    have hs0 : 0 ≤ szI d.z.length y := by omega
    have HN := Lib.hid (show szI d.z.length y + ((d.n.size + d.c.length + d.z.length : Nat) : Int) = left by have h1 := szI_eq hs0; have := HY.out; omega)
    have hle2 : szI d.z.length y ≤ left := by have := HX2.out; have := HY.out; omega
    clear hle
    generalize szI d.z.length y = x at *
    have hxd : decide (x < 0) = false := by simp; omega
    go_wp2
    go_ret
    exact ⟨x, rfl, hle2, fun _ => HN.out, bc⟩
set_option maxRecDepth 100000 in
set_option maxHeartbeats 2000000 in
theorem szNodeS_sum (A : Option Addr) (c : Nat) (v : List Nd) (w : World) (hB : Nds w w.heap.size A v) (hf : fitN maxLen v) (hl : v.length ≤ maxLen) :
    Calls Tryd.prog 12 #[.slice A v.length c, .int .i64 1048576] w (SzE (v.length + nwS v) 1048576 w) := by
  unfold maxLen at hl
  have HFT := Lib.hid hf
  clear hf
  by_cases hbig : (1048576 : Int) < (v.length : Int)
  · have hbn : 1048576 - (v.length : Int) < 0 := by omega
    go_enter Tryd.func12, Tryd.ntmps12
    go_wp2
    go_ret
    exact ⟨-1, rfl, by omega, fun h => absurd h (by omega), Below.refl _ _⟩
  have hx2 : 0 ≤ 1048576 - (v.length : Int) ∧ 1048576 - (v.length : Int) ≤ 1048576 := by omega
  have hbn : decide (1048576 - (v.length : Int) < 0) = false := by simp; omega
  have hl2 : v.length ≤ 1048576 := by omega
  clear hl
  go_enter Tryd.func12, Tryd.ntmps12
  go_wp2
  go_loopw [1, 5] (fun l i wr => ∃ (k : Nat) (x : Int), k ≤ v.length ∧ i = .int .i64 k ∧ l = .int .i64 x ∧ 0 ≤ x ∧ x + (v.length : Int) + (nwS (v.take k) : Int) = 1048576 ∧ Below w.heap.size w wr) (fun _ i _ => v.length - (intOf i).toNat)
  case atStart => exact ⟨0, _, Nat.zero_le _, rfl, rfl, hx2.1, by simp [nwS], Below.refl _ _⟩
  case round =>
    obtain ⟨k, x, hk, rfl, rfl, hx0, hx1, hW⟩ := hrel
    have HR := Lib.hid hx1
    have hx3 : x ≤ 1048576 := by omega
    have hBr := hB.on hW
    clear hx1 hbn hx2 hbig hB
    by_cases hlt : k < v.length
    · obtain ⟨b, off, Ac, cc, Az, cz, rfl, _, c0, c1, c2, c3, c4, _, _⟩ := hBr.here hlt
      go_wp2_with fail
      refine (szNode_sum (ndx v k) Ac cc Az cz x wr (HFT.out k hlt) hx0 hx3).mono ?_
      rintro e w1 ⟨y, rfl, hy1, hy, hb1⟩
      have HY := Lib.hid hy
      have hW1 := bel_step hW hb1
      clear c0 c1 c2 c3 c4 hy hb1 hW hBr
      by_cases hs : y < 0
      · go_wp2
        go_ret
        exact ⟨-1, rfl, by omega, fun h => absurd h (by omega), hW1⟩
      · have hs0 : 0 ≤ y := by omega
        have hsd : decide (y < 0) = false := by simp; omega
        have HS := Lib.hid (show y + (v.length : Int) + (nwS (v.take (k + 1)) : Int) = 1048576 by
          have h1 := HY.out hs0
          have h2 := HR.out
          rw [nwS_take hlt]
          unfold nw1
          omega)
        clear HY hs
        go_wp2
        go_roundw
        case rel => exact ⟨k + 1, y, by omega, by go_num, rfl, hs0, HS.out, hW1⟩
        case measure => simp [intOf]; omega
    · have hd : decide (k < v.length) = false := by simpa using hlt
      have HE := Lib.hid (show x + ((v.length + nwS v : Nat) : Int) = 1048576 by
        have := HR.out
        rw [List.take_of_length_le (by omega)] at this
        omega)
      go_wp2
      go_ret
      exact ⟨x, rfl, hx3, fun _ => HE.out, hW⟩
set_option maxRecDepth 100000 in
set_option maxHeartbeats 8000000 in
theorem walkFnExactTablesOf (a0 : Option Addr) (cap0 : Nat) (v : List Nd) (w : World) (w0 : Nds w w.heap.size a0 v ∧ fitN maxLen v) (hm : v.length ≤ maxLen) (hF : FormsAt w) :
    Calls Tryd.prog 5 #[.slice a0 v.length cap0] w fun e w' => e = .returned (.bool true) ∧ Below w.heap.size w w' := by
  obtain ⟨hN, hfm⟩ := w0
  go_enter Tryd.func5, Tryd.ntmps5
  go_wp2_with fail
  refine (szNodeS_sum a0 cap0 v w hN hfm hm).mono ?_
  rintro e w1 ⟨x, rfl, _, hx, hW⟩
  have HX := Lib.hid hx
  clear hx hfm
  by_cases h0 : x < 0
  · go_wp2
    go_ret
    exact ⟨rfl, hW⟩
  have hsum := HX.out (by omega)
  have hl : v.length ≤ 1048576 := by omega
  have hnw : v.length + nwS v ≤ 1048576 := by omega
  have hfn : fitN 1048576 v := fitN_of (by omega)
  have HFN := Lib.hid hfn
  have hd : decide (x < 0) = false := by simp; omega
  have HNW := Lib.hid hnw
  clear HX h0 hm hsum hfn hnw
  have HN := Lib.hid (show ∀ W, Below w.heap.size w W → Nds W W.heap.size a0 v from fun W h => hN.on h)
  have HFA := Lib.hid (show ∀ W, Below w.heap.size w W → FormsAt W from fun W h => hF.on h)
  clear hN hF
  obtain ⟨T, hT⟩ : ∃ T, tabsV v = T := ⟨_, rfl⟩
  have HT := Lib.hid hT
  have hTl : T.length ≤ 1048576 := by
    rw [← hT]
    unfold tabsV
    split
    · have := (tabs_good v v.length (Nat.le_refl _)).2.2
      rw [List.take_length] at this; omega
    · exact Nat.zero_le _
  clear hT
  -- the model's answer
  go_wp2_with fail
  refine (toNodeS_any a0 cap0 v w1 (HN.out w1 hW) HFN.out hl).mono ?_
  rintro e w2 ⟨A2, c2, rfl, hN2, hb⟩
  replace hW := bel_step hW hb
  clear hb hd
  go_wp2_with fail
  refine (specTablesOf_any A2 c2 v w2 hN2 HFN.out hl).mono ?_
  rintro e w3 ⟨gw, cw, rfl, hS, hb⟩
  rw [HT.out] at hS ⊢
  have hgw0 := (hS.lt gw rfl).1
  have hgw1 := (hS.lt gw rfl).2
  have hw2 := hW.size
  replace hW := bel_step hW hb
  clear hb hN2
  -- the argument's copy
  go_wp2_with fail
  refine (toNodeS_own a0 cap0 v w3 (HN.out w3 hW) HFN.out hl).mono ?_
  rintro e w4 ⟨G, c4, es, rfl, hes, hO, hth, hb⟩
  have HES := Lib.hid hes
  have HTH := Lib.hid hth
  have hw3 := hW.size
  have hGl : w3.heap.size ≤ G ∧ G < w4.heap.size := hth G (.inl rfl)
  have hesl : es.length = v.length := by rw [← hes, List.length_map]
  replace hW := bel_step hW hb
  replace hS := hS.kept (grown_of_below hb) (.inr (by simp [Value.ownBlock]))
  have hs4 := hb.size
  clear hb hes hth
  -- the program's answer
  go_wp2_with fail
  refine (implTablesOf_any (some ⟨G, 0, none⟩) c4 v w4 (hO.nds HES.out) HFN.out (HFA.out w4 hW) hl).mono ?_
  rintro e w5 ⟨gi, ci, rfl, hI, hb⟩
  rw [HT.out] at hI ⊢
  have hgi0 := (hI.lt gi rfl).1
  have hgi1 := (hI.lt gi rfl).2
  replace hW := bel_step hW hb
  replace hS := hS.kept (grown_of_below hb) (.inr (by simp [Value.ownBlock]))
  replace hO := hO.on hb
  have hs5 := hb.size
  clear hb
  obtain ⟨n, hn⟩ : ∃ n, T.length = n := ⟨_, rfl⟩
  have HNT := Lib.hid hn
  have HEQ := Lib.hid (show ∀ (W : World) (g g' c c' b b' : Nat), W.ownsRow b 9 1 (.slice (some ⟨g, 0, none⟩) T.length c) T.length (strl T) → W.ownsRow b' 9 1 (.slice (some ⟨g', 0, none⟩) T.length c') T.length (strl T) → Calls Tryd.prog 21 #[.slice (some ⟨g, 0, none⟩) n c, .slice (some ⟨g', 0, none⟩) n c'] W fun e w' => e = .returned (.bool true) ∧ Below W.heap.size W w' from fun W g g' c c' b b' h1 h2 => by
    obtain ⟨A, cc, e1, s1⟩ := strs_of_own h1
    obtain ⟨A', cc', e2, s2⟩ := strs_of_own h2
    injection e1 with e1 _ _
    injection e2 with e2 _ _
    rw [e1, e2, ← hn]
    exact eqStringS_same A A' c c' T W s1 s2 (by omega))
  rw [hn]
  clear hn
  go_wp2_with fail
  refine (HEQ.out w5 gi gw ci cw _ _ hI hS).mono ?_
  rintro e w6 ⟨rfl, hb⟩
  replace hW := bel_step hW hb
  replace hS := hS.kept (grown_of_below hb) (.inr (by simp [Value.ownBlock]))
  replace hI := hI.kept (grown_of_below hb) (.inr (by simp [Value.ownBlock]))
  replace hO := hO.on hb
  have hs6 := hb.size
  clear hb
  -- the argument is as it was
  go_wp2_with fail
  refine (toNodeS_any a0 cap0 v w6 (HN.out w6 hW) HFN.out hl).mono ?_
  rintro e w7 ⟨A7, c7, rfl, hN7, hb⟩
  replace hW := bel_step hW hb
  replace hS := hS.kept (grown_of_below hb) (.inr (by simp [Value.ownBlock]))
  replace hI := hI.kept (grown_of_below hb) (.inr (by simp [Value.ownBlock]))
  replace hO := hO.on hb
  have hs7 := hb.size
  clear hb
  go_wp2_with fail
  refine (eqNodeS_same (some ⟨G, 0, none⟩) A7 c4 c7 v w7 (hO.nds HES.out) hN7 HFN.out (by omega)).mono ?_
  rintro e w8 ⟨rfl, hb⟩
  replace hW := bel_step hW hb
  replace hS := hS.kept (grown_of_below hb) (.inr (by simp [Value.ownBlock]))
  replace hI := hI.kept (grown_of_below hb) (.inr (by simp [Value.ownBlock]))
  replace hO := hO.on hb
  have hs8 := hb.size
  clear hb hN7
  -- marks on the argument
  have hkb : kNd 1 es es.length ≤ 100000000 := by
    have h1 := kNd_sum (m := 1) HES.out es.length (Nat.le_refl _)
    rw [hesl, List.take_length] at h1
    rw [hesl]
    have := HNW.out
    omega
  have HMK := Lib.hid (show Calls Tryd.prog 22 #[.slice (some ⟨G, 0, none⟩) v.length c4, .int .i64 1] w8 fun e w' => e = .returned (.int .i64 ((kNd 1 es es.length : Nat) : Int)) ∧ Kept (theirs G es) w8 w' from by
    have := markNodeS_any G c4 1 es w8 hO (by omega) (fun j hj => by
      have h1 := HFN.out j (by omega)
      have hx : ndx v j = (nvx es j).d := by rw [ndx_eq v j (by omega), nvx_eq es j hj]; simp [← HES.out]
      rw [hx] at h1
      exact ⟨h1.2.1, h1.2.2⟩) (by omega) hkb
    rw [hesl] at this ⊢
    exact this.mono fun e w' h => ⟨h.1, h.2.2⟩)
  clear hkb hO
  go_wp2_with fail
  refine HMK.out.mono ?_
  rintro e w9 ⟨rfl, hkp⟩
  have hb9 : Below w.heap.size w8 w9 := hkp.below hW.size (fun k hk h => by have := HTH.out k h; omega)
  replace hW := hW.trans hb9
  have keep9 : ∀ (g b c : Nat) (l : List ByteArray), (¬ theirs G es g) → w8.ownsRow b 9 1 (.slice (some ⟨g, 0, none⟩) l.length c) l.length (strl l) → w9.ownsRow b 9 1 (.slice (some ⟨g, 0, none⟩) l.length c) l.length (strl l) := fun g b c l hg h => by
    refine own_keepB h fun x hx => ?_
    obtain rfl : g = x := by simpa [Value.ownBlock] using hx
    exact hkp.block g (h.lt g rfl).2 hg
  replace hS := keep9 gw _ cw T (fun h => by have := HTH.out gw h; omega) hS
  replace hI := keep9 gi _ ci T (fun h => by have := HTH.out gi h; omega) hI
  have hs9 := hkp.size
  clear keep9 hkp hb9 HMK
  obtain ⟨kk, hkk⟩ : ∃ kk, kNd 1 es es.length = kk := ⟨_, rfl⟩
  rw [hkk]
  have hkn : decide ((kk : Int) < 0) = false := by simp
  clear hkk
  go_wp2_with fail
  refine (HEQ.out w9 gi gw ci cw _ _ hI hS).mono ?_
  rintro e w10 ⟨rfl, hb⟩
  replace hW := bel_step hW hb
  replace hS := hS.kept (grown_of_below hb) (.inr (by simp [Value.ownBlock]))
  replace hI := hI.kept (grown_of_below hb) (.inr (by simp [Value.ownBlock]))
  have hs10 := hb.size
  clear hb hkn
  -- marks on the answer
  have HMS := Lib.hid (show Calls Tryd.prog 23 #[.slice (some ⟨gi, 0, none⟩) n ci, .int .i64 1] w10 fun e w' => e = .returned (.int .i64 ((1 + n : Nat) : Int)) ∧ w'.ownsRow w4.heap.size 9 1 (.slice (some ⟨gi, 0, none⟩) n ci) n (strl (mkT 1 n)) ∧ w10.grownBy w' (some gi) from by
    have := markStringS_any gi ci 1 w4.heap.size T w10 hI hTl (by omega) (by omega)
    rw [HNT.out] at this
    exact this)
  clear hI
  go_wp2_with fail
  refine HMS.out.mono ?_
  rintro e w11 ⟨rfl, hI, hg11⟩
  replace hS := hS.kept hg11 (.inr (by simp [Value.ownBlock]; omega))
  have hb11 : Below w.heap.size w10 w11 := Below.grown (Below.refl _ _) hg11 hW.size (fun r e => by have : gi = r := Option.some.inj e; omega)
  replace hW := hW.trans hb11
  have hs11 := hg11.size
  have hn1 : n ≤ 1048576 := by rw [← HNT.out]; exact hTl
  have HHL := Lib.hid (show ∀ W : World, W.ownsRow w4.heap.size 9 1 (.slice (some ⟨gi, 0, none⟩) n ci) n (strl (mkT 1 n)) → Calls Tryd.prog 24 #[.slice (some ⟨gi, 0, none⟩) n ci, .int .i64 1] W fun e w' => e = .returned (.int .i64 ((1 + n : Nat) : Int)) ∧ Below W.heap.size W w' from fun W h => by
    have h2 := h
    rw [show n = (mkT 1 n).length from (mkT_length 1 n).symm] at h2
    rw [mkT_length] at h2
    have h3 : W.ownsRow w4.heap.size 9 1 (.slice (some ⟨gi, 0, none⟩) (mkT 1 n).length ci) (mkT 1 n).length (strl (mkT 1 n)) := by rw [mkT_length]; exact h
    obtain ⟨A, cc, e1, s1⟩ := strs_of_own h3
    injection e1 with e1 _ _
    rw [e1]
    exact heldStringS_any A ci 1 n W s1 hn1 (by omega) (by omega))
  clear HMS hg11 hb11
  obtain ⟨M, hM⟩ : ∃ M : Int, ((1 + n : Nat) : Int) = M := ⟨_, rfl⟩
  rw [hM] at HHL ⊢
  have hM0 : decide (M < 0) = false := by rw [decide_eq_false_iff_not]; omega
  have hMM : (M != M) = false := by simp
  clear hM
  go_wp2_with fail
  refine (HHL.out w11 hI).mono ?_
  rintro e w12 ⟨rfl, hb⟩
  replace hW := bel_step hW hb
  replace hS := hS.kept (grown_of_below hb) (.inr (by simp [Value.ownBlock]))
  replace hI := hI.kept (grown_of_below hb) (.inr (by simp [Value.ownBlock]))
  clear hb
  -- another answer
  go_wp2_with fail
  refine (toNodeS_any a0 cap0 v w12 (HN.out w12 hW) HFN.out hl).mono ?_
  rintro e w13 ⟨A13, c13, rfl, hN13, hb⟩
  replace hW := bel_step hW hb
  replace hS := hS.kept (grown_of_below hb) (.inr (by simp [Value.ownBlock]))
  replace hI := hI.kept (grown_of_below hb) (.inr (by simp [Value.ownBlock]))
  clear hb
  go_wp2_with fail
  refine (implTablesOf_any A13 c13 v w13 hN13 HFN.out (HFA.out w13 hW) hl).mono ?_
  rintro e w14 ⟨gh, ch, rfl, hH, hb⟩
  rw [HT.out] at hH ⊢
  rw [HNT.out]
  replace hW := bel_step hW hb
  replace hS := hS.kept (grown_of_below hb) (.inr (by simp [Value.ownBlock]))
  replace hI := hI.kept (grown_of_below hb) (.inr (by simp [Value.ownBlock]))
  clear hb hN13
  go_wp2_with fail
  refine (HEQ.out w14 gh gw ch cw _ _ hH hS).mono ?_
  rintro e w15 ⟨rfl, hb⟩
  replace hW := bel_step hW hb
  replace hI := hI.kept (grown_of_below hb) (.inr (by simp [Value.ownBlock]))
  clear hb hS hH
  go_wp2_with fail
  refine (HHL.out w15 hI).mono ?_
  rintro e w16 ⟨rfl, hb⟩
  replace hW := bel_step hW hb
  go_wp2
  go_ret
  exact ⟨rfl, hW⟩
end Go.Proofs.YtpadhcoboapodaaDoor
