/- The walk of laws.FnExactReadView: it returns true, and nothing that lay has turned. The library's variables and the program's forms lie as their texts lay them. -/
import Derived.Test.YtpadhcoboapodaaGreatDoorRv1
import Derived.Test.YtpadhcoboapodaaGreatDoorRv3
import Derived.Test.YtpadhcoboapodaaGreatDoorRv4
namespace Go.Proofs.YtpadhcoboapodaaGreatDoor
open Go.RowKit

theorem NOwn.under {w w' : World} {G B : Nat} {es : List NV} (h : NOwn w G es) (hb : Below B w w') (ht : ∀ x, theirs G es x → x < B) : NOwn w' G es := by
  refine ⟨?_, fun j hj hn => ?_, fun j hj hn => ?_, h.ne⟩
  · obtain ⟨cur, hB, hc⟩ := h.at_
    exact ⟨cur, hB.below hb (ht G (.inl rfl)), hc⟩
  · obtain ⟨hA, cur, hB, hc⟩ := h.cs j hj hn
    exact ⟨hA, cur, hB.below hb (ht _ (.inr ⟨j, hj, .inl ⟨hn, rfl⟩⟩)), hc⟩
  · obtain ⟨hA, cur, hB, hc⟩ := h.zs j hj hn
    exact ⟨hA, cur, Blk.below (t := 2) (cs := cur) hB hb (ht _ (.inr ⟨j, hj, .inr ⟨hn, rfl⟩⟩)), hc⟩
theorem kNd_few {m : Nat} {es : List NV} (h : ∀ j, j < es.length → (nvx es j).d.c.length ≤ 3 ∧ (nvx es j).d.z.length ≤ 6) : ∀ j, j ≤ es.length → kNd m es j ≤ m + 21 * j
  | 0, _ => by rw [kNd_zero]; omega
  | j + 1, hj => by
    have h1 := kNd_few (m := m) h j (by omega)
    have h2 := h j (by omega)
    rw [kNd_succ (by omega)]
    unfold wN
    omega
theorem specV_few {s : List UInt8} : (((specV s).getD [])).length ≤ 9 ∧ ∀ j, j < ((specV s).getD []).length → nodeB (ndx ((specV s).getD []) j) = true := by
  cases h : specV s with
  | none => exact ⟨Nat.zero_le _, fun j hj => absurd hj (by simp)⟩
  | some v =>
    obtain ⟨hv, _⟩ := specV_is h
    exact ⟨(viewB_all hv).2.2, fun j hj => view_right hv hj⟩
theorem node_few {d : Nd} (h : nodeB d = true) : d.c.length ≤ 3 ∧ d.z.length ≤ 6 := by
  obtain ⟨q, hr⟩ := right_of h
  obtain ⟨_, _, hc, _, _⟩ := nodeB_all h
  refine ⟨?_, hr.len⟩
  unfold condsD at hc
  split at hc
  · exact (rightB_iff.1 hc).2
  · have := of_decide_eq_true hc; omega
set_option maxRecDepth 100000 in
set_option maxHeartbeats 8000000 in
theorem walkFnExactReadView (s : ByteArray) (w : World) (w0 : s.size ≤ maxLen) (hL : LaidAll w) (hF : FormsAt w) :
    Calls Tryz.prog 3 #[.string s] w fun e w' => e = .returned (.bool true) ∧ Below w.heap.size w w' := by
  unfold maxLen at w0
  by_cases hbig : 1048576 < s.size
  · have hb : decide ((1048576 : Int) < (s.size : Int)) = true := by simp; omega
    go_enter Tryz.func3, Tryz.ntmps3
    go_wp2
    go_ret
    exact ⟨rfl, Below.refl _ _⟩
  have hb : decide ((1048576 : Int) < (s.size : Int)) = false := by simp; omega
  obtain ⟨hl9, hnd⟩ := specV_few (s := bl s)
  have HSP := Lib.hid (show ∀ W, Calls Tryz.prog 4 #[.string s] W (RvAns (specV (bl s)) W) from fun W => specReadView_any s W (by omega))
  have HIM := Lib.hid (show ∀ W, Below w.heap.size w W → Calls Tryz.prog 5 #[.string s] W (RvAns (specV (bl s)) W) from fun W h => by
    rw [← implV_same]; exact implReadView_any s W (by omega) (hF.on h) (hL.on h))
  clear hbig w0 hL hF
  unfold RvAns at HSP HIM
  generalize (specV (bl s)).isSome = ok at *
  obtain ⟨v, hv⟩ : ∃ v, (specV (bl s)).getD [] = v := ⟨_, rfl⟩
  rw [hv] at HSP HIM hl9 hnd
  have hft : fitN 1048576 v := fun j hj => node_fit (hnd j hj)
  have HFT := Lib.hid hft
  have HND := Lib.hid hnd
  have hok : (ok != ok) = false := by simp
  clear hv hft hnd
  go_enter Tryz.func3, Tryz.ntmps3
  go_wp2_with fail
  refine (HSP.out w).mono ?_
  rintro e w1 ⟨Gw, cw, ews, rfl, hew, OW, tW, hW⟩
  have hwl : ews.length = v.length := by rw [← hew, List.length_map]
  rw [hwl]
  go_wp2_with fail
  refine (HIM.out w1 hW).mono ?_
  rintro e w3 ⟨Gg, cg, egs, rfl, heg, OG, tG, hb3⟩
  have hgl : egs.length = v.length := by rw [← heg, List.length_map]
  rw [hgl]
  have hs1 : w.heap.size ≤ w1.heap.size := hW.size
  have HTW := Lib.hid (show ∀ x, theirs Gw ews x → x < w1.heap.size from fun x hx => (tW x hx).2)
  have hs3 : w1.heap.size ≤ w3.heap.size := hb3.size
  replace hW := bel_step hW hb3
  replace OW := OW.on hb3
  clear hb3 tW
  go_wp2_with fail
  refine (eqNodeS_same (some ⟨Gg, 0, none⟩) (some ⟨Gw, 0, none⟩) cg cw v w3 (OG.nds heg) (OW.nds hew) HFT.out (by omega)).mono ?_
  rintro e w5 ⟨rfl, hb5⟩
  replace hW := bel_step hW hb5
  replace OG := OG.on hb5
  replace OW := OW.on hb5
  have hs5 : w1.heap.size ≤ w5.heap.size := Nat.le_trans hs3 hb5.size
  have hfe : ∀ j, j < egs.length → (nvx egs j).d.c.length ≤ 3 ∧ (nvx egs j).d.z.length ≤ 6 := fun j hj => by
    have h1 : ndx v j = (nvx egs j).d := by rw [ndx_eq v j (by omega), nvx_eq egs j hj]; simp [← heg]
    rw [← h1]
    exact node_few (HND.out j (by omega))
  have hfb : ∀ j, j < egs.length → (nvx egs j).d.c.length ≤ 1048576 ∧ (nvx egs j).d.z.length ≤ 1048576 := fun j hj => by have := hfe j hj; omega
  have hkf := kNd_few (m := 1) hfe egs.length (Nat.le_refl _)
  have hk1 := kNd_mono (m := 1) (es := egs) egs.length 0 (by omega)
  rw [kNd_zero, Nat.zero_add] at hk1
  have HMK := Lib.hid (markNodeS_any Gg cg 1 egs w5 OG (by omega) hfb (Nat.le_refl _) (by omega))
  have HHE := Lib.hid (show ∀ W, NOwn W Gg (mkVs 1 egs egs.length) → Calls Tryz.prog 8 #[.slice (some ⟨Gg, 0, none⟩) egs.length cg, .int .i64 (1 : Nat)] W (fun e w' => e = .returned (.int .i64 ((kNd 1 egs egs.length : Nat) : Int)) ∧ Below W.heap.size W w') from fun W h => heldNodeS_any (some ⟨Gg, 0, none⟩) cg 1 egs W (h.nds rfl) (by omega) hfb (Nat.le_refl _) (by omega))
  have HTG := Lib.hid tG
  obtain ⟨Q, hQ⟩ : ∃ Q : Nat, kNd 1 egs egs.length = Q := ⟨_, rfl⟩
  rw [hQ, hgl] at HMK HHE
  have hq0 : decide ((Q : Int) < 0) = false := by simp
  have hqq : ((Q : Int) != (Q : Int)) = false := by simp
  clear hb5 hQ hkf hk1 hfe hfb OG
  go_wp2_with fail
  refine HMK.out.mono ?_
  rintro e w6 ⟨rfl, OG6, k6⟩
  have hbA : Below w1.heap.size w5 w6 := k6.below hs5 (fun k hk hx => by have := (HTG.out k hx).1; omega)
  replace OW := OW.under hbA HTW.out
  replace hW := hW.trans (hbA.mono hs1)
  clear k6 hbA
  go_wp2_with fail
  refine (HHE.out w6 OG6).mono ?_
  rintro e w7 ⟨rfl, hb7⟩
  replace hW := bel_step hW hb7
  replace OG6 := OG6.on hb7
  replace OW := OW.on hb7
  clear hb7
  go_wp2_with fail
  refine (HIM.out w7 hW).mono ?_
  rintro e w8 ⟨Gh, ch, ehs, rfl, heh, OH, tH, hb8⟩
  have hhl : ehs.length = v.length := by rw [← heh, List.length_map]
  rw [hhl]
  replace hW := bel_step hW hb8
  replace OG6 := OG6.on hb8
  replace OW := OW.on hb8
  clear hb8 tH
  go_wp2_with fail
  refine (eqNodeS_same (some ⟨Gh, 0, none⟩) (some ⟨Gw, 0, none⟩) ch cw v w8 (OH.nds heh) (OW.nds hew) HFT.out (by omega)).mono ?_
  rintro e w10 ⟨rfl, hb10⟩
  replace hW := bel_step hW hb10
  replace OG6 := OG6.on hb10
  clear hb10 OH OW
  go_wp2_with fail
  refine (HHE.out w10 OG6).mono ?_
  rintro e w11 ⟨rfl, hb11⟩
  replace hW := bel_step hW hb11
  go_wp2
  go_ret
  exact ⟨rfl, hW⟩
end Go.Proofs.YtpadhcoboapodaaGreatDoor
