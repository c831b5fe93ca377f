/- The model's Batched; nothing that lay has turned. -/
import Derived.Test.YtdjoiehknpfigaaGreatSp4
import Derived.Test.YtdjoiehknpfigaaGreatJZA
namespace Go.Proofs.YtdjoiehknpfigaaGreat
open Go.RowKit

theorem batchB_bad {ts : List TB} {ds : List DL} (h : baseB ts = false) : batchB ts ds = ([], 4) := by unfold batchB; rw [if_neg (by rw [h]; simp)]
theorem batchB_many {ts : List TB} {ds : List DL} (h : baseB ts = true) (h2 : ¬ ds.length ≤ 8) : batchB ts ds = (ts, 4) := by unfold batchB; rw [if_pos h, if_neg h2]
theorem batchB_all {ts : List TB} {ds : List DL} (h : baseB ts = true) (h2 : ds.length ≤ 8) : batchB ts ds = batD ts ts ds := by unfold batchB; rw [if_pos h, if_pos h2]
theorem dl_drop {ds : List DL} {k : Nat} (h : k < ds.length) : ds.drop k = dlx ds k :: ds.drop (k + 1) := by rw [dlx_eq ds k h, List.drop_eq_getElem_cons h]
set_option maxRecDepth 100000 in
set_option maxHeartbeats 1500000 in
theorem specBatched_any (A : Option Addr) (c : Nat) (ts : List TB) (A' : Option Addr) (c' : Nat) (ds : List DL) (w : World) (hT : Tabs w w.heap.size A ts) (hf : fitT 1048576 ts) (hl : ts.length ≤ 1048576) (hD : DLs w w.heap.size A' ds) (hfd : fitD 1048576 ds) (hld : ds.length ≤ 1048576) :
    Calls Tryz.prog 17 #[.slice A ts.length c, .slice A' ds.length c'] w (SAns w.heap.size (batchB ts ds) w) := by
  obtain ⟨P, hP⟩ : ∃ P, batchB ts ds = P := ⟨_, rfl⟩
  have HPQ := Lib.hid hP
  rw [hP]
  have HF := Lib.hid hf
  have HFD := Lib.hid hfd
  clear hf hP hfd
  go_enter Tryz.func17, Tryz.ntmps17
  go_wp2_with fail
  refine (specBaseOk_any A c ts w hT HF.out hl).mono ?_
  rintro e w1 ⟨rfl, hW1⟩
  cases hok : baseB ts with
  | false =>
    have HPE := Lib.hid (show P = ([], 4) by rw [← HPQ.out]; exact batchB_bad hok)
    clear hok
    have hE : SBs (w1.alloc (.cells #[] 55)) w.heap.size (.slice (some ⟨w1.heap.size, 0, none⟩) 0 0) [] := ⟨own_fresh w1 w.heap.size hW1.size, fun x hx => by cases hx⟩
    go_wp2
    refine bodyPost_ret (v := .tuple #[.slice (some ⟨w1.heap.size, 0, none⟩) 0 0, .int .i64 4]) (by simp [results, Tryz.f17, go_sem, *]) rfl ?_
    rw [HPE.out]
    exact ⟨_, [], rfl, hE, rfl, hW1.alloc hW1.size _⟩
  | true =>
    have HOK := Lib.hid hok
    have hT1 := hT.on hW1
    have HTW := Lib.hid (show ∀ W, Below w.heap.size w W → Tabs W W.heap.size A ts from fun W h => hT.on h)
    have HDW := Lib.hid (show ∀ W, Below w.heap.size w W → DLs W W.heap.size A' ds from fun W h => hD.on h)
    clear hok hT hD
    by_cases h8 : 8 < ds.length
    · have h8i : (8 : Int) < (ds.length : Int) := by omega
      have HPE := Lib.hid (show P = (ts, 4) by rw [← HPQ.out]; exact batchB_many HOK.out (by omega))
      go_wp2_with fail
      refine (l6Copy_any A c ts w1 hT1 HF.out hl).mono ?_
      rintro e w3 ⟨v, xs, rfl, hS, hd, hb⟩
      have hW3 := bel_step hW1 hb
      go_wp2
      refine bodyPost_ret (v := .tuple #[v, .int .i64 4]) (by simp [results, Tryz.f17, go_sem, *]) rfl ?_
      rw [HPE.out]
      exact ⟨v, xs, rfl, ⟨own_low hS.1 hW1.size, fun x hx => ⟨(hS.2 x hx).1.lower hW1.size, (hS.2 x hx).2⟩⟩, hd, hW3⟩
    · have h8d : decide ((8 : Int) < (ds.length : Int)) = false := decide_eq_false (by omega)
      have HPE := Lib.hid (show P = batD ts ts ds by rw [← HPQ.out]; exact batchB_all HOK.out (by omega))
      clear h8
      go_wp2_with fail
      refine (l6Copy_any A c ts w1 hT1 HF.out hl).mono ?_
      rintro e w3 ⟨v, xs, rfl, hS, hd, hb⟩
      have hW3 := bel_step hW1 hb
      have hS3 : SBs w3 w.heap.size v xs := ⟨own_low hS.1 hW1.size, fun x hx => ⟨(hS.2 x hx).1.lower hW1.size, (hS.2 x hx).2⟩⟩
      clear hS hb hT1 h8d
      go_wp2
      go_loopw [6, 7] (fun o i wr => ∃ (k : Nat) (t1 : List TB) (xs : List PX) (Ao : Option Addr) (co : Nat), k ≤ ds.length ∧ i = .int .i64 k ∧ o = .slice Ao t1.length co ∧ SBs wr w.heap.size o xs ∧ xs.map PX.t = t1 ∧ baseB t1 = true ∧ batD ts ts ds = batD ts t1 (ds.drop k) ∧ Below w.heap.size w wr) (fun _ i _ => ds.length - (intOf i).toNat)
      case atStart =>
        obtain ⟨Ao, co, hv⟩ := own_len hS3 hd
        exact ⟨0, ts, xs, Ao, co, Nat.zero_le _, rfl, hv, hS3, hd, HOK.out, by simp, hW3⟩
      case round =>
        clear hS3 hd hW3
        obtain ⟨k, t1, ys, Ao, co, hk, rfl, rfl, hSo, hdo, hok1, hbat, hW⟩ := hrel
        have HB := Lib.hid hbat
        have HO1 := Lib.hid hok1
        obtain ⟨hl1, htw1⟩ := base_tw hok1
        have hf1 : fitT 1048576 t1 := fitT_of (by omega)
        have hT1 := hSo.tabs hdo hf1
        have HF1 := Lib.hid hf1
        clear hbat hok1 hf1
        by_cases hlt : k < ds.length
        · obtain ⟨b, off, Ar, cr, rfl, hb, d0, d1, d2, hI⟩ := (HDW.out wr hW).here hlt
          obtain ⟨fn, fz⟩ := HFD.out k hlt
          go_wp2_with fail
          refine (specDoes_any Ao co t1 (dlx ds k).k (dlx ds k).n Ar cr (dlx ds k).z wr hT1 HF1.out (by omega) hI fn fz).mono ?_
          rintro e w4 ⟨v4, zs, rfl, hS4, hd4, hb4⟩
          have hW4 := bel_step hW hb4
          have hS4' : SBs w4 w.heap.size v4 zs := ⟨own_low hS4.1 hW.size, fun x hx => ⟨(hS4.2 x hx).1.lower hW.size, (hS4.2 x hx).2⟩⟩
          have hdo2 : doesB t1 (dlx ds k) = doB t1 (dlx ds k) := by unfold doesB; rw [if_pos HO1.out]
          have HST := Lib.hid (show batD ts t1 (ds.drop k) = if (doB t1 (dlx ds k)).2 = 0 then batD ts (doB t1 (dlx ds k)).1 (ds.drop (k + 1)) else (ts, (doB t1 (dlx ds k)).2) by rw [dl_drop hlt]; rfl)
          have HNB := Lib.hid (show baseB (doB t1 (dlx ds k)).1 = true from doB_base HO1.out)
          rw [show (⟨(dlx ds k).k, (dlx ds k).n, (dlx ds k).z⟩ : DL) = dlx ds k from rfl, hdo2] at hd4 ⊢
          clear hdo2 hS4 d0 d1 d2 hI hSo hdo hT1 hb4
          obtain ⟨Q, hQ⟩ : ∃ Q, doB t1 (dlx ds k) = Q := ⟨_, rfl⟩
          rw [hQ] at hd4 HST HNB ⊢
          obtain ⟨T4, C⟩ := Q
          clear hQ
          by_cases hC : C = 0
          · have HS2 := Lib.hid (show batD ts ts ds = batD ts T4 (ds.drop (k + 1)) by rw [HB.out, HST.out, if_pos hC])
            subst hC
            obtain ⟨A4, c4, rfl⟩ := own_len hS4' hd4
            go_wp2
            go_roundw
            case rel => exact ⟨k + 1, T4, zs, A4, c4, by omega, by go_num, rfl, hS4', hd4, HNB.out, HS2.out, hW4⟩
            case measure => simp [intOf]; omega
          · have hCb : (C == 0) = false := by simpa using hC
            have HS2 := Lib.hid (show P = (ts, C) by rw [HPE.out, HB.out, HST.out, if_neg hC])
            clear hC
            go_wp2_with fail
            refine (l6Copy_any A c ts w4 (HTW.out w4 hW4) HF.out hl).mono ?_
            rintro e w5 ⟨v5, xs5, rfl, hS5, hd5, hb5⟩
            have hW5 := bel_step hW4 hb5
            go_wp2
            refine bodyPost_ret (v := .tuple #[v5, .int .i64 C]) (by simp [results, Tryz.f17, go_sem, *]) rfl ?_
            rw [HS2.out]
            exact ⟨v5, xs5, rfl, ⟨own_low hS5.1 hW4.size, fun x hx => ⟨(hS5.2 x hx).1.lower hW4.size, (hS5.2 x hx).2⟩⟩, hd5, hW5⟩
        · have hdl : decide (k < ds.length) = false := by simpa using hlt
          have HS2 := Lib.hid (show P = (t1, 0) by rw [HPE.out, HB.out, List.drop_eq_nil_iff.2 (by omega)]; rfl)
          go_wp2
          refine bodyPost_ret (v := .tuple #[.slice Ao t1.length co, .int .i64 0]) (by simp [results, Tryz.f17, go_sem, *]) rfl ?_
          rw [HS2.out]
          exact ⟨_, ys, rfl, hSo, hdo, hW⟩
end Go.Proofs.YtdjoiehknpfigaaGreat
