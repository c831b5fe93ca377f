/- Contracts of the program's fill and doesAll upon the map of tables; all else stays. -/
import Derived.Test.YtdjoiehknpfigaaGreatSh6
import Derived.Test.YtdjoiehknpfigaaGreatDes0
namespace Go.Proofs.YtdjoiehknpfigaaGreat
open Go.RowKit

theorem fnd_none {ts : List TB} {n : ByteArray} (h : ∀ t ∈ ts, t.n ≠ n) : ¬ fndN ts n < ts.length := fun hi => h _ (tx_mem hi) (fndN_name hi)
theorem insN_end {t : TB} : ∀ {ts : List TB}, (∀ x ∈ ts, nlt x.n t.n = true) → insN ts t = ts ++ [t]
  | [], _ => rfl
  | y :: ts, h => by
    rw [insN_cons, if_pos (h y (by simp)), insN_end fun x hx => h x (List.mem_cons_of_mem _ hx)]; rfl
theorem take_less {ts : List TB} (h : SN ts) {k : Nat} (hk : k < ts.length) : ∀ x ∈ ts.take k, nlt x.n (tx ts k).n = true := fun x hx => by
  obtain ⟨j, hj, rfl⟩ := List.getElem_of_mem hx
  rw [List.length_take] at hj
  unfold SN at h
  rw [List.pairwise_iff_getElem] at h
  rw [tx_eq ts k hk, List.getElem_take]
  exact h j k (by omega) hk (by omega)
theorem bel_map {w w' : World} {m B : Nat} (hg : w.grownBy w' (some m)) (hm : B ≤ m) (hB : B ≤ w.heap.size) : Below B w w' := ⟨hg.os, hg.tape, hg.output, hg.size, fun k hk => hg.block k (by omega) (fun e => by have := Option.some.inj e; omega)⟩
set_option maxRecDepth 100000 in
set_option maxHeartbeats 4000000 in
theorem fill_any (m B : Nat) (us : List TB) (A : Option Addr) (c : Nat) (ts : List TB) (w : World) (hS : Sh w m us) (hT : Tabs w B A ts) (hBm : B ≤ m) (hb : baseB ts = true) :
    Calls Tryz.prog 37 #[.map (some m), .slice A ts.length c] w fun e w' => e = .returned (.tuple #[]) ∧ Sh w' m ts ∧ w.grownBy w' (some m) := by
  obtain ⟨_, hsn, hl4⟩ := base_iff.1 hb
  have hml := hS.lt
  obtain ⟨wc, hcl, hgc, hSc⟩ := hS.clear
  have HSN := Lib.hid hsn
  have HNM := Lib.hid (show ∀ j, j < ts.length → (tx ts j).n.size ≤ 6 from fun j hj => tab_name hb hj)
  have hTc := hT.below (bel_map hgc hBm (by omega))
  clear hS hsn hb
  go_enter Tryz.func37, Tryz.ntmps37
  go_wp2
  clear hcl
  go_loopw [9] (fun i wr => ∃ k : Nat, k ≤ ts.length ∧ i = .int .i64 k ∧ Sh wr m (ts.take k) ∧ wc.grownBy wr (some m)) (fun i _ => ts.length - (intOf i).toNat)
  case atStart => exact ⟨0, Nat.zero_le _, rfl, by simpa using hSc, ⟨rfl, rfl, rfl, Nat.le_refl _, fun _ _ _ => rfl⟩⟩
  case round =>
    obtain ⟨k, hk, rfl, hSr, hgr⟩ := hrel
    have hmc := hSc.lt
    have hTr := hTc.below (bel_map hgr hBm (by omega))
    have hmr := hSr.lt
    clear hSc
    by_cases hlt : k < ts.length
    · obtain ⟨b, off, Ar, cr, rfl, hbB, c0, c1, c2, hR⟩ := hTr.here hlt
      have bc := (Below.refl wr.heap.size wr).alloc (Nat.le_refl _) (.cells #[.string (tx ts k).n, .int .i64 (tx ts k).wd, .slice Ar (tx ts k).rows.length cr] 55)
      have hS1 := hSr.on bc
      have hn6 := HNM.out k hlt
      have hless := take_less HSN.out hlt
      have hno : ¬ fndN (ts.take k) (tx ts k).n < (ts.take k).length := fnd_none fun t ht => nlt_ne (hless t ht)
      have hsnk : SN (ts.take k) := HSN.out.sublist (List.take_sublist _ _)
      obtain ⟨w2, hup, hg2, hS2⟩ := hS1.put hsnk (by rw [List.length_take]; omega) (t := tx ts k) (by unfold maxLen; omega) (A := Ar) (c := cr) ((hR.more (by omega)).on bc)
      rw [if_neg hno, insN_end hless, show ts.take k ++ [tx ts k] = ts.take (k + 1) by rw [List.take_succ_eq_append_getElem hlt, ← tx_eq ts k hlt]] at hS2
      unfold tabV at hup
      have HS2 := Lib.hid hS2
      have HG := Lib.hid (grown_trans hgr (grown_trans (grown_any bc (some m)) hg2))
      have hk0 : (0 : Int) ≤ (k : Int) := Int.natCast_nonneg _
      have hk1 : (k : Int) < (ts.length : Int) := by omega
      clear hS1 hS2 hg2 hSr hgr bc hless hno hsnk hR hTr
      go_wp2
      go_roundw
      case rel => exact ⟨k + 1, by omega, by go_num, HS2.out, HG.out⟩
      case measure => simp [intOf]; omega
    · have hd : decide (k < ts.length) = false := by simpa using hlt
      have hSe : Sh wr m ts := by rw [List.take_of_length_le (by omega)] at hSr; exact hSr
      clear hSr
      go_wp2
      exact bodyPost_end (v := .tuple #[]) (by simp [results, Tryz.f37, go_sem]) rfl ⟨rfl, hSe, grown_trans hgc hgr⟩
/-- All of them, one after the other, up to the first that is refused. -/
def allD : List TB → List DL → List TB × Int
  | ts, [] => (ts, 0)
  | ts, d :: ds => if (doB ts d).2 = 0 then allD (doB ts d).1 ds else doB ts d
theorem allD_take {ts us : List TB} {ds : List DL} {k : Nat} (hk : k < ds.length) (h : allD ts ds = allD us (ds.drop k)) : allD ts ds = if (doB us (dlx ds k)).2 = 0 then allD (doB us (dlx ds k)).1 (ds.drop (k + 1)) else doB us (dlx ds k) := by
  rw [h, List.drop_eq_getElem_cons hk, ← dlx_eq ds k hk]; rfl
set_option maxRecDepth 100000 in
set_option maxHeartbeats 4000000 in
theorem doesAll_any (m B : Nat) (ts : List TB) (A : Option Addr) (c : Nat) (ds : List DL) (w : World) (hS : Sh w m ts) (hb : baseB ts = true) (hD : DLs w B A ds) (hBm : B ≤ m) (hf : fitD 1048576 ds) (hl : ds.length ≤ 1048576) :
    Calls Tryz.prog 38 #[.map (some m), .slice A ds.length c] w (MapAns (if ds.length ≤ 8 then allD ts ds else (ts, 4)) m w) := by
  by_cases h8 : 8 < ds.length
  · have hd : (8 : Int) < (ds.length : Int) := by omega
    rw [if_neg (by omega)]
    go_enter Tryz.func38, Tryz.ntmps38
    go_wp2
    go_ret
    exact MapAns.none_ rfl rfl hS (Below.refl _ _)
  have hd8 : decide ((8 : Int) < (ds.length : Int)) = false := by simp; omega
  rw [if_pos (by omega)]
  have HF := Lib.hid hf
  obtain ⟨P, hP⟩ : ∃ P, allD ts ds = P := ⟨_, rfl⟩
  rw [hP]
  clear hf
  have hml := hS.lt
  go_enter Tryz.func38, Tryz.ntmps38
  go_wp2
  go_loopw [13] (fun i wr => ∃ (k : Nat) (us : List TB), k ≤ ds.length ∧ i = .int .i64 k ∧ P = allD us (ds.drop k) ∧ baseB us = true ∧ Sh wr m us ∧ w.grownBy wr (some m)) (fun i _ => ds.length - (intOf i).toNat)
  case atStart => exact ⟨0, ts, Nat.zero_le _, rfl, by rw [List.drop_zero]; exact hP.symm, hb, hS, ⟨rfl, rfl, rfl, Nat.le_refl _, fun _ _ _ => rfl⟩⟩
  case round =>
    obtain ⟨k, us, hk, rfl, hPu, hbu, hSr, hgr⟩ := hrel
    have HPU := Lib.hid hPu
    have HBU := Lib.hid hbu
    have hDr := hD.below (bel_map hgr hBm (by omega))
    have hmr := hSr.lt
    clear hPu hbu hd8 hS hP hb
    by_cases hlt : k < ds.length
    · obtain ⟨b, off, Ar, cr, rfl, hbB, c0, c1, c2, hI⟩ := hDr.here hlt
      obtain ⟨f1, f2⟩ := HF.out k hlt
      have bc := (Below.refl wr.heap.size wr).alloc (Nat.le_refl _) (.cells #[.int .i64 (dlx ds k).k, .string (dlx ds k).n, .slice Ar (dlx ds k).z.length cr] 32)
      have hS1 := hSr.on bc
      have hI1 := (hI.more (show B ≤ wr.heap.size by omega)).on bc
      have hg1 := grown_trans hgr (grown_any bc (some m))
      have hk0 : (0 : Int) ≤ (k : Int) := Int.natCast_nonneg _
      have hk1 : (k : Int) < (ds.length : Int) := by omega
      clear hSr hgr hI bc hDr
      go_wp2_with fail
      generalize wr.alloc (.cells #[.int .i64 (dlx ds k).k, .string (dlx ds k).n, .slice Ar (dlx ds k).z.length cr] 32) = w1 at *
      refine (does_any m us (dlx ds k).k (dlx ds k).n Ar cr (dlx ds k).z w1 hS1 HBU.out hI1 f1 f2).mono ?_
      rintro e w2 ⟨rfl, hS2, hg2⟩
      have HD := Lib.hid (show ∀ q, doB us ⟨(dlx ds k).k, (dlx ds k).n, (dlx ds k).z⟩ = q → P = if q.2 = 0 then allD q.1 (ds.drop (k + 1)) else q from fun q hq => by
        rw [← hq, HPU.out, List.drop_eq_getElem_cons hlt, ← dlx_eq ds k hlt]; rfl)
      have HBN := Lib.hid (doB_base (d := ⟨(dlx ds k).k, (dlx ds k).n, (dlx ds k).z⟩) HBU.out)
      have HG := Lib.hid (grown_trans hg1 hg2)
      obtain ⟨⟨vs, cd⟩, hq⟩ : ∃ q, doB us ⟨(dlx ds k).k, (dlx ds k).n, (dlx ds k).z⟩ = q := ⟨_, rfl⟩
      have HPN := Lib.hid (HD.out _ hq)
      rw [hq] at hS2 HBN ⊢
      simp only at hS2 ⊢
      have HS2 := Lib.hid hS2
      clear hq HD hS2 hg2 hg1 hS1 hI1 c0 c1 c2
      by_cases h0 : cd = 0
      · subst h0
        go_wp2
        go_roundw
        case rel => exact ⟨k + 1, vs, by omega, by go_num, by rw [HPN.out]; rfl, HBN.out, HS2.out, HG.out⟩
        case measure => simp [intOf]; omega
      · have hne : (cd != 0) = true := by simpa using h0
        have HPE := Lib.hid (show P = (vs, cd) by rw [HPN.out, if_neg h0])
        clear h0
        go_wp2
        go_ret
        exact ⟨by rw [HPE.out]; rfl, by rw [HPE.out]; exact HS2.out, HG.out⟩
    · have hd : decide (k < ds.length) = false := by simpa using hlt
      have HPE := Lib.hid (show P = (us, 0) by rw [HPU.out, List.drop_of_length_le (by omega)]; rfl)
      have HSr := Lib.hid hSr
      have HG := Lib.hid hgr
      clear hSr hgr hDr
      go_wp2
      go_ret
      exact ⟨by rw [HPE.out]; rfl, by rw [HPE.out]; exact HSr.out, HG.out⟩
end Go.Proofs.YtdjoiehknpfigaaGreat
