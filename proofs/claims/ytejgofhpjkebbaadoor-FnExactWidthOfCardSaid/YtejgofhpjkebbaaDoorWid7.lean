/- The program's WidthOf: what it returns; nothing that lay has turned. The program's own variable lies as the text lays it. -/
import Derived.Test.YtejgofhpjkebbaaDoorWid4
import Derived.Test.YtejgofhpjkebbaaDoorJC
import Derived.Deep.RegionLaw
import Derived.Deep.DeepCutAuto
import Derived.Deep.CutBlock
namespace Go.Proofs.YtejgofhpjkebbaaDoor
open Go.RowKit

theorem one_at {w : World} {b o : Nat} {u : Value} (h : w.cell? ⟨b, o, none⟩ = some u) : ∀ j v, [u][j]? = some v → w.cell? (Addr.add ⟨b, o, none⟩ j) = some v := by
  intro j v hv
  match j, hv with
  | 0, hv =>
    have e : u = v := by simpa using hv
    subst e
    simpa [Addr.add] using h
theorem two_at {w : World} {b o : Nat} {u u' : Value} (h : w.cell? ⟨b, o, none⟩ = some u) (h' : w.cell? ⟨b, o + 1, none⟩ = some u') : ∀ j v, [u, u'][j]? = some v → w.cell? (Addr.add ⟨b, o, none⟩ j) = some v := by
  intro j v hv
  match j, hv with
  | 0, hv =>
    have e : u = v := by simpa using hv
    subst e
    simpa [Addr.add] using h
  | 1, hv =>
    have e : u' = v := by simpa using hv
    subst e
    simpa [Addr.add] using h'
theorem ret_pair (x : Int) (b b' : Bool) (h : b = b') : Ending.returned (.tuple #[.int .i64 x, .bool b]) = .returned (.tuple #[.int .i64 x, .bool b']) := by rw [h]
def closW (ts : List TB) (d : Nd) (a1 a2 : Int) : Int := if d.k = 1 then tabWd ts d.n else stepW d a1 a2
set_option maxRecDepth 100000 in
set_option maxHeartbeats 2000000 in
theorem closW_any (A : Option Addr) (c : Nat) (ts : List TB) (d : Nd) (Ac : Option Addr) (cc : Nat) (Az : Option Addr) (cz : Nat) (a1 a2 : Int) (pb : Nat) (w : World) (hbx : w.cell? ⟨pb, 0, none⟩ = some (.slice A ts.length c)) (hpb : pb < w.heap.size) (hT : Tabs w w.heap.size A ts) (hft : fitT 1048576 ts) (hlT : ts.length ≤ 1048576) (hC : Cnds w w.heap.size Ac d.c) (hZ : Ints w w.heap.size Az d.z) (hfd : fitD 1048576 d) (hF : FormsAt w) :
    Calls Tryd.prog 22 #[.agg #[.int .i64 d.k, .string d.n, .slice Ac d.c.length cc, .slice Az d.z.length cz, .int .i64 d.p], .int .i64 a1, .int .i64 a2, .pointer (some ⟨pb, 0, none⟩)] w fun e w' => e = .returned (.tuple #[.int .i64 (closW ts d a1 a2), .bool (closW ts d a1 a2 != -1)]) ∧ Below w.heap.size w w' := by
  have bc := (Below.refl w.heap.size w).alloc (Nat.le_refl _) (.cells #[.int .i64 d.k, .string d.n, .slice Ac d.c.length cc, .slice Az d.z.length cz, .int .i64 d.p] 50)
  have BN := Blk.new w 50 #[.int .i64 d.k, .string d.n, .slice Ac d.c.length cc, .slice Az d.z.length cz, .int .i64 d.p]
  have hbx1 := (bc.cell (p := ⟨pb, 0, none⟩) hpb).trans hbx
  have hT1 := hT.on bc
  have hC1 := hC.on bc
  have hZ1 := hZ.on bc
  have hF1 := hF.on bc
  have hpb1 := Nat.lt_of_lt_of_le hpb bc.size
  obtain ⟨W, hW⟩ : ∃ W, closW ts d a1 a2 = W := ⟨_, rfl⟩
  rw [hW]
  have HW := Lib.hid hW
  clear hW hT hC hZ hF
  go_enter Tryd.func22, Tryd.ntmps22
  obtain ⟨b0, b1, b2, b3, b4⟩ := BN.c5
  go_upto_region 1 with fail
  generalize w.alloc (.cells #[.int .i64 d.k, .string d.n, .slice Ac d.c.length cc, .slice Az d.z.length cz, .int .i64 d.p] 50) = wa at *
  go_wp2_with fail
  refine (implStepWidth_any d Ac cc Az cz a1 a2 wa hC1 hZ1 hfd hF1).mono ?_
  rintro e w3 ⟨rfl, hb3⟩
  have BN3 := BN.on hb3
  have hbx3 := (hb3.cell (p := ⟨pb, 0, none⟩) hpb1).trans hbx1
  have hT3 := hT1.on hb3
  have hb03 := bel_step bc hb3
  clear b0 b1 b2 b3 b4 BN bc hbx1 hT1 hC1 hZ1 hF1 hb3 hbx hpb
  obtain ⟨b0, b1, b2, b3, b4⟩ := BN3.c5
  by_cases hk1 : d.k = 1
  · have hkb : (d.k == 1) = true := by simpa using hk1
    have HE := Lib.hid (show tabWd ts d.n = W by rw [← HW.out]; unfold closW; rw [if_pos hk1])
    clear hk1
    go_wp2_with fail
    refine (tableWidth_any A c ts d.n w3 hT3 hft hlT).mono ?_
    rintro e w4 ⟨rfl, hb4⟩
    rw [HE.out]
    have hb04 := bel_step hb03 hb4
    clear b0 b1 b2 b3 b4 BN3 hbx3 hT3 hb03 hb4
    go_wp2
    refine bodyPost_ret (v := .tuple #[.int .i64 W, .bool (W != -1)]) (by simp [results, Tryd.f22, go_sem, *]) rfl ?_
    exact ⟨rfl, hb04⟩
  · have hkb : (d.k == 1) = false := by simpa using hk1
    have HE := Lib.hid (show stepW d a1 a2 = W by rw [← HW.out]; unfold closW; rw [if_neg hk1])
    clear hk1
    rw [HE.out]
    go_wp2
    refine bodyPost_ret (v := .tuple #[.int .i64 W, .bool (W != -1)]) (by simp [results, Tryd.f22, go_sem, *]) rfl ?_
    exact ⟨rfl, hb03⟩

theorem make_i64 (n : Nat) (hn : n ≤ 1099511627776) (w : World) : (Instr.makeSlice 40 (.int .i64 0) (.int .i64 (n : Int))).run Tryd.prog w = .ok (.slice (some ⟨w.heap.size, 0, none⟩) 0 n) (w.alloc (.cells (madeCells #[.int .i64 0] n) 2)) := by
  obtain ⟨i, hi, hz, hs, hby⟩ := info_parts info_i64
  have := run_make (P := Tryd.prog) w 40 2 i (.int .i64 0) Tryd.underlying40 hi hz .i64 .i64 0 (n : Int) (by omega) (by omega) (by rw [hby]; omega) (by omega)
  rw [hs] at this
  simpa [Value.cells] using this
set_option maxRecDepth 100000 in
set_option maxHeartbeats 8000000 in
theorem eachWidth_any (A A2 : Option Addr) (c c2 : Nat) (ts : List TB) (v : List Nd) (pb : Nat) (w : World) (hbx : w.cell? ⟨pb, 0, none⟩ = some (.slice A ts.length c)) (hpb : pb < w.heap.size) (hT : Tabs w w.heap.size A ts) (hft : fitT 1048576 ts) (hlT : ts.length ≤ 1048576) (hN : Nds w w.heap.size A2 v) (hfn : fitN 1048576 v) (hF : FormsAt w) (hb : baseB ts = true) (hv : viewB v = true) :
    Calls Tryd.prog 21 #[.slice A2 v.length c2, .func (.func 22) #[] #[.pointer (some ⟨pb, 0, none⟩)]] w fun e w' => Below w.heap.size w w' ∧ ((∃ v', e = .returned (.tuple #[v', .bool false]) ∧ widthV ts v = -1) ∨ ∃ g n, (∃ c, e = .returned (.tuple #[.slice (some ⟨g, 0, none⟩) (n + 1) c, .bool true])) ∧ n ≤ 9 ∧ w'.cell? ⟨g, n, none⟩ = some (.int .i64 (widthV ts v))) := by
  obtain ⟨R, hR⟩ : ∃ R, widthV ts v = R := ⟨_, rfl⟩
  have HR := Lib.hid hR
  rw [hR]
  clear hR
  obtain ⟨i0, hi0, hz0, hz1, hz2⟩ := info_parts info_i64
  have hsz : (Tryd.prog.info? 2).map (·.size) = some 1 := by rw [hi0, Option.map_some, hz1]
  have HPB := Lib.hid (And.intro hbx hpb)
  have HFN := Lib.hid hfn
  have HFT := Lib.hid hft
  have HT := Lib.hid (show ∀ W, Below w.heap.size w W → Tabs W W.heap.size A ts from fun W h => hT.on h)
  have HN := Lib.hid (show ∀ W, Below w.heap.size w W → Nds W W.heap.size A2 v from fun W h => hN.on h)
  have HFA := Lib.hid (show ∀ W, Below w.heap.size w W → FormsAt W from fun W h => hF.on h)
  have HV := Lib.hid (viewB_all hv)
  have HG := Lib.hid (pile_good hb hv)
  have hl9 := (viewB_all hv).2.2
  have hbnd := freeAt_bound v
  have hmk := make_i64 v.length (by omega) w
  have bc1 := (Below.refl w.heap.size w).alloc (Nat.le_refl _) (.cells (madeCells #[.int .i64 0] v.length) 2)
  have bc2 := bc1.alloc bc1.size (.cells #[] 2)
  have o1 : (w.alloc (.cells (madeCells #[.int .i64 0] v.length) 2)).ownsRow w.heap.size 2 1 (.slice (some ⟨w.heap.size, 0, none⟩) 0 v.length) 0 (([] : List Int).map (Value.int .i64)) := World.ownsRow_made w _ v.length (Nat.le_refl _) (by simp only [maxLen]; omega) (by rw [size_madeCells]; omega)
  have o2 : ((w.alloc (.cells (madeCells #[.int .i64 0] v.length) 2)).alloc (.cells #[] 2)).ownsRow w.heap.size 2 1 (.slice (some ⟨(w.alloc (.cells (madeCells #[.int .i64 0] v.length) 2)).heap.size, 0, none⟩) 0 0) 0 (([] : List Int).map (Value.int .i64)) := World.ownsRow_made _ #[] 0 bc1.size (Nat.zero_le _) rfl
  rw [World.size_alloc] at o2
  have st0 : ISt ts v w 0 [] (w.heap.size + 1) 0 ((w.alloc (.cells (madeCells #[.int .i64 0] v.length) 2)).alloc (.cells #[] 2)) := ⟨rfl, o2, bc2⟩
  have hal0 := o1.alloc (.cells #[] 2)
  have hne0 : w.heap.size ≠ w.heap.size + 1 := by omega
  clear hT hN hF hbx hpb hfn hft o1 o2 bc1 bc2
  go_enter Tryd.func21, Tryd.ntmps21
  go_wp2
  go_loopw [6, 7, 20] (fun u6 u7 i wr => ∃ (k : Nat) (p : List Int) (g c : Nat) (outs : List Int) (g2 c6 : Nat), k ≤ v.length ∧ i = .int .i64 k ∧ u7 = .slice (some ⟨g, 0, none⟩) p.length c ∧ u6 = .slice (some ⟨g2, 0, none⟩) k c6 ∧ ISt ts v w k p g c wr ∧ wr.ownsRow w.heap.size 2 1 (.slice (some ⟨g2, 0, none⟩) k c6) k (outs.map (Value.int .i64)) ∧ g2 ≠ g ∧ outs.length = k ∧ outs.getLast? = p.getLast?) (fun _ _ i _ => v.length - (intOf i).toNat)
  case atStart => exact ⟨0, [], _, 0, [], w.heap.size, v.length, Nat.zero_le _, rfl, rfl, rfl, st0, hal0, hne0, rfl, rfl⟩
  case round =>
    clear st0 hal0
    obtain ⟨k, p, g, c5, outs, g2, c6, hk, rfl, rfl, rfl, hst, hal, hg2, hol, hlast⟩ := hrel
    have HAL := Lib.hid hal
    have HOL := Lib.hid hol
    have HLA := Lib.hid hlast
    have hg2l : g2 < wr.heap.size := (hal.lt g2 rfl).2
    have hg2b : w.heap.size ≤ g2 := (hal.lt g2 rfl).1
    clear hal hol hlast
    have HST := Lib.hid hst
    have hbel := hst.bel
    have hgl : g < wr.heap.size := (hst.own.lt g rfl).2
    have hgb : w.heap.size ≤ g := (hst.own.lt g rfl).1
    clear hst
    by_cases hlt : k < v.length
    · obtain ⟨b, off, Ac, cc, Az, cz, rfl, hbk, n0, n1, n2, n3, n4, hC, hZ⟩ := (HN.out wr hbel).here hlt
      obtain ⟨hpl, hall⟩ := HG.out k p hk HST.out.pl
      have hok := HV.out.1 k hlt
      unfold okNd at hok
      rw [Bool.and_eq_true, decide_eq_true_eq] at hok
      have hLp : looksN (ndx v k).k ≤ p.length := by omega
      have HOK := Lib.hid hok.1
      have HALL := Lib.hid hall
      have hpk : p.length ≤ 9 := by have := freeAt_bound v k hk; omega
      have HPS := Lib.hid (pileW_seen hb hok.1 hLp hall)
      obtain ⟨q, hq, q1, q7⟩ := kind_nat (nodeB_all hok.1).1
      have hlf : looksF q = looksN (ndx v k).k := by rw [hq]; exact looksF_eq q1
      have hkk0 : 0 ≤ (ndx v k).k := by omega
      have hkk8 : (ndx v k).k < 8 := by omega
      have hktn : (ndx v k).k.toNat = q := by omega
      have HLF := Lib.hid hlf
      have HLP := Lib.hid hLp
      clear hok hpl hall hq
      obtain ⟨W, hW⟩ : ∃ W, pileW ts (ndx v k) p = W := ⟨_, rfl⟩
      have HW := Lib.hid hW
      clear hW
      obtain ⟨pn, hpn⟩ : ∃ pn, p.length = pn := ⟨_, rfl⟩
      obtain ⟨pl, hpl⟩ : ∃ pl, pn - looksF q = pl := ⟨_, rfl⟩
      have hwl : IntKind.i64.wrap ((pn : Int) - ((looksF q : Nat) : Int)) = (pl : Int) := by rw [IntKind.wrap_i64]; omega
      have bc := (Below.refl wr.heap.size wr).alloc (Nat.le_refl _) (.cells #[.int .i64 (ndx v k).k, .string (ndx v k).n, .slice Ac (ndx v k).c.length cc, .slice Az (ndx v k).z.length cz, .int .i64 (ndx v k).p] 50)
      have B1 := Blk.new wr 50 #[.int .i64 (ndx v k).k, .string (ndx v k).n, .slice Ac (ndx v k).c.length cc, .slice Az (ndx v k).z.length cz, .int .i64 (ndx v k).p]
      obtain ⟨b0, b1, b2, b3, b4⟩ := B1.c5
      obtain ⟨f0, f1, f2, f3⟩ := ((HFA.out wr hbel).on bc) q (by omega)
      have bc2 := bc.alloc bc.size (.cells #[.int .i64 0, .int .i64 0] 72)
      have B2 := B1.alloc (.cells #[.int .i64 0, .int .i64 0] 72)
      have BL := Blk.new (wr.alloc (.cells #[.int .i64 (ndx v k).k, .string (ndx v k).n, .slice Ac (ndx v k).c.length cc, .slice Az (ndx v k).z.length cz, .int .i64 (ndx v k).p] 50)) 72 #[.int .i64 0, .int .i64 0]
      rw [World.size_alloc] at BL
      have hown2 := (HST.out.own.alloc (.cells #[.int .i64 (ndx v k).k, .string (ndx v k).n, .slice Ac (ndx v k).c.length cc, .slice Az (ndx v k).z.length cz, .int .i64 (ndx v k).p] 50)).alloc (.cells #[.int .i64 0, .int .i64 0] 72)
      rw [hpn]
      have hal2 := (HAL.out.alloc (.cells #[.int .i64 (ndx v k).k, .string (ndx v k).n, .slice Ac (ndx v k).c.length cc, .slice Az (ndx v k).z.length cz, .int .i64 (ndx v k).p] 50)).alloc (.cells #[.int .i64 0, .int .i64 0] 72)
      have HCZ := Lib.hid (show ∀ W, Below wr.heap.size wr W → Cnds W W.heap.size Ac (ndx v k).c ∧ Ints W W.heap.size Az (ndx v k).z from fun W h => ⟨hC.on h, hZ.on h⟩)
      clear hC hZ hlf hLp
      go_upto_region 9 with fail
      have hsb : ((wr.alloc (.cells #[.int .i64 (ndx v k).k, .string (ndx v k).n, .slice Ac (ndx v k).c.length cc, .slice Az (ndx v k).z.length cz, .int .i64 (ndx v k).p] 50)).alloc (.cells #[.int .i64 0, .int .i64 0] 72)).heap.size = wr.heap.size + 1 + 1 := by rw [World.size_alloc, World.size_alloc]
      generalize (wr.alloc (.cells #[.int .i64 (ndx v k).k, .string (ndx v k).n, .slice Ac (ndx v k).c.length cc, .slice Az (ndx v k).z.length cz, .int .i64 (ndx v k).p] 50)).alloc (.cells #[.int .i64 0, .int .i64 0] 72) = wb at *
      rw [hpn] at hown2
      have HX := Lib.hid (And.intro BL (And.intro hown2 (And.intro B2 bc2)))
      have HA := Lib.hid hal2
      clear hal2 BL hown2 B2 bc2 bc b0 b1 b2 b3 b4 f0 f1 f2 f3 B1 n0 n1 n2 n3 n4
      go_cut [36] (fun _ wx => wx.ownsRow w.heap.size 2 1 (.slice (some ⟨g2, 0, none⟩) k c6) k (outs.map (Value.int .i64)) ∧ wx.ownsRow w.heap.size 2 1 (.slice (some ⟨g, 0, none⟩) pn c5) pn (p.map (Value.int .i64)) ∧ Blk wx wr.heap.size 50 #[.int .i64 (ndx v k).k, .string (ndx v k).n, .slice Ac (ndx v k).c.length cc, .slice Az (ndx v k).z.length cz, .int .i64 (ndx v k).p] ∧ Blk wx (wr.heap.size + 1) 72 #[.int .i64 (ix (seen (ndx v k) p) 0), .int .i64 (ix (seen (ndx v k) p) 1)] ∧ Below wr.heap.size wr wx)
      case first =>
        obtain ⟨_, cap, hvc, hcap, _, _, hcell⟩ : ∃ (_ : Nat) (cap : Nat), Value.slice (some ⟨g, 0, none⟩) pn c5 = .slice (some ⟨g, 0, none⟩) pn cap ∧ pn ≤ cap ∧ True ∧ True ∧ ∀ j, j < pn → wb.cell? ⟨g, j, none⟩ = some (.int .i64 (ix p j)) := by
          rcases Nat.eq_zero_or_pos pn with h0 | h0
          · exact ⟨0, c5, rfl, by omega, trivial, trivial, fun j hj => absurd hj (by omega)⟩
          · obtain ⟨g', cap, h1, h2, _, _, h3⟩ := own_cells HX.out.2.1 h0
            injection h1 with e1 e2 e3
            injection e1 with e1
            injection e1 with e1 _ _
            subst e1 e3
            exact ⟨0, c5, rfl, h2, trivial, trivial, h3⟩
        injection hvc with _ _ e3
        subst e3
        have hpl0 : (0 : Int) ≤ (pl : Int) := by omega
        have hpc : (pl : Int) ≤ (pn : Int) := by omega
        have hpn5 : (pn : Int) ≤ (c5 : Int) := by omega
        have h3 : looksF q = 0 ∨ looksF q = 1 ∨ looksF q = 2 := by have := looksF_le q; omega
        rcases h3 with h | h | h
        · have hl0 : looksN (ndx v k).k = 0 := by have := HLF.out; omega
          have HSE := Lib.hid (show ix (seen (ndx v k) p) 0 = 0 ∧ ix (seen (ndx v k) p) 1 = 0 by rw [seen_0 hl0]; exact ⟨rfl, rfl⟩)
          obtain rfl : pl = pn := by omega
          by_cases hc : c5 = pl
          · subst hc
            clear h hcell hl0
            go_wp2_with fail
            go_region_law (first | (refine step_copy_grown (by rfl) (.tmp 32) (.tmp 35) 40 40 (by rfl) 2 Tryd.underlying40 hsz (some ⟨wr.heap.size + 1, 0, none⟩) (some ⟨g, 0, none⟩) 2 2 0 0 (by rfl) (by rfl) (wr.heap.size + 1) 0 [.int .i64 0, .int .i64 0] 72 (by exact HX.out.1) [] (by rfl) (fun h => absurd h (by simp)) (by simp) (by simp [Value.oneCell']) ?_; intro w7 h7 hg7 hs7))
            all_goals
              have hg7' := grown_trans (grown_drewN wb 1 (some (wr.heap.size + 1))) hg7
              have bl7 : Blk w7 (wr.heap.size + 1) 72 #[.int .i64 0, .int .i64 0] := by have := h7.out; unfold Blk; simpa [splice] using this
              have hs := HSE.out
              clear h7 hg7 hs7
              go_wp2_with fail
              go_meet
              rw [hs.1, hs.2]
              exact ⟨HA.out.kept hg7' (.inr (by simp [Value.ownBlock]; omega)), HX.out.2.1.kept hg7' (.inr (by simp [Value.ownBlock]; omega)), HX.out.2.2.1.grown hg7' (fun e => by injection e with e; omega), bl7, HX.out.2.2.2.grown hg7' (by omega) (fun r e => by injection e with e; omega)⟩
          · clear h hcell hl0
            go_wp2_with fail
            go_region_law (first | (refine step_copy_grown (by rfl) (.tmp 32) (.tmp 35) 40 40 (by rfl) 2 Tryd.underlying40 hsz (some ⟨wr.heap.size + 1, 0, none⟩) (some ⟨g, pl, none⟩) 2 2 0 (c5 - pl) (by rfl) (by rfl) (wr.heap.size + 1) 0 [.int .i64 0, .int .i64 0] 72 (by exact HX.out.1) [] (by rfl) (fun h => absurd h (by simp)) (by simp) (by simp [Value.oneCell']) ?_; intro w7 h7 hg7 hs7))
            all_goals
              have hg7' := grown_trans (grown_drewN wb 1 (some (wr.heap.size + 1))) hg7
              have bl7 : Blk w7 (wr.heap.size + 1) 72 #[.int .i64 0, .int .i64 0] := by have := h7.out; unfold Blk; simpa [splice] using this
              have hs := HSE.out
              clear h7 hg7 hs7
              go_wp2_with fail
              go_meet
              rw [hs.1, hs.2]
              exact ⟨HA.out.kept hg7' (.inr (by simp [Value.ownBlock]; omega)), HX.out.2.1.kept hg7' (.inr (by simp [Value.ownBlock]; omega)), HX.out.2.2.1.grown hg7' (fun e => by injection e with e; omega), bl7, HX.out.2.2.2.grown hg7' (by omega) (fun r e => by injection e with e; omega)⟩
        · have hl0 : looksN (ndx v k).k = 1 := by have := HLF.out; omega
          have h1 : pn = pl + 1 := by have := HLP.out; omega
          have HSE := Lib.hid (show ix (seen (ndx v k) p) 0 = ix p pl ∧ ix (seen (ndx v k) p) 1 = 0 by
            obtain ⟨q2, a, rfl⟩ := split1 (p := p) (by omega)
            rw [seen_1 hl0]
            have : pl = q2.length := by simp at hpn; omega
            rw [this, ix_last]; exact ⟨rfl, rfl⟩)
          have p0 := hcell pl (by omega)
          have hsl : pn - pl = 1 := by omega
          have hne : ¬ c5 = pl := by omega
          clear h hcell hl0 h1
          go_wp2_with fail
          go_region_law (first | (refine step_copy_grown (by rfl) (.tmp 32) (.tmp 35) 40 40 (by rfl) 2 Tryd.underlying40 hsz (some ⟨wr.heap.size + 1, 0, none⟩) (some ⟨g, pl, none⟩) 2 2 1 (c5 - pl) (by rfl) (by rfl) (wr.heap.size + 1) 0 [.int .i64 0, .int .i64 0] 72 (by exact HX.out.1) [.int .i64 (ix p pl)] (by rfl) (fun _ => ⟨rfl, _, rfl, one_at (by exact p0)⟩) (by simp) (by simp [Value.oneCell']) ?_; intro w7 h7 hg7 hs7))
          all_goals
            have hg7' := grown_trans (grown_drewN wb 1 (some (wr.heap.size + 1))) hg7
            have bl7 : Blk w7 (wr.heap.size + 1) 72 #[.int .i64 (ix p pl), .int .i64 0] := by have := h7.out; unfold Blk; simpa [splice] using this
            have hs := HSE.out
            clear h7 hg7 hs7
            go_wp2_with fail
            go_meet
            rw [hs.1, hs.2]
            exact ⟨HA.out.kept hg7' (.inr (by simp [Value.ownBlock]; omega)), HX.out.2.1.kept hg7' (.inr (by simp [Value.ownBlock]; omega)), HX.out.2.2.1.grown hg7' (fun e => by injection e with e; omega), bl7, HX.out.2.2.2.grown hg7' (by omega) (fun r e => by injection e with e; omega)⟩
        · have hl0 : looksN (ndx v k).k = 2 := by have := HLF.out; omega
          have h1 : pn = pl + 2 := by have := HLP.out; omega
          have HSE := Lib.hid (show ix (seen (ndx v k) p) 0 = ix p pl ∧ ix (seen (ndx v k) p) 1 = ix p (pl + 1) by
            obtain ⟨q2, a, b', rfl⟩ := split2 (p := p) (by omega)
            rw [seen_2 hl0]
            have : pl = q2.length := by simp at hpn; omega
            rw [this]
            exact ⟨by simp [ix], by simp [ix]⟩)
          have p0 := hcell pl (by omega)
          have p1 := hcell (pl + 1) (by omega)
          have hsl : pn - pl = 2 := by omega
          have hne : ¬ c5 = pl := by omega
          clear h hcell hl0 h1
          go_wp2_with fail
          go_region_law (first | (refine step_copy_grown (by rfl) (.tmp 32) (.tmp 35) 40 40 (by rfl) 2 Tryd.underlying40 hsz (some ⟨wr.heap.size + 1, 0, none⟩) (some ⟨g, pl, none⟩) 2 2 2 (c5 - pl) (by rfl) (by rfl) (wr.heap.size + 1) 0 [.int .i64 0, .int .i64 0] 72 (by exact HX.out.1) [.int .i64 (ix p pl), .int .i64 (ix p (pl + 1))] (by rfl) (fun _ => ⟨rfl, _, rfl, two_at (by exact p0) (by exact p1)⟩) (by simp) (by simp [Value.oneCell']) ?_; intro w7 h7 hg7 hs7))
          all_goals
            have hg7' := grown_trans (grown_drewN wb 1 (some (wr.heap.size + 1))) hg7
            have bl7 : Blk w7 (wr.heap.size + 1) 72 #[.int .i64 (ix p pl), .int .i64 (ix p (pl + 1))] := by have := h7.out; unfold Blk; simpa [splice] using this
            have hs := HSE.out
            clear h7 hg7 hs7
            go_wp2_with fail
            go_meet
            rw [hs.1, hs.2]
            exact ⟨HA.out.kept hg7' (.inr (by simp [Value.ownBlock]; omega)), HX.out.2.1.kept hg7' (.inr (by simp [Value.ownBlock]; omega)), HX.out.2.2.1.grown hg7' (fun e => by injection e with e; omega), bl7, HX.out.2.2.2.grown hg7' (by omega) (fun r e => by injection e with e; omega)⟩
      case rest =>
        clear HX HA
        obtain ⟨hal, ho, bN, bL, hbl⟩ := hcut
        obtain ⟨b0, b1, b2, b3, b4⟩ := bN.c5
        have l0 := bL.cell 0
        have l1 := bL.cell 1
        simp only [List.getElem?_toArray, List.getElem?_cons_zero, List.getElem?_cons_succ] at l0 l1
        have HCW := Lib.hid (show closW ts (ndx v k) (ix (seen (ndx v k) p) 0) (ix (seen (ndx v k) p) 1) = W by
          rw [← HW.out]; unfold closW
          by_cases h : (ndx v k).k = 1
          · rw [if_pos h]; exact (HPS.out.2.1 h).symm
          · rw [if_neg h]; exact HPS.out.2.2 h)
        generalize ix (seen (ndx v k) p) 0 = a1 at *
        generalize ix (seen (ndx v k) p) 1 = a2 at *
        have hWc := bel_step hbel hbl
        clear bL hsb
        go_wp2_with fail
        go_at_call 22
        refine (closW_any A c ts (ndx v k) Ac cc Az cz a1 a2 pb wc ((hWc.cell (p := ⟨pb, 0, none⟩) HPB.out.2).trans HPB.out.1) (by have := hWc.size; have := HPB.out.2; omega) (HT.out wc hWc) HFT.out hlT (HCZ.out wc hbl).1 (HCZ.out wc hbl).2 (HFN.out k hlt) (HFA.out wc hWc)).mono ?_
        rintro e w3 ⟨rfl, hb3⟩
        rw [HCW.out]
        have ho3 := ho.kept (grown_of_below hb3) (.inr (by simp [Value.ownBlock]))
        have hal3 := hal.kept (grown_of_below hb3) (.inr (by simp [Value.ownBlock]))
        have hbl3 : Below wr.heap.size wr w3 := bel_step hbl hb3
        have hW3 := bel_step hbel hbl3
        clear b0 b1 b2 b3 b4 l0 l1 ho hal bN hb3 hbl hWc
        by_cases hw : W = -1
        · have HNO := Lib.hid (show R = -1 by rw [← HR.out]; exact widthV_none (pile_stop HST.out.pl hlt (by rw [HW.out, hw]; decide)))
          have hwb : (W != -1) = false := by simpa using hw
          rw [hwb]
          clear hw hwb
          go_wp2
          refine bodyPost_ret (v := .tuple #[.slice (some ⟨w3.heap.size, 0, none⟩) 0 0, .bool false]) (by simp [results, Tryd.f21, go_sem, *]) rfl ?_
          exact ⟨hW3.alloc hW3.size _, .inl ⟨_, rfl, HNO.out⟩⟩
        · have hwb : (W != -1) = true := by simpa using hw
          rw [hwb]
          have hneg : ¬ W < 0 := fun h => hw (by have := HPS.out.1 (by rw [HW.out]; exact h); rw [HW.out] at this; exact this)
          have HPL := Lib.hid (pile_step HST.out.pl (by rw [HW.out]; exact hneg))
          rw [HW.out, ← HLF.out, hpn, hpl] at HPL
          have hoc := own_cut ho3 (m := pl) (by omega)
          have hpl9 : pl ≤ 9 := by omega
          have hpc : (pl : Int) ≤ (c5 : Int) := by
            rcases hoc.2 with ⟨h1, _⟩ | ⟨_, _, _, h1, _, _, h2, _⟩
            · cases h1
            · injection h1 with _ _ e3
              omega
          have hplen : (p.take pl ++ [W]).length = pl + 1 := by rw [List.length_append, List.length_take, List.length_singleton]; omega
          have hk9 : k ≤ 9 := by omega
          have hszc := hW3.size
          have hg3c : wr.heap.size ≤ w3.heap.size := hbl3.size
          have HLEN := Lib.hid hplen
          clear ho3 hw hwb hneg hplen
          go_wp2_with (at_builtin; first
            | (refine wpList_append_any _ rfl (.tmp 50) (.tmp 52) 40 rfl w.heap.size 2 i0 (.int .i64 0) 1 8 Tryd.underlying40 hi0 hz0 hz1 hz2 rfl (by decide) (.slice (some ⟨g2, 0, none⟩) k c6) k (outs.map (Value.int .i64)) rfl (hal3.alloc _) _ (some ⟨w3.heap.size, 0, none⟩) 1 1 [.int .i64 W] rfl (reads_newW _ _ _) (by simp [Value.oneCell']) (by simp only [maxLen]; omega) (by omega) (by rw [World.size_alloc]; omega) ?_; intro v4 w4 hown4 hgrow4 hat4; obtain ⟨g4, c4, rfl⟩ := own_some hown4; have hoc4 := (hoc.alloc (.cells #[.int .i64 W] 2)).kept hgrow4 (.inr (by simp [Value.ownBlock]; omega)); have hs4 : w3.heap.size + 1 ≤ w4.heap.size := by have := hgrow4.size; rw [World.size_alloc] at this; exact this)
            | (refine wpList_append_any _ rfl (.tmp 56) (.tmp 58) 40 rfl w.heap.size 2 i0 (.int .i64 0) 1 8 Tryd.underlying40 hi0 hz0 hz1 hz2 rfl (by decide) (.slice (some ⟨g, 0, none⟩) pl c5) pl ((p.take pl).map (Value.int .i64)) rfl (hoc4.alloc _) _ (some ⟨w4.heap.size, 0, none⟩) 1 1 [.int .i64 W] rfl (reads_newW _ _ _) (by simp [Value.oneCell']) (by simp only [maxLen]; omega) (by omega) (by rw [World.size_alloc]; omega) ?_; intro v3 w5 hown5 hgrow5 hat5))
          obtain ⟨g5, c5', rfl⟩ := own_some hown5
          have hg4 : g4 = g2 ∨ w3.heap.size < g4 := by
            rcases hat4 with h | h
            · exact .inl (Option.some.inj h)
            · right; have h2 := Option.some.inj h; simp [World.size_alloc] at h2; omega
          have hg4l : g4 < w4.heap.size := (hown4.lt g4 rfl).2
          have hg5 : g5 = g ∨ w4.heap.size < g5 := by
            rcases hat5 with h | h
            · exact .inl (Option.some.inj h)
            · right; have h2 := Option.some.inj h; simp [World.size_alloc] at h2; omega
          have hne : g4 ≠ g5 := by rcases hg4 with h | h <;> rcases hg5 with h' | h' <;> omega
          have hb4 : Below w.heap.size w w4 := (hW3.alloc hW3.size _).grown hgrow4 (by rw [World.size_alloc]; omega) (fun x hx => (hal3.lt x hx).1)
          have hb5 : Below w.heap.size w w5 := (hb4.alloc hb4.size _).grown hgrow5 (by rw [World.size_alloc]; omega) (fun x hx => (hoc4.lt x hx).1)
          have hal5 := (hown4.alloc (.cells #[.int .i64 W] 2)).kept hgrow5 (.inr (by simp [Value.ownBlock]; rcases hg4 with h | h <;> omega))
          have HS5 := Lib.hid (show ISt ts v w (k + 1) (p.take pl ++ [W]) g5 c5' w5 from ⟨HPL.out, by rw [HLEN.out]; simpa using hown5, hb5⟩)
          have HA5 := Lib.hid (show w5.ownsRow w.heap.size 2 1 (.slice (some ⟨g4, 0, none⟩) (k + 1) c4) (k + 1) ((outs ++ [W]).map (Value.int .i64)) by simpa using hal5)
          have HL5 := Lib.hid (show (outs ++ [W]).length = k + 1 by rw [List.length_append, HOL.out]; rfl)
          have HG5 := Lib.hid hne
          clear hown4 hgrow4 hat4 hoc4 hown5 hgrow5 hat5 hb4 hb5 hal5 hal3 hoc hne hg4 hg5 hbl3 hW3
          go_wp2
          go_roundw
          case rel => exact ⟨k + 1, _, g5, c5', outs ++ [W], g4, c4, by omega, by go_num, by rw [HLEN.out], rfl, HS5.out, HA5.out, HG5.out, HL5.out, by rw [List.getLast?_concat, List.getLast?_concat]⟩
          case measure => simp [intOf]; omega
    · have hd : decide (k < v.length) = false := by simpa using hlt
      obtain rfl : k = v.length := by omega
      have hg := HG.out _ p (Nat.le_refl _) HST.out.pl
      have hf1 := HV.out.2.1
      have h1 : p.length = 1 := by omega
      have HE := Lib.hid (show R = ix p 0 by
        rw [← HR.out, widthV_some hb hv HST.out.pl, h1])
      obtain ⟨m, hm⟩ : ∃ m, v.length = m + 1 := ⟨v.length - 1, by
        have hpe : p ≠ [] := fun e => by rw [e] at h1; simp at h1
        have hoe : outs ≠ [] := fun e => by
          have h2 := HLA.out
          rw [e] at h2
          cases p with
          | nil => exact hpe rfl
          | cons a l => simp [List.getLast?_cons] at h2
        have h3 := List.length_pos_iff.2 hoe
        rw [HOL.out] at h3
        omega⟩
      have hlast : ix outs m = R := by
        rw [HE.out]
        have h2 := HLA.out
        rw [List.getLast?_eq_getElem?, List.getLast?_eq_getElem?, HOL.out, h1, hm] at h2
        simp only [Nat.add_sub_cancel] at h2
        unfold ix
        simp only [Nat.sub_self] at h2
        rw [h2]
      obtain ⟨g', cap, e1, _, _, _, hcell⟩ := own_cells HAL.out (by omega)
      injection e1 with e1 _ _
      injection e1 with e1
      injection e1 with e1 _ _
      subst e1
      have hc0 := hcell m (by omega)
      rw [hlast] at hc0
      have HC0 := Lib.hid hc0
      have hm9 : m ≤ 9 := by omega
      have HM := Lib.hid hm
      clear hcell hg hf1 h1 hc0 hlast hm
      go_wp2
      refine bodyPost_ret (v := .tuple #[.slice (some ⟨g2, 0, none⟩) v.length c6, .bool true]) (by simp [results, Tryd.f21, go_sem, *]) rfl ?_
      exact ⟨hbel, .inr ⟨g2, m, ⟨c6, by rw [HM.out]⟩, hm9, HC0.out⟩⟩

set_option maxRecDepth 100000 in
set_option maxHeartbeats 4000000 in
theorem implWidthOf_any (A A2 : Option Addr) (c c2 : Nat) (ts : List TB) (v : List Nd) (w : World) (hT : Tabs w w.heap.size A ts) (hft : fitT 1048576 ts) (hlT : ts.length ≤ 1048576) (hN : Nds w w.heap.size A2 v) (hfn : fitN 1048576 v) (hF : FormsAt w) :
    Calls Tryd.prog 9 #[.slice A ts.length c, .slice A2 v.length c2] w fun e w' => e = .returned (.int .i64 (widthV ts v)) ∧ Below w.heap.size w w' := by
  obtain ⟨R, hR⟩ : ∃ R, widthV ts v = R := ⟨_, rfl⟩
  have HR := Lib.hid hR
  rw [hR]
  clear hR
  have bx := (Below.refl w.heap.size w).alloc (Nat.le_refl _) (.cells #[.slice A ts.length c] 27)
  have BX := Blk.new w 27 #[.slice A ts.length c]
  have hT1 := hT.on bx
  have hN1 := hN.on bx
  have hF1 := hF.on bx
  have hpb := BX.lt
  have hc0 := BX.cell 0
  simp only [List.getElem?_toArray, List.getElem?_cons_zero] at hc0
  clear hT hN hF BX
  go_enter Tryd.func9, Tryd.ntmps9
  go_upto_region 1 with fail
  generalize w.alloc (.cells #[.slice A ts.length c] 27) = wa at *
  go_wp2_with fail
  refine (implBaseOk_any A c ts wa hT1 hft hlT).mono ?_
  rintro e w1 ⟨rfl, hb1⟩
  have hW1 := bel_step bx hb1
  have hT2 := hT1.on hb1
  have hN2 := hN1.on hb1
  have hF2 := hF1.on hb1
  have hc1 := (hb1.cell (p := ⟨w.heap.size, 0, none⟩) hpb).trans hc0
  have hpb1 := Nat.lt_of_lt_of_le hpb hb1.size
  clear hT1 hN1 hF1 hb1 hc0 hpb bx
  cases hb : baseB ts with
  | false =>
    have HE := Lib.hid (show R = -1 by rw [← HR.out]; exact widthV_no fun h => by rw [hb] at h; cases h.1)
    clear hb
    go_wp2
    go_ret
    exact ⟨ret_int HE.out.symm, hW1⟩
  | true =>
  have HB := Lib.hid hb
  clear hb
  go_wp2_with fail
  refine (implViewOk_any A2 c2 v w1 hN2 hfn hF2).mono ?_
  rintro e w2 ⟨rfl, hb2⟩
  have hW2 := bel_step hW1 hb2
  have hT3 := hT2.on hb2
  have hN3 := hN2.on hb2
  have hF3 := hF2.on hb2
  have hc2 := (hb2.cell (p := ⟨w.heap.size, 0, none⟩) hpb1).trans hc1
  have hpb2 := Nat.lt_of_lt_of_le hpb1 hb2.size
  clear hT2 hN2 hF2 hb2 hc1 hpb1 hW1
  cases hv : viewB v with
  | false =>
    have HE := Lib.hid (show R = -1 by rw [← HR.out]; exact widthV_no fun h => by rw [hv] at h; cases h.2)
    clear hv
    go_wp2
    go_ret
    exact ⟨ret_int HE.out.symm, hW2⟩
  | true =>
  have HVB := Lib.hid hv
  clear hv
  go_wp2_with fail
  refine (eachWidth_any A A2 c c2 ts v w.heap.size w2 hc2 hpb2 hT3 hft hlT hN3 hfn hF3 HB.out HVB.out).mono ?_
  rintro e w3 ⟨hb3, hans⟩
  have hW3 := bel_step hW2 hb3
  clear hT3 hN3 hF3 hc2 hpb2 hb3 hW2
  rcases hans with ⟨v', rfl, hr⟩ | ⟨g, n, ⟨c3, rfl⟩, hn9, hr⟩
  · have HE := Lib.hid (hr.symm.trans HR.out)
    clear hr
    go_wp2
    go_ret
    exact ⟨ret_int HE.out, hW3⟩
  · rw [HR.out] at hr
    have hn0 : (0 : Int) ≤ (n : Int) := Int.natCast_nonneg _
    have hn1 : (n : Int) < (n : Int) + 1 := by omega
    have hnw : wrap64 (n : Int) = n := by unfold wrap64; omega
    go_wp2
    go_ret
    exact ⟨ret_int rfl, hW3⟩
end Go.Proofs.YtejgofhpjkebbaaDoor
