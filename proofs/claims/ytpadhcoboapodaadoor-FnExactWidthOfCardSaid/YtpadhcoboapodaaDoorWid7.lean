/- The program's WidthOf: what it returns; nothing that lay has turned. The program's own variable lies as the text lays it. -/
import Derived.Test.YtpadhcoboapodaaDoorWid4
import Derived.Test.YtpadhcoboapodaaDoorJC
import Derived.Deep.RegionLaw
import Derived.Deep.DeepCutAuto
import Derived.Deep.CutBlock
namespace Go.Proofs.YtpadhcoboapodaaDoor
open Go.RowKit

theorem one_at {w : World} {b o : Nat} {u : Value} (h : w.cell? ⟨b, o, none⟩ = some u) : ∀ j v, [u][j]? = some v → w.cell? (Addr.add ⟨b, o, none⟩ j) = some v := by
  intro j v hv
  match j, hv with
  | 0, hv =>
    have e : u = v := by simpa using hv
    subst e
    simpa [Addr.add] using h
theorem two_at {w : World} {b o : Nat} {u u' : Value} (h : w.cell? ⟨b, o, none⟩ = some u) (h' : w.cell? ⟨b, o + 1, none⟩ = some u') : ∀ j v, [u, u'][j]? = some v → w.cell? (Addr.add ⟨b, o, none⟩ j) = some v := by
  intro j v hv
  match j, hv with
  | 0, hv =>
    have e : u = v := by simpa using hv
    subst e
    simpa [Addr.add] using h
  | 1, hv =>
    have e : u' = v := by simpa using hv
    subst e
    simpa [Addr.add] using h'
set_option maxRecDepth 100000 in
set_option maxHeartbeats 4000000 in
theorem implWidthOf_any (A A2 : Option Addr) (c c2 : Nat) (ts : List TB) (v : List Nd) (w : World) (hT : Tabs w w.heap.size A ts) (hft : fitT 1048576 ts) (hlT : ts.length ≤ 1048576) (hN : Nds w w.heap.size A2 v) (hfn : fitN 1048576 v) (hF : FormsAt w) :
    Calls Tryd.prog 16 #[.slice A ts.length c, .slice A2 v.length c2] w fun e w' => e = .returned (.int .i64 (widthV ts v)) ∧ Below w.heap.size w w' := by
  obtain ⟨R, hR⟩ : ∃ R, widthV ts v = R := ⟨_, rfl⟩
  have HR := Lib.hid hR
  rw [hR]
  clear hR
  obtain ⟨i0, hi0, hz0, hz1, hz2⟩ := info_parts info_i64
  have hsz : (Tryd.prog.info? 2).map (·.size) = some 1 := by rw [hi0, Option.map_some, hz1]
  have HFN := Lib.hid hfn
  have HFT := Lib.hid hft
  have HT := Lib.hid (show ∀ W, Below w.heap.size w W → Tabs W W.heap.size A ts from fun W h => hT.on h)
  have HN := Lib.hid (show ∀ W, Below w.heap.size w W → Nds W W.heap.size A2 v from fun W h => hN.on h)
  have HFA := Lib.hid (show ∀ W, Below w.heap.size w W → FormsAt W from fun W h => hF.on h)
  go_enter Tryd.func16, Tryd.ntmps16
  go_wp2_with fail
  refine (implBaseOk_any A c ts w hT hft hlT).mono ?_
  rintro e w1 ⟨rfl, hW1⟩
  clear hT hN hF
  cases hb : baseB ts with
  | false =>
    have HE := Lib.hid (show R = -1 by rw [← HR.out]; exact widthV_no fun h => by rw [hb] at h; cases h.1)
    clear hb
    go_wp2
    go_ret
    exact ⟨ret_int HE.out.symm, hW1⟩
  | true =>
  have HB := Lib.hid hb
  clear hb
  go_wp2_with fail
  refine (implViewOk_any A2 c2 v w1 (HN.out w1 hW1) hfn (HFA.out w1 hW1)).mono ?_
  rintro e w2 ⟨rfl, hb2⟩
  have hW2 := bel_step hW1 hb2
  clear hb2
  cases hv : viewB v with
  | false =>
    have HE := Lib.hid (show R = -1 by rw [← HR.out]; exact widthV_no fun h => by rw [hv] at h; cases h.2)
    clear hv
    go_wp2
    go_ret
    exact ⟨ret_int HE.out.symm, hW2⟩
  | true =>
  have HV := Lib.hid (viewB_all hv)
  have HVB := Lib.hid hv
  have HG := Lib.hid (pile_good HB.out hv)
  have hl9 := (viewB_all hv).2.2
  have hbnd := freeAt_bound v
  have bc2 := hW2.alloc hW2.size (.cells #[] 2)
  have o2 : (w2.alloc (.cells #[] 2)).ownsRow w.heap.size 2 1 (.slice (some ⟨w2.heap.size, 0, none⟩) 0 0) 0 (([] : List Int).map (Value.int .i64)) := World.ownsRow_made w2 #[] 0 hW2.size (Nat.zero_le _) rfl
  have st0 : ISt ts v w 0 [] w2.heap.size 0 (w2.alloc (.cells #[] 2)) := ⟨rfl, o2, bc2⟩
  clear hv hfn hft o2 bc2
  go_wp2
  go_loopw [5, 22] (fun u5 i wr => ∃ (k : Nat) (p : List Int) (g c : Nat), k ≤ v.length ∧ i = .int .i64 k ∧ u5 = .slice (some ⟨g, 0, none⟩) p.length c ∧ ISt ts v w k p g c wr) (fun _ i _ => v.length - (intOf i).toNat)
  case atStart => exact ⟨0, [], w2.heap.size, 0, Nat.zero_le _, rfl, rfl, st0⟩
  case round =>
    clear st0 hW1 hW2
    obtain ⟨k, p, g, c5, hk, rfl, rfl, hst⟩ := hrel
    have HST := Lib.hid hst
    have hbel := hst.bel
    have hgl : g < wr.heap.size := (hst.own.lt g rfl).2
    have hgb : w.heap.size ≤ g := (hst.own.lt g rfl).1
    clear hst
    by_cases hlt : k < v.length
    · obtain ⟨b, off, Ac, cc, Az, cz, rfl, hbk, n0, n1, n2, n3, n4, hC, hZ⟩ := (HN.out wr hbel).here hlt
      obtain ⟨hpl, hall⟩ := HG.out k p hk HST.out.pl
      have hok := HV.out.1 k hlt
      unfold okNd at hok
      rw [Bool.and_eq_true, decide_eq_true_eq] at hok
      have hLp : looksN (ndx v k).k ≤ p.length := by omega
      have HOK := Lib.hid hok.1
      have HALL := Lib.hid hall
      have hpk : p.length ≤ 9 := by have := freeAt_bound v k hk; omega
      have HPS := Lib.hid (pileW_seen HB.out hok.1 hLp hall)
      obtain ⟨q, hq, q1, q7⟩ := kind_nat (nodeB_all hok.1).1
      have hlf : looksF q = looksN (ndx v k).k := by rw [hq]; exact looksF_eq q1
      have hkk0 : 0 ≤ (ndx v k).k := by omega
      have hkk8 : (ndx v k).k < 8 := by omega
      have hktn : (ndx v k).k.toNat = q := by omega
      have HLF := Lib.hid hlf
      have HLP := Lib.hid hLp
      clear hok hpl hall hq
      obtain ⟨W, hW⟩ : ∃ W, pileW ts (ndx v k) p = W := ⟨_, rfl⟩
      have HW := Lib.hid hW
      clear hW
      obtain ⟨pn, hpn⟩ : ∃ pn, p.length = pn := ⟨_, rfl⟩
      obtain ⟨pl, hpl⟩ : ∃ pl, pn - looksF q = pl := ⟨_, rfl⟩
      have hwl : IntKind.i64.wrap ((pn : Int) - ((looksF q : Nat) : Int)) = (pl : Int) := by rw [IntKind.wrap_i64]; omega
      have bc := (Below.refl wr.heap.size wr).alloc (Nat.le_refl _) (.cells #[.int .i64 (ndx v k).k, .string (ndx v k).n, .slice Ac (ndx v k).c.length cc, .slice Az (ndx v k).z.length cz, .int .i64 (ndx v k).p] 30)
      have B1 := Blk.new wr 30 #[.int .i64 (ndx v k).k, .string (ndx v k).n, .slice Ac (ndx v k).c.length cc, .slice Az (ndx v k).z.length cz, .int .i64 (ndx v k).p]
      obtain ⟨b0, b1, b2, b3, b4⟩ := B1.c5
      obtain ⟨f0, f1, f2, f3⟩ := ((HFA.out wr hbel).on bc) q (by omega)
      have bc2 := bc.alloc bc.size (.cells #[.int .i64 0, .int .i64 0] 76)
      have B2 := B1.alloc (.cells #[.int .i64 0, .int .i64 0] 76)
      have BL := Blk.new (wr.alloc (.cells #[.int .i64 (ndx v k).k, .string (ndx v k).n, .slice Ac (ndx v k).c.length cc, .slice Az (ndx v k).z.length cz, .int .i64 (ndx v k).p] 30)) 76 #[.int .i64 0, .int .i64 0]
      rw [World.size_alloc] at BL
      have hown2 := (HST.out.own.alloc (.cells #[.int .i64 (ndx v k).k, .string (ndx v k).n, .slice Ac (ndx v k).c.length cc, .slice Az (ndx v k).z.length cz, .int .i64 (ndx v k).p] 30)).alloc (.cells #[.int .i64 0, .int .i64 0] 76)
      rw [hpn]
      have HCZ := Lib.hid (show ∀ W, Below wr.heap.size wr W → Cnds W W.heap.size Ac (ndx v k).c ∧ Ints W W.heap.size Az (ndx v k).z from fun W h => ⟨hC.on h, hZ.on h⟩)
      clear hC hZ hlf hLp
      go_upto_region 9 with fail
      have hsb : ((wr.alloc (.cells #[.int .i64 (ndx v k).k, .string (ndx v k).n, .slice Ac (ndx v k).c.length cc, .slice Az (ndx v k).z.length cz, .int .i64 (ndx v k).p] 30)).alloc (.cells #[.int .i64 0, .int .i64 0] 76)).heap.size = wr.heap.size + 1 + 1 := by rw [World.size_alloc, World.size_alloc]
      generalize (wr.alloc (.cells #[.int .i64 (ndx v k).k, .string (ndx v k).n, .slice Ac (ndx v k).c.length cc, .slice Az (ndx v k).z.length cz, .int .i64 (ndx v k).p] 30)).alloc (.cells #[.int .i64 0, .int .i64 0] 76) = wb at *
      rw [hpn] at hown2
      have HX := Lib.hid (And.intro BL (And.intro hown2 (And.intro B2 bc2)))
      clear BL hown2 B2 bc2 bc b0 b1 b2 b3 b4 f0 f1 f2 f3 B1 n0 n1 n2 n3 n4
      go_cut [38] (fun _ wx => wx.ownsRow w.heap.size 2 1 (.slice (some ⟨g, 0, none⟩) pn c5) pn (p.map (Value.int .i64)) ∧ Blk wx wr.heap.size 30 #[.int .i64 (ndx v k).k, .string (ndx v k).n, .slice Ac (ndx v k).c.length cc, .slice Az (ndx v k).z.length cz, .int .i64 (ndx v k).p] ∧ Blk wx (wr.heap.size + 1) 76 #[.int .i64 (ix (seen (ndx v k) p) 0), .int .i64 (ix (seen (ndx v k) p) 1)] ∧ Below wr.heap.size wr wx)
      case first =>
        obtain ⟨_, cap, hvc, hcap, _, _, hcell⟩ : ∃ (_ : Nat) (cap : Nat), Value.slice (some ⟨g, 0, none⟩) pn c5 = .slice (some ⟨g, 0, none⟩) pn cap ∧ pn ≤ cap ∧ True ∧ True ∧ ∀ j, j < pn → wb.cell? ⟨g, j, none⟩ = some (.int .i64 (ix p j)) := by
          rcases Nat.eq_zero_or_pos pn with h0 | h0
          · exact ⟨0, c5, rfl, by omega, trivial, trivial, fun j hj => absurd hj (by omega)⟩
          · obtain ⟨g', cap, h1, h2, _, _, h3⟩ := own_cells HX.out.2.1 h0
            injection h1 with e1 e2 e3
            injection e1 with e1
            injection e1 with e1 _ _
            subst e1 e3
            exact ⟨0, c5, rfl, h2, trivial, trivial, h3⟩
        injection hvc with _ _ e3
        subst e3
        have hpl0 : (0 : Int) ≤ (pl : Int) := by omega
        have hpc : (pl : Int) ≤ (pn : Int) := by omega
        have hpn5 : (pn : Int) ≤ (c5 : Int) := by omega
        have h3 : looksF q = 0 ∨ looksF q = 1 ∨ looksF q = 2 := by have := looksF_le q; omega
        rcases h3 with h | h | h
        · have hl0 : looksN (ndx v k).k = 0 := by have := HLF.out; omega
          have HSE := Lib.hid (show ix (seen (ndx v k) p) 0 = 0 ∧ ix (seen (ndx v k) p) 1 = 0 by rw [seen_0 hl0]; exact ⟨rfl, rfl⟩)
          obtain rfl : pl = pn := by omega
          by_cases hc : c5 = pl
          · subst hc
            clear h hcell hl0
            go_wp2_with fail
            go_region_law (first | (refine step_copy_grown (by rfl) (.tmp 34) (.tmp 37) 23 23 (by rfl) 2 Tryd.underlying23 hsz (some ⟨wr.heap.size + 1, 0, none⟩) (some ⟨g, 0, none⟩) 2 2 0 0 (by rfl) (by rfl) (wr.heap.size + 1) 0 [.int .i64 0, .int .i64 0] 76 (by exact HX.out.1) [] (by rfl) (fun h => absurd h (by simp)) (by simp) (by simp [Value.oneCell']) ?_; intro w7 h7 hg7 hs7))
            all_goals
              have hg7' := grown_trans (grown_drewN wb 1 (some (wr.heap.size + 1))) hg7
              have bl7 : Blk w7 (wr.heap.size + 1) 76 #[.int .i64 0, .int .i64 0] := by have := h7.out; unfold Blk; simpa [splice] using this
              have hs := HSE.out
              clear h7 hg7 hs7
              go_wp2_with fail
              go_meet
              rw [hs.1, hs.2]
              exact ⟨HX.out.2.1.kept hg7' (.inr (by simp [Value.ownBlock]; omega)), HX.out.2.2.1.grown hg7' (fun e => by injection e with e; omega), bl7, HX.out.2.2.2.grown hg7' (by omega) (fun r e => by injection e with e; omega)⟩
          · clear h hcell hl0
            go_wp2_with fail
            go_region_law (first | (refine step_copy_grown (by rfl) (.tmp 34) (.tmp 37) 23 23 (by rfl) 2 Tryd.underlying23 hsz (some ⟨wr.heap.size + 1, 0, none⟩) (some ⟨g, pl, none⟩) 2 2 0 (c5 - pl) (by rfl) (by rfl) (wr.heap.size + 1) 0 [.int .i64 0, .int .i64 0] 76 (by exact HX.out.1) [] (by rfl) (fun h => absurd h (by simp)) (by simp) (by simp [Value.oneCell']) ?_; intro w7 h7 hg7 hs7))
            all_goals
              have hg7' := grown_trans (grown_drewN wb 1 (some (wr.heap.size + 1))) hg7
              have bl7 : Blk w7 (wr.heap.size + 1) 76 #[.int .i64 0, .int .i64 0] := by have := h7.out; unfold Blk; simpa [splice] using this
              have hs := HSE.out
              clear h7 hg7 hs7
              go_wp2_with fail
              go_meet
              rw [hs.1, hs.2]
              exact ⟨HX.out.2.1.kept hg7' (.inr (by simp [Value.ownBlock]; omega)), HX.out.2.2.1.grown hg7' (fun e => by injection e with e; omega), bl7, HX.out.2.2.2.grown hg7' (by omega) (fun r e => by injection e with e; omega)⟩
        · have hl0 : looksN (ndx v k).k = 1 := by have := HLF.out; omega
          have h1 : pn = pl + 1 := by have := HLP.out; omega
          have HSE := Lib.hid (show ix (seen (ndx v k) p) 0 = ix p pl ∧ ix (seen (ndx v k) p) 1 = 0 by
            obtain ⟨q2, a, rfl⟩ := split1 (p := p) (by omega)
            rw [seen_1 hl0]
            have : pl = q2.length := by simp at hpn; omega
            rw [this, ix_last]; exact ⟨rfl, rfl⟩)
          have p0 := hcell pl (by omega)
          have hsl : pn - pl = 1 := by omega
          have hne : ¬ c5 = pl := by omega
          clear h hcell hl0 h1
          go_wp2_with fail
          go_region_law (first | (refine step_copy_grown (by rfl) (.tmp 34) (.tmp 37) 23 23 (by rfl) 2 Tryd.underlying23 hsz (some ⟨wr.heap.size + 1, 0, none⟩) (some ⟨g, pl, none⟩) 2 2 1 (c5 - pl) (by rfl) (by rfl) (wr.heap.size + 1) 0 [.int .i64 0, .int .i64 0] 76 (by exact HX.out.1) [.int .i64 (ix p pl)] (by rfl) (fun _ => ⟨rfl, _, rfl, one_at (by exact p0)⟩) (by simp) (by simp [Value.oneCell']) ?_; intro w7 h7 hg7 hs7))
          all_goals
            have hg7' := grown_trans (grown_drewN wb 1 (some (wr.heap.size + 1))) hg7
            have bl7 : Blk w7 (wr.heap.size + 1) 76 #[.int .i64 (ix p pl), .int .i64 0] := by have := h7.out; unfold Blk; simpa [splice] using this
            have hs := HSE.out
            clear h7 hg7 hs7
            go_wp2_with fail
            go_meet
            rw [hs.1, hs.2]
            exact ⟨HX.out.2.1.kept hg7' (.inr (by simp [Value.ownBlock]; omega)), HX.out.2.2.1.grown hg7' (fun e => by injection e with e; omega), bl7, HX.out.2.2.2.grown hg7' (by omega) (fun r e => by injection e with e; omega)⟩
        · have hl0 : looksN (ndx v k).k = 2 := by have := HLF.out; omega
          have h1 : pn = pl + 2 := by have := HLP.out; omega
          have HSE := Lib.hid (show ix (seen (ndx v k) p) 0 = ix p pl ∧ ix (seen (ndx v k) p) 1 = ix p (pl + 1) by
            obtain ⟨q2, a, b', rfl⟩ := split2 (p := p) (by omega)
            rw [seen_2 hl0]
            have : pl = q2.length := by simp at hpn; omega
            rw [this]
            exact ⟨by simp [ix], by simp [ix]⟩)
          have p0 := hcell pl (by omega)
          have p1 := hcell (pl + 1) (by omega)
          have hsl : pn - pl = 2 := by omega
          have hne : ¬ c5 = pl := by omega
          clear h hcell hl0 h1
          go_wp2_with fail
          go_region_law (first | (refine step_copy_grown (by rfl) (.tmp 34) (.tmp 37) 23 23 (by rfl) 2 Tryd.underlying23 hsz (some ⟨wr.heap.size + 1, 0, none⟩) (some ⟨g, pl, none⟩) 2 2 2 (c5 - pl) (by rfl) (by rfl) (wr.heap.size + 1) 0 [.int .i64 0, .int .i64 0] 76 (by exact HX.out.1) [.int .i64 (ix p pl), .int .i64 (ix p (pl + 1))] (by rfl) (fun _ => ⟨rfl, _, rfl, two_at (by exact p0) (by exact p1)⟩) (by simp) (by simp [Value.oneCell']) ?_; intro w7 h7 hg7 hs7))
          all_goals
            have hg7' := grown_trans (grown_drewN wb 1 (some (wr.heap.size + 1))) hg7
            have bl7 : Blk w7 (wr.heap.size + 1) 76 #[.int .i64 (ix p pl), .int .i64 (ix p (pl + 1))] := by have := h7.out; unfold Blk; simpa [splice] using this
            have hs := HSE.out
            clear h7 hg7 hs7
            go_wp2_with fail
            go_meet
            rw [hs.1, hs.2]
            exact ⟨HX.out.2.1.kept hg7' (.inr (by simp [Value.ownBlock]; omega)), HX.out.2.2.1.grown hg7' (fun e => by injection e with e; omega), bl7, HX.out.2.2.2.grown hg7' (by omega) (fun r e => by injection e with e; omega)⟩
      case rest =>
        clear HX
        obtain ⟨ho, bN, bL, hbl⟩ := hcut
        obtain ⟨b0, b1, b2, b3, b4⟩ := bN.c5
        have l0 := bL.cell 0
        have l1 := bL.cell 1
        simp only [List.getElem?_toArray, List.getElem?_cons_zero, List.getElem?_cons_succ] at l0 l1
        generalize ix (seen (ndx v k) p) 0 = a1 at *
        generalize ix (seen (ndx v k) p) 1 = a2 at *
        have hWc := bel_step hbel hbl
        clear bL hsb
        go_wp2_with fail
        refine (implStepWidth_any (ndx v k) Ac cc Az cz a1 a2 wc (HCZ.out wc hbl).1 (HCZ.out wc hbl).2 (HFN.out k hlt) (HFA.out wc hWc)).mono ?_
        rintro e w3 ⟨rfl, hb3⟩
        have ho3 := ho.kept (grown_of_below hb3) (.inr (by simp [Value.ownBlock]))
        have bN3 := bN.on hb3
        have hbl3 : Below wr.heap.size wr w3 := bel_step hbl hb3
        have hW3 := bel_step hbel hbl3
        clear b0 b1 b2 b3 b4 l0 l1 ho bN hb3 hbl hWc
        obtain ⟨b0, b1, b2, b3, b4⟩ := bN3.c5
        go_upto_if 47 with fail
        go_cut [10] (fun s wx => s = .int .i64 W ∧ wx.ownsRow w.heap.size 2 1 (.slice (some ⟨g, 0, none⟩) pn c5) pn (p.map (Value.int .i64)) ∧ Below w.heap.size w wx)
        case first =>
          by_cases hk1 : (ndx v k).k = 1
          · have hkb : ((ndx v k).k == 1) = true := by simpa using hk1
            have HE := Lib.hid (show tabWd ts (ndx v k).n = W by rw [← HW.out]; exact (HPS.out.2.1 hk1).symm)
            clear hk1
            go_wp2_with fail
            refine (tableWidth_any A c ts (ndx v k).n w3 (HT.out w3 hW3) HFT.out hlT).mono ?_
            rintro e w4 ⟨rfl, hb4⟩
            rw [HE.out]
            go_wp2_with fail
            go_meet
            exact ⟨rfl, ho3.kept (grown_of_below hb4) (.inr (by simp [Value.ownBlock])), bel_step hW3 hb4⟩
          · have hkb : ((ndx v k).k == 1) = false := by simpa using hk1
            have HE := Lib.hid (show stepW (ndx v k) a1 a2 = W by rw [← HW.out]; exact HPS.out.2.2 hk1)
            clear hk1
            rw [HE.out]
            go_wp2_with fail
            go_meet
            exact ⟨rfl, ho3, hW3⟩
        case rest =>
          clear ho3 hW3 b0 b1 b2 b3 b4 bN3 hbl3
          obtain ⟨rfl, ho, hWc⟩ := hcut
          by_cases hw : W = -1
          · have hwb : (W == -1) = true := by simpa using hw
            have HNO := Lib.hid (show R = -1 by rw [← HR.out]; exact widthV_none (pile_stop HST.out.pl hlt (by rw [HW.out, hw]; decide)))
            clear hw
            go_wp2
            go_ret
            exact ⟨ret_int HNO.out.symm, hWc⟩
          · have hwb : (W == -1) = false := by simpa using hw
            have hneg : ¬ W < 0 := fun h => hw (by have := HPS.out.1 (by rw [HW.out]; exact h); rw [HW.out] at this; exact this)
            have HPL := Lib.hid (pile_step HST.out.pl (by rw [HW.out]; exact hneg))
            rw [HW.out, ← HLF.out, hpn, hpl] at HPL
            have hoc := own_cut ho (m := pl) (by omega)
            have hpl9 : pl ≤ 9 := by omega
            have hpc : (pl : Int) ≤ (c5 : Int) := by
              rcases hoc.2 with ⟨h1, _⟩ | ⟨_, _, _, h1, _, _, h2, _⟩
              · cases h1
              · injection h1 with _ _ e3
                omega
            have hplen : (p.take pl ++ [W]).length = pl + 1 := by rw [List.length_append, List.length_take, List.length_singleton]; omega
            have HO := Lib.hid (And.intro hoc hWc)
            have hszc := hWc.size
            have HLEN := Lib.hid hplen
            clear ho hoc hw hneg hWc hplen
            go_wp2_with (at_builtin; refine wpList_append_any _ rfl (.tmp 56) (.tmp 58) 23 rfl w.heap.size 2 i0 (.int .i64 0) 1 8 Tryd.underlying23 hi0 hz0 hz1 hz2 rfl (by decide) (.slice (some ⟨g, 0, none⟩) pl c5) pl ((p.take pl).map (Value.int .i64)) rfl (HO.out.1.alloc _) _ (some ⟨wc.heap.size, 0, none⟩) 1 1 [.int .i64 W] rfl (reads_newW _ _ _) (by simp [Value.oneCell']) (by simp only [maxLen]; omega) (by omega) (by rw [World.size_alloc]; omega) ?_; intro v3 w4 hown3 hgrow3 hat3)
            obtain ⟨g3, c3, rfl⟩ := own_some hown3
            have hb4 : Below w.heap.size w w4 := (HO.out.2.alloc HO.out.2.size _).grown hgrow3 (by rw [World.size_alloc]; omega) (fun x hx => (HO.out.1.lt x hx).1)
            have HS4 := Lib.hid (show ISt ts v w (k + 1) (p.take pl ++ [W]) g3 c3 w4 from ⟨HPL.out, by rw [HLEN.out]; simpa using hown3, hb4⟩)
            clear hown3 hgrow3 hat3 hb4
            go_roundw
            case rel => exact ⟨k + 1, _, g3, c3, by omega, by go_num, by rw [HLEN.out], HS4.out⟩
            case measure => simp [intOf]; omega
    · have hd : decide (k < v.length) = false := by simpa using hlt
      obtain rfl : k = v.length := by omega
      have hg := HG.out _ p (Nat.le_refl _) HST.out.pl
      have hf1 := HV.out.2.1
      have h1 : p.length = 1 := by omega
      have HE := Lib.hid (show R = ix p 0 by
        rw [← HR.out, widthV_some HB.out HVB.out HST.out.pl, h1])
      obtain ⟨g', cap, e1, _, _, _, hcell⟩ := own_cells HST.out.own (by omega)
      injection e1 with e1 _ _
      injection e1 with e1
      injection e1 with e1 _ _
      subst e1
      have hc0 := hcell 0 (by omega)
      have hl0 : (0 : Int) < (p.length : Int) := by omega
      have hl1 : 0 < p.length := by omega
      clear hcell hg hf1 h1
      go_wp2
      go_ret
      exact ⟨ret_int HE.out.symm, hbel⟩
end Go.Proofs.YtpadhcoboapodaaDoor
