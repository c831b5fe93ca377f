/- The model's widths of all nodes, and its WidthOf: what they return; nothing that lay has turned. -/
import Derived.Test.YtejgofhpjkebbaaDoorWid2
import Derived.Test.YtejgofhpjkebbaaDoorBas3
import Derived.Test.YtejgofhpjkebbaaDoorBas1
import Derived.Deep.RegionHeld3
import Derived.Deep.DeepCutAuto
import Derived.Deep.CutBlock
namespace Go.Proofs.YtejgofhpjkebbaaDoor
open Go.RowKit

theorem split1 {p : List Int} (h : 1 ≤ p.length) : ∃ q a, p = q ++ [a] := ⟨p.take (p.length - 1), p[p.length - 1], by
  rw [← List.take_succ_eq_append_getElem (by omega), show p.length - 1 + 1 = p.length by omega, List.take_length]⟩
theorem split2 {p : List Int} (h : 2 ≤ p.length) : ∃ q a b, p = q ++ [a, b] := by
  obtain ⟨r, b, rfl⟩ := split1 (p := p) (by omega)
  obtain ⟨q, a, rfl⟩ := split1 (p := r) (by simp at h; omega)
  exact ⟨q, a, b, by simp⟩
theorem ix_last (q : List Int) (a : Int) : ix (q ++ [a]) q.length = a := by simp [ix]
theorem pileW_1 {ts : List TB} {d : Nd} {q : List Int} {a : Int} (h : looksN d.k = 1) : pileW ts d (q ++ [a]) = stepD d a 0 ∧ (q ++ [a]).take ((q ++ [a]).length - looksN d.k) = q := by
  refine ⟨?_, ?_⟩
  · unfold pileW
    rw [if_neg (by omega), if_pos h, List.length_append, List.length_singleton, Nat.add_sub_cancel, ix_last]
  · rw [h, List.length_append, List.length_singleton, Nat.add_sub_cancel, List.take_left']; rfl
theorem pileW_2 {ts : List TB} {d : Nd} {q : List Int} {a b : Int} (h : looksN d.k = 2) : pileW ts d (q ++ [a, b]) = stepD d a b ∧ (q ++ [a, b]).take ((q ++ [a, b]).length - looksN d.k) = q := by
  have hl : (q ++ [a, b]).length = q.length + 2 := by simp
  refine ⟨?_, ?_⟩
  · unfold pileW
    rw [if_neg (by omega), if_neg (by omega), hl]
    congr 1
    · simp [ix]
    · rw [show q.length + 2 - 1 = q.length + 1 by omega]; simp [ix]
  · rw [h, hl, Nat.add_sub_cancel, List.take_left']; rfl
theorem pileW_0 {ts : List TB} {d : Nd} {p : List Int} (h : looksN d.k = 0) : pileW ts d p = tabWd ts d.n ∧ p.take (p.length - looksN d.k) = p := by
  refine ⟨by unfold pileW; rw [if_pos h], by rw [h, Nat.sub_zero, List.take_length]⟩
theorem own_cut {w : World} {base n m c : Nat} {e : TypeId} {A : Option Addr} {zs : List Int} (h : w.ownsRow base e 1 (.slice A n c) n (zs.map (Value.int .i64))) (hm : m ≤ n) : w.ownsRow base e 1 (.slice A m c) m ((zs.take m).map (Value.int .i64)) := by
  obtain ⟨h1, h2⟩ := h
  have hzl : zs.length = n := by simpa using h1
  refine ⟨by rw [List.length_map, List.length_take]; omega, ?_⟩
  rcases h2 with ⟨h3, h4⟩ | ⟨g, cap, cur, h3, h4, h5, h6, h7, h8, h9⟩
  · subst h4
    obtain rfl : m = 0 := by omega
    exact .inl ⟨h3, rfl⟩
  · injection h3 with e1 e2 e3
    refine .inr ⟨g, cap, cur, by rw [e1, e3], h4, h5, by omega, h7, h8, ?_⟩
    rw [Nat.mul_one] at h9 ⊢
    rw [List.map_take, ← h9, List.take_take, Nat.min_eq_left (by omega)]
theorem own_cells {w : World} {base n : Nat} {e : TypeId} {v : Value} {zs : List Int} (h : w.ownsRow base e 1 v n (zs.map (Value.int .i64))) (hn : 0 < n) : ∃ g cap, v = .slice (some ⟨g, 0, none⟩) n cap ∧ n ≤ cap ∧ base ≤ g ∧ g < w.heap.size ∧ ∀ j, j < n → w.cell? ⟨g, j, none⟩ = some (.int .i64 (ix zs j)) := by
  obtain ⟨h1, h2⟩ := h
  have hzl : zs.length = n := by simpa using h1
  rcases h2 with ⟨h3, h4⟩ | ⟨g, cap, cur, rfl, h4, h5, h6, h7, h8, h9⟩
  · omega
  · refine ⟨g, cap, rfl, h6, h4, Blk.lt (t := e) (cs := cur) h5, fun j hj => ?_⟩
    rw [Blk.cell (t := e) (cs := cur) h5 j]
    have e1 : (cur.toList.take (n * 1))[j]? = (zs.map (Value.int .i64))[j]? := by rw [h9]
    rw [List.getElem?_take, if_pos (by omega), Array.getElem?_toList] at e1
    rw [e1]
    simp [ix, show j < zs.length by omega]
theorem reads_newW (w : World) (t : TypeId) (v : Value) : Reads (w.alloc (.cells #[v] t)) (w.heap.size + 1) 1 (some ⟨w.heap.size, 0, none⟩) 1 [v] := ⟨rfl, fun _ => ⟨_, rfl, Nat.lt_succ_self _, cell_one_new _ _ _⟩⟩
def apartV (u v : Value) : Prop := ∀ g, u.ownBlock = some g → v.ownBlock ≠ some g
theorem apart_or {u v : Value} (h : apartV u v) : u.ownBlock = none ∨ u.ownBlock ≠ v.ownBlock := by
  cases hu : u.ownBlock with
  | none => exact .inl rfl
  | some g => exact .inr fun e => h g hu e.symm
theorem ints_of_own {w : World} {base c : Nat} {e : TypeId} {A : Option Addr} {zs : List Int} (h : w.ownsRow base e 1 (.slice A zs.length c) zs.length (zs.map (Value.int .i64))) : Ints w w.heap.size A zs := fun hn => by
  obtain ⟨g, cap, hv, _, _, hg, hc⟩ := own_cells h hn
  injection hv with e1 _ _
  exact ⟨g, 0, e1, hg, fun j hj => by rw [Nat.zero_add]; exact hc j hj⟩
/-- Widths under way: of k nodes the widths xs, and those p that none has looked at yet. -/
structure WSt (ts : List TB) (v : List Nd) (w : World) (k : Nat) (xs p : List Int) (u1 u2 : Value) (wr : World) : Prop where
  pl : pile ts v k = some p
  len : xs.length = k
  last : 0 < k → 0 < p.length ∧ ix xs (k - 1) = ix p (p.length - 1)
  out : wr.ownsRow w.heap.size 2 1 u1 k (xs.map (Value.int .i64))
  own : wr.ownsRow w.heap.size 2 1 u2 p.length (p.map (Value.int .i64))
  ne : apartV u1 u2
  bel : Below w.heap.size w wr
theorem wst_next {ts : List TB} {v : List Nd} {w wc w3 w4 : World} {k : Nat} {xs Q : List Int} {W : Int} {u1 u2 v3 v4 : Value} {o3 o4 : Obj} (hpl : pile ts v (k + 1) = some (Q ++ [W])) (hlen : xs.length = k)
    (ho2 : wc.ownsRow w.heap.size 2 1 u2 Q.length (Q.map (Value.int .i64))) (ho1 : wc.ownsRow w.heap.size 2 1 u1 k (xs.map (Value.int .i64))) (hne : apartV u1 u2) (hb : Below w.heap.size w wc)
    (h3 : w3.ownsRow w.heap.size 2 1 v3 (Q.length + 1) (Q.map (Value.int .i64) ++ [.int .i64 W])) (g3 : (wc.alloc o3).grownBy w3 u2.ownBlock) (a3 : v3.ownBlock = u2.ownBlock ∨ v3.ownBlock = some (wc.alloc o3).heap.size)
    (h4 : w4.ownsRow w.heap.size 2 1 v4 (k + 1) (xs.map (Value.int .i64) ++ [.int .i64 W])) (g4 : (w3.alloc o4).grownBy w4 u1.ownBlock) (a4 : v4.ownBlock = u1.ownBlock ∨ v4.ownBlock = some (w3.alloc o4).heap.size) :
    WSt ts v w (k + 1) (xs ++ [W]) (Q ++ [W]) v4 v3 w4 := by
  have s3 := g3.size
  have s4 := g4.size
  rw [World.size_alloc] at s3 s4 a3 a4
  have b3 : Below w.heap.size w w3 := (hb.alloc hb.size o3).grown g3 (by rw [World.size_alloc]; have := hb.size; omega) (fun g hg => (ho2.lt g hg).1)
  have b4 : Below w.heap.size w w4 := (b3.alloc b3.size o4).grown g4 (by rw [World.size_alloc]; have := b3.size; omega) (fun g hg => (ho1.lt g hg).1)
  have hne3 : apartV v3 u1 := fun g hg he => by
    rcases a3 with e | e
    · exact hne g he (by rw [← e]; exact hg)
    · rw [hg] at e
      have := (ho1.lt g he).2
      injection e with e
      omega
  refine ⟨hpl, by simp [hlen], fun _ => ⟨by simp, ?_⟩, by simpa using h4, ?_, fun g hg he => ?_, b4⟩
  · have e1 := ix_last xs W
    have e2 := ix_last Q W
    rw [hlen] at e1
    rw [Nat.add_sub_cancel, e1, List.length_append, List.length_singleton, Nat.add_sub_cancel, e2]
  · have := (h3.alloc o4).kept g4 (apart_or hne3)
    simpa using this
  · rcases a4 with e | e
    · exact hne3 g he (by rw [← e]; exact hg)
    · rw [hg] at e
      have := (h3.lt g he).2
      injection e with e
      omega
/-- What l9Widths answers. -/
def WidAns (R : Option (List Int)) (w : World) (e : Ending) (w' : World) : Prop :=
  ∃ A c ys, e = .returned (.slice A ys.length c) ∧ Ints w' w'.heap.size A ys ∧ Below w.heap.size w w' ∧ (R = none → ys = []) ∧ ∀ p, R = some p → 0 < ys.length ∧ ys.length ≤ 9 ∧ ix ys (ys.length - 1) = ix p (p.length - 1)
set_option maxRecDepth 100000 in
set_option maxHeartbeats 4000000 in
theorem l9Widths_any (A A2 : Option Addr) (c c2 : Nat) (ts : List TB) (v : List Nd) (w : World) (hT : Tabs w w.heap.size A ts) (hlT : ts.length ≤ 1048576) (hN : Nds w w.heap.size A2 v) (hfn : fitN 1048576 v) (hb : baseB ts = true) (hv : viewB v = true) :
    Calls Tryd.prog 16 #[.slice A ts.length c, .slice A2 v.length c2] w (WidAns (pile ts v v.length) w) := by
  obtain ⟨i0, hi0, hz0, hz1, hz2⟩ := info_parts info_i64
  have HFN := Lib.hid hfn
  have HG := Lib.hid (pile_good hb hv)
  have HV := Lib.hid (viewB_all hv)
  have HB := Lib.hid hb
  have hl9 := (viewB_all hv).2.2
  have hbnd := freeAt_bound v
  have HT := Lib.hid (show ∀ W, Below w.heap.size w W → Tabs W W.heap.size A ts from fun W h => hT.on h)
  have HN := Lib.hid (show ∀ W, Below w.heap.size w W → Nds W W.heap.size A2 v from fun W h => hN.on h)
  have bc := (Below.refl w.heap.size w).alloc (Nat.le_refl _) (.cells #[] 2)
  have bc2 := bc.alloc bc.size (.cells #[] 2)
  have o1 : (w.alloc (.cells #[] 2)).ownsRow w.heap.size 2 1 (.slice (some ⟨w.heap.size, 0, none⟩) 0 0) 0 (([] : List Int).map (Value.int .i64)) := World.ownsRow_made w #[] 0 (Nat.le_refl _) (Nat.zero_le _) rfl
  have o2 : ((w.alloc (.cells #[] 2)).alloc (.cells #[] 2)).ownsRow w.heap.size 2 1 (.slice (some ⟨(w.alloc (.cells #[] 2)).heap.size, 0, none⟩) 0 0) 0 (([] : List Int).map (Value.int .i64)) := World.ownsRow_made (w.alloc (.cells #[] 2)) #[] 0 bc.size (Nat.zero_le _) rfl
  have st0 : WSt ts v w 0 [] [] (.slice (some ⟨w.heap.size, 0, none⟩) 0 0) (.slice (some ⟨w.heap.size + 1, 0, none⟩) 0 0) ((w.alloc (.cells #[] 2)).alloc (.cells #[] 2)) :=
    ⟨rfl, rfl, fun h => absurd h (by omega), o1.alloc _, by rw [World.size_alloc] at o2; exact o2, (fun g h => by simp [Value.ownBlock] at h ⊢; omega), bc2⟩
  clear hT hN hfn hb hv o1 o2 bc bc2
  go_enter Tryd.func16, Tryd.ntmps16
  go_wp2
  go_loopw [5, 6, 7] (fun u1 u2 i wr => ∃ (k : Nat) (xs p : List Int), k ≤ v.length ∧ i = .int .i64 k ∧ WSt ts v w k xs p u1 u2 wr) (fun _ _ i _ => v.length - (intOf i).toNat)
  case atStart => exact ⟨0, [], [], Nat.zero_le _, rfl, st0⟩
  case round =>
    clear st0
    obtain ⟨k, xs, p, hk, rfl, hst⟩ := hrel
    have HST := Lib.hid hst
    obtain ⟨A5, c5, rfl⟩ := own_form hst.out
    obtain ⟨A6, c6, rfl⟩ := own_form hst.own
    have hbel := hst.bel
    clear hst
    by_cases hlt : k < v.length
    · have hTr := HT.out wr hbel
      obtain ⟨b, off, Ac, cc, Az, cz, rfl, hbk, n0, n1, n2, n3, n4, hC, hZ⟩ := (HN.out wr hbel).here hlt
      obtain ⟨hpl, hall⟩ := HG.out k p hk HST.out.pl
      have hok := HV.out.1 k hlt
      unfold okNd at hok
      rw [Bool.and_eq_true, decide_eq_true_eq] at hok
      have hLp : looksN (ndx v k).k ≤ p.length := by omega
      have HOK := Lib.hid hok.1
      have HALL := Lib.hid hall
      have hpk : p.length ≤ 9 := by have := freeAt_bound v k hk; omega
      clear hok hpl hall
      obtain ⟨W, hW⟩ : ∃ W, pileW ts (ndx v k) p = W := ⟨_, rfl⟩
      obtain ⟨Q, hQ⟩ : ∃ Q, p.take (p.length - looksN (ndx v k).k) = Q := ⟨_, rfl⟩
      have HW := Lib.hid hW
      have HQ := Lib.hid hQ
      clear hW hQ
      go_wp2_with fail
      refine (l8Looks_any (ndx v k).k wr).mono ?_
      rintro e w2 ⟨rfl, rfl⟩
      obtain ⟨L, hL⟩ : ∃ L : Int, ((looksN (ndx v k).k : Nat) : Int) = L := ⟨_, rfl⟩
      rw [hL]
      have HL := Lib.hid hL
      obtain ⟨pn, hpn⟩ : ∃ pn, p.length = pn := ⟨_, rfl⟩
      rw [hpn]
      clear hL
      go_upto_block 2 with fail
      go_cut [6, 9] (fun s t wx => t = .int .i64 W ∧ (∃ A c, s = .slice A Q.length c) ∧ wx.ownsRow w.heap.size 2 1 s Q.length (Q.map (Value.int .i64)) ∧ wx.ownsRow w.heap.size 2 1 (.slice A5 k c5) k (xs.map (Value.int .i64)) ∧ apartV (.slice A5 k c5) s ∧ Below w.heap.size w wx)
      case first =>
        have h3 : looksN (ndx v k).k = 0 ∨ looksN (ndx v k).k = 1 ∨ looksN (ndx v k).k = 2 := by have := looksN_le (ndx v k).k; omega
        rcases h3 with h | h | h
        · obtain ⟨e1, e2⟩ := pileW_0 (ts := ts) (p := p) h
          rw [HW.out] at e1
          rw [HQ.out] at e2
          obtain rfl : Q = p := e2
          subst hpn
          have HE := Lib.hid e1
          have l0 : (L == 0) = true := by rw [← HL.out, h]; rfl
          clear e1 h hLp
          go_wp2_with fail
          refine (l6Find_any A c ts (ndx v k).n wr _ hTr hlT).mono ?_
          rintro e w2 ⟨rfl, rfl⟩
          by_cases hf : fndN ts (ndx v k).n < ts.length
          · obtain ⟨bt, offt, Ar, cr, rfl, hbt, t0, t1, t2, _⟩ := hTr.here hf
            have HE2 := Lib.hid (show W = (tx ts (fndN ts (ndx v k).n)).wd by rw [HE.out]; unfold tabWd; rw [if_pos hf])
            rw [show findN ts (ndx v k).n = ((fndN ts (ndx v k).n : Nat) : Int) by unfold findN; rw [if_pos hf]]
            clear hTr n0 n1 n2 n3 n4 HE
            generalize fndN ts (ndx v k).n = j at *
            go_wp2_with fail
            go_meet
            exact ⟨by rw [HE2.out], ⟨_, _, rfl⟩, HST.out.own, HST.out.out, HST.out.ne, HST.out.bel⟩
          · have HE2 := Lib.hid (show W = -1 by rw [HE.out]; unfold tabWd; rw [if_neg hf])
            rw [show findN ts (ndx v k).n = -1 by unfold findN; rw [if_neg hf]]
            clear hTr n0 n1 n2 n3 n4 HE hf
            go_wp2_with fail
            go_meet
            exact ⟨by rw [HE2.out], ⟨_, _, rfl⟩, HST.out.own, HST.out.out, HST.out.ne, HST.out.bel⟩
        · obtain ⟨q, a, hp⟩ := split1 (p := p) (by omega)
          subst hp
          have hql : (q ++ [a]).length = q.length + 1 := by simp
          obtain ⟨e1, e2⟩ := pileW_1 (ts := ts) (q := q) (a := a) h
          rw [HW.out] at e1
          rw [HQ.out] at e2
          have e2s := e2.symm
          subst e2s
          obtain ⟨g, cap, hv6, hcap, hbg, hgl, hcell⟩ := own_cells HST.out.own (by omega)
          injection hv6 with e3 e4 e5
          subst e3 e5
          have hown := own_cut HST.out.own (m := q.length) (by omega)
          rw [List.take_left'  (rfl : q.length = q.length)] at hown
          have p0 := hcell q.length (by omega)
          rw [ix_last] at p0
          have ha := HALL.out a (by simp)
          have HE := Lib.hid e1
          have HO := Lib.hid hown
          have hpm : q.length ≤ 8 := by omega
          obtain ⟨m, hm⟩ : ∃ m, q.length = m := ⟨_, rfl⟩
          have hneq : apartV (.slice A5 k c5) (.slice (some ⟨g, 0, none⟩) q.length c6) := fun x hx => HST.out.ne x hx
          have HNE := Lib.hid hneq
          have HM := Lib.hid hm
          rw [hm] at p0 hpm
          have hpm1 : pn = m + 1 := by omega
          have l0 : (L == 0) = false := by rw [← HL.out, h]; rfl
          have l1 : (L == 1) = true := by rw [← HL.out, h]; rfl
          have hw1 : IntKind.i64.wrap ((pn : Int) - 1) = (m : Int) := by rw [IntKind.wrap_i64]; omega
          have hlm : m < pn := by omega
          have hlm2 : (m : Int) < (pn : Int) := by omega
          have hmc : (m : Int) ≤ (c6 : Int) := by omega
          have hmc2 : m ≤ c6 := by omega
          clear hTr e1 hown hcell hbg hneq hm hLp hpk hql hpn hpm1
          have HXX := Lib.hid (And.intro (And.intro n0 (And.intro n1 (And.intro n2 (And.intro n3 n4)))) p0)
          go_wp2_with fail
          go_region_held3 (fun w' => w'.cell? ⟨b, off + k * 5, none⟩ = some (.int .i64 (ndx v k).k) ∧ w'.cell? ⟨b, off + k * 5 + 1, none⟩ = some (.string (ndx v k).n) ∧ w'.cell? ⟨b, off + k * 5 + 2, none⟩ = some (.slice Ac (ndx v k).c.length cc) ∧ w'.cell? ⟨b, off + k * 5 + 3, none⟩ = some (.slice Az (ndx v k).z.length cz) ∧ w'.cell? ⟨b, off + k * 5 + 4, none⟩ = some (.int .i64 (ndx v k).p) ∧ w'.cell? ⟨g, m, none⟩ = some (.int .i64 a))
          (first | go_keep | exact ⟨k0, k1, k2, k3, k4, q0⟩)
          (first | (go_at_call 34; refine (l9Step_any (ndx v k) Ac cc Az cz a 0 _ (by exact hC) (by exact hZ) (HFN.out k hlt) HOK.out ha (fun h => absurd h (by omega))).mono ?_; rintro e w3 ⟨rfl, hb3⟩; have hk3 : Below wr.heap.size wr w3 := (bel_drewN (Below.refl _ _) 1).trans hb3; have k0 := (hk3.cell (p := ⟨b, off + k * 5, none⟩) hbk).trans HXX.out.1.1; have k1 := (hk3.cell (p := ⟨b, off + k * 5 + 1, none⟩) hbk).trans HXX.out.1.2.1; have k2 := (hk3.cell (p := ⟨b, off + k * 5 + 2, none⟩) hbk).trans HXX.out.1.2.2.1; have k3 := (hk3.cell (p := ⟨b, off + k * 5 + 3, none⟩) hbk).trans HXX.out.1.2.2.2.1; have k4 := (hk3.cell (p := ⟨b, off + k * 5 + 4, none⟩) hbk).trans HXX.out.1.2.2.2.2; have q0 := (hk3.cell (p := ⟨g, m, none⟩) hgl).trans HXX.out.2))
          go_wp2_with fail
          go_meet
          exact ⟨by rw [HE.out], ⟨some ⟨g, 0, none⟩, c6, by rw [HM.out]⟩, (by have h9 := HO.out.kept (grown_of_below hk3) (.inr (by simp [Value.ownBlock])); rw [HM.out] at h9 ⊢; exact h9), HST.out.out.kept (grown_of_below hk3) (by cases h : (Value.slice A5 k c5).ownBlock <;> simp), (fun x hx => HNE.out x hx), bel_step HST.out.bel hk3⟩
        · obtain ⟨q, a, b2, hp⟩ := split2 (p := p) (by omega)
          subst hp
          have hql : (q ++ [a, b2]).length = q.length + 2 := by simp
          obtain ⟨e1, e2⟩ := pileW_2 (ts := ts) (q := q) (a := a) (b := b2) h
          rw [HW.out] at e1
          rw [HQ.out] at e2
          have e2s := e2.symm
          subst e2s
          obtain ⟨g, cap, hv6, hcap, hbg, hgl, hcell⟩ := own_cells HST.out.own (by omega)
          injection hv6 with e3 e4 e5
          subst e3 e5
          have hown := own_cut HST.out.own (m := q.length) (by omega)
          rw [List.take_left' (rfl : q.length = q.length)] at hown
          have p0 := hcell q.length (by omega)
          have p1 := hcell (q.length + 1) (by omega)
          rw [show ix (q ++ [a, b2]) q.length = a by simp [ix]] at p0
          rw [show ix (q ++ [a, b2]) (q.length + 1) = b2 by simp [ix]] at p1
          have ha := HALL.out a (by simp)
          have hb2 := HALL.out b2 (by simp)
          have HE := Lib.hid e1
          have HO := Lib.hid hown
          have hpm : q.length ≤ 8 := by omega
          obtain ⟨m, hm⟩ : ∃ m, q.length = m := ⟨_, rfl⟩
          have hneq : apartV (.slice A5 k c5) (.slice (some ⟨g, 0, none⟩) q.length c6) := fun x hx => HST.out.ne x hx
          have HNE := Lib.hid hneq
          have HM := Lib.hid hm
          rw [hm] at p0 p1 hpm
          have hpm1 : pn = m + 2 := by omega
          have l0 : (L == 0) = false := by rw [← HL.out, h]; rfl
          have l1 : (L == 1) = false := by rw [← HL.out, h]; rfl
          have hw1 : IntKind.i64.wrap ((pn : Int) - 1) = (m : Int) + 1 := by rw [IntKind.wrap_i64]; omega
          have hw2 : IntKind.i64.wrap ((pn : Int) - 2) = (m : Int) := by rw [IntKind.wrap_i64]; omega
          have hlm : m < pn := by omega
          have hlm2 : (m : Int) < (pn : Int) := by omega
          have hlm3 : m + 1 < pn := by omega
          have hlm4 : (m : Int) + 1 < (pn : Int) := by omega
          have ht1 : ((m : Int) + 1).toNat = m + 1 := by omega
          have hn1 : (0 : Int) ≤ (m : Int) + 1 := by omega
          have hmc : (m : Int) ≤ (c6 : Int) := by omega
          have hmc2 : m ≤ c6 := by omega
          clear hTr e1 hown hcell hbg hneq hm hLp hpk hql hpn hpm1
          have HXX := Lib.hid (And.intro (And.intro n0 (And.intro n1 (And.intro n2 (And.intro n3 n4)))) (And.intro p0 p1))
          go_wp2_with fail
          go_region_held3 (fun w' => w'.cell? ⟨b, off + k * 5, none⟩ = some (.int .i64 (ndx v k).k) ∧ w'.cell? ⟨b, off + k * 5 + 1, none⟩ = some (.string (ndx v k).n) ∧ w'.cell? ⟨b, off + k * 5 + 2, none⟩ = some (.slice Ac (ndx v k).c.length cc) ∧ w'.cell? ⟨b, off + k * 5 + 3, none⟩ = some (.slice Az (ndx v k).z.length cz) ∧ w'.cell? ⟨b, off + k * 5 + 4, none⟩ = some (.int .i64 (ndx v k).p) ∧ w'.cell? ⟨g, m, none⟩ = some (.int .i64 a) ∧ w'.cell? ⟨g, m + 1, none⟩ = some (.int .i64 b2))
          (first | go_keep | exact ⟨k0, k1, k2, k3, k4, q0, q1⟩)
          (first | (go_at_call 34; refine (l9Step_any (ndx v k) Ac cc Az cz a b2 _ (by exact hC) (by exact hZ) (HFN.out k hlt) HOK.out ha (fun _ => hb2)).mono ?_; rintro e w3 ⟨rfl, hb3⟩; have hk3 : Below wr.heap.size wr w3 := (bel_drewN (Below.refl _ _) 1).trans hb3; have k0 := (hk3.cell (p := ⟨b, off + k * 5, none⟩) hbk).trans HXX.out.1.1; have k1 := (hk3.cell (p := ⟨b, off + k * 5 + 1, none⟩) hbk).trans HXX.out.1.2.1; have k2 := (hk3.cell (p := ⟨b, off + k * 5 + 2, none⟩) hbk).trans HXX.out.1.2.2.1; have k3 := (hk3.cell (p := ⟨b, off + k * 5 + 3, none⟩) hbk).trans HXX.out.1.2.2.2.1; have k4 := (hk3.cell (p := ⟨b, off + k * 5 + 4, none⟩) hbk).trans HXX.out.1.2.2.2.2; have q0 := (hk3.cell (p := ⟨g, m, none⟩) hgl).trans HXX.out.2.1; have q1 := (hk3.cell (p := ⟨g, m + 1, none⟩) hgl).trans HXX.out.2.2))
          go_wp2_with fail
          go_meet
          exact ⟨by rw [HE.out], ⟨some ⟨g, 0, none⟩, c6, by rw [HM.out]⟩, (by have h9 := HO.out.kept (grown_of_below hk3) (.inr (by simp [Value.ownBlock])); rw [HM.out] at h9 ⊢; exact h9), HST.out.out.kept (grown_of_below hk3) (by cases h : (Value.slice A5 k c5).ownBlock <;> simp), (fun x hx => HNE.out x hx), bel_step HST.out.bel hk3⟩
      case rest =>
        obtain ⟨rfl, ⟨A7, c7, rfl⟩, ho2, ho1, hne, hbl⟩ := hcut
        by_cases hneg : W < 0
        · have HNO := Lib.hid (pile_stop HST.out.pl hlt (by rw [HW.out]; exact hneg))
          have hba := hbl.alloc hbl.size (.cells #[] 2)
          go_wp2
          go_ret
          exact ⟨_, _, [], rfl, Ints.nil _ _ _, hba, fun _ => rfl, fun p hp => by rw [HNO.out] at hp; cases hp⟩
        · have hnb : decide (W < 0) = false := decide_eq_false hneg
          have HPL := Lib.hid (pile_step HST.out.pl (by rw [HW.out]; exact hneg))
          rw [HQ.out, HW.out] at HPL
          have hQ9 : Q.length ≤ 9 := by rw [← HQ.out, List.length_take]; omega
          have HO2 := Lib.hid (And.intro ho2 (And.intro ho1 (And.intro hne hbl)))
          have hsz := hbl.size
          clear ho2 ho1 hne hbl hneg
          go_wp2_with (first | (at_builtin; refine wpList_append_any _ rfl (.tmp 81) (.tmp 83) 40 rfl w.heap.size 2 i0 (.int .i64 0) 1 8 Tryd.underlying40 hi0 hz0 hz1 hz2 rfl (by decide) (.slice A7 Q.length c7) Q.length (Q.map (Value.int .i64)) rfl (HO2.out.1.alloc _) _ (some ⟨wc.heap.size, 0, none⟩) 1 1 [.int .i64 W] rfl (reads_newW _ _ _) (by simp [Value.oneCell']) (by simp only [maxLen]; omega) (by omega) (by rw [World.size_alloc]; omega) ?_; intro v3 w3 hown3 hgrow3 hat3; have hout3 := Lib.hid ((HO2.out.2.1.alloc _).kept hgrow3 (apart_or HO2.out.2.2.1)); have hs3 := hgrow3.size; rw [World.size_alloc] at hs3) | (at_builtin; refine wpList_append_any _ rfl (.tmp 85) (.tmp 87) 40 rfl w.heap.size 2 i0 (.int .i64 0) 1 8 Tryd.underlying40 hi0 hz0 hz1 hz2 rfl (by decide) (.slice A5 k c5) k (xs.map (Value.int .i64)) rfl (hout3.out.alloc _) _ (some ⟨w3.heap.size, 0, none⟩) 1 1 [.int .i64 W] rfl (reads_newW _ _ _) (by simp [Value.oneCell']) (by simp only [maxLen]; omega) (by omega) (by rw [World.size_alloc]; omega) ?_; intro v4 w4 hown4 hgrow4 hat4))
          have HSN := Lib.hid (wst_next (v := v) (k := k) (xs := xs) (Q := Q) (W := W) HPL.out HST.out.len HO2.out.1 HO2.out.2.1 HO2.out.2.2.1 HO2.out.2.2.2 hown3 hgrow3 hat3 hown4 hgrow4 hat4)
          go_roundw
          case rel => exact ⟨k + 1, _, _, by omega, by go_num, HSN.out⟩
          case measure => simp [intOf]; omega
    · have hd : decide (k < v.length) = false := by simpa using hlt
      obtain rfl : k = v.length := by omega
      have HO := Lib.hid (show ∀ p2, pile ts v v.length = some p2 → 0 < xs.length ∧ xs.length ≤ 9 ∧ ix xs (xs.length - 1) = ix p2 (p2.length - 1) from fun p2 hp2 => by
        rw [HST.out.pl] at hp2
        obtain rfl := Option.some.inj hp2
        have h0 : 0 < v.length := by
          rcases Nat.eq_zero_or_pos v.length with e | e
          · have h2 := HV.out.2.1
            rw [e, freeAt_zero] at h2; cases h2
          · exact e
        rw [HST.out.len]
        exact ⟨h0, hl9, (HST.out.last h0).2⟩)
      go_wp2
      go_ret
      have hl := HST.out.len
      refine ⟨A5, c5, xs, (by rw [hl]; rfl), ?_, HST.out.bel, fun h => (by rw [HST.out.pl] at h; cases h), HO.out⟩
      have h5 := HST.out.out
      rw [← hl] at h5
      exact ints_of_own h5
set_option maxRecDepth 100000 in
set_option maxHeartbeats 2000000 in
theorem specWidthOf_any (A A2 : Option Addr) (c c2 : Nat) (ts : List TB) (v : List Nd) (w : World) (hT : Tabs w w.heap.size A ts) (hft : fitT 1048576 ts) (hlT : ts.length ≤ 1048576) (hN : Nds w w.heap.size A2 v) (hfn : fitN 1048576 v) (hlv : v.length ≤ 1048576) :
    Calls Tryd.prog 6 #[.slice A ts.length c, .slice A2 v.length c2] w fun e w' => e = .returned (.int .i64 (widthV ts v)) ∧ Below w.heap.size w w' := by
  obtain ⟨R, hR⟩ : ∃ R, widthV ts v = R := ⟨_, rfl⟩
  have HR := Lib.hid hR
  rw [hR]
  clear hR
  go_enter Tryd.func6, Tryd.ntmps6
  go_wp2_with fail
  refine (specBaseOk_any A c ts w hT hft hlT).mono ?_
  rintro e w1 ⟨rfl, hW1⟩
  cases hb : baseB ts with
  | false =>
    have HE := Lib.hid (show R = -1 by rw [← HR.out]; exact widthV_no fun h => by rw [hb] at h; cases h.1)
    clear hb
    go_wp2
    go_ret
    exact ⟨ret_int HE.out.symm, hW1⟩
  | true =>
  have HB := Lib.hid hb
  clear hb
  go_wp2_with fail
  refine (specViewOk_any A2 c2 v w1 (hN.on hW1) hfn hlv).mono ?_
  rintro e w2 ⟨rfl, hb2⟩
  have hW2 := bel_step hW1 hb2
  cases hv : viewB v with
  | false =>
    have HE := Lib.hid (show R = -1 by rw [← HR.out]; exact widthV_no fun h => by rw [hv] at h; cases h.2)
    clear hv
    go_wp2
    go_ret
    exact ⟨ret_int HE.out.symm, hW2⟩
  | true =>
  have HV := Lib.hid hv
  clear hv
  go_wp2_with fail
  refine (l9Widths_any A A2 c c2 ts v w2 (hT.on hW2) hlT (hN.on hW2) hfn HB.out HV.out).mono ?_
  rintro e w3 ⟨A3, c3, ys, rfl, hI, hb3, hno, hyes⟩
  have hW3 := bel_step hW2 hb3
  cases hp : pile ts v v.length with
  | none =>
    have HE := Lib.hid (show R = -1 by rw [← HR.out]; exact widthV_none hp)
    obtain rfl := hno hp
    clear hp hno hyes hb3
    go_wp2
    go_ret
    exact ⟨ret_int HE.out.symm, hW3⟩
  | some p =>
    obtain ⟨h0, h9, h1⟩ := hyes p hp
    have HE := Lib.hid (show R = ix ys (ys.length - 1) by rw [← HR.out, h1]; exact widthV_some HB.out HV.out hp)
    obtain ⟨b, off, rfl, hbl, hc⟩ := hI h0
    have hck := hc (ys.length - 1) (by omega)
    obtain ⟨m, hm⟩ : ∃ m, ys.length - 1 = m := ⟨_, rfl⟩
    rw [hm] at hck HE
    obtain ⟨n, hn⟩ : ∃ n, ys.length = n := ⟨_, rfl⟩
    rw [hn] at hm h0 h9 ⊢
    generalize ix ys m = y at *
    have hm0 : ((n : Int) == 0) = false := by rw [beq_eq_false_iff_ne]; omega
    have hw1 : IntKind.i64.wrap ((n : Int) - 1) = (m : Int) := by rw [IntKind.wrap_i64]; omega
    have hlm : (m : Int) < (n : Int) := by omega
    clear hp hno hyes hb3 hc hI h1 hm h0 hn h9
    go_wp2
    go_ret
    exact ⟨ret_int HE.out.symm, hW3⟩
end Go.Proofs.YtejgofhpjkebbaaDoor
