/- Contracts of container/heap over the heap of counts: Init and Pop. For heaps of at most 2^40. -/
import Derived.Test.YtcfnbpofbcendabHeap3
namespace Go.Proofs.Ytcfnbpofbcendab
open Go.RowKit

theorem down_at (lo hi top p g cap i0 n : Nat) (x y : Int) (es : List Ent) (w : World) (h : HP w lo hi p g cap es) (hgt : g < top) (hn : n ≤ es.length) (hi0 : i0 ≤ es.length) (hl : es.length ≤ 1099511627776) (hx : x = (i0 : Int)) (hy : y = (n : Int)) :
    Calls Try.prog 55 #[.iface 70 (.pointer (some ⟨p, 0, none⟩)), .int .i64 x, .int .i64 y] w (Down lo hi top p g cap i0 n es w) := by
  subst hx hy; exact down_any lo hi top p g cap i0 n es w h hgt hn hi0 hl
/-- What Init leaves. -/
def Inited (lo hi top p g cap : Nat) (es : List Ent) (w : World) (e : Ending) (w' : World) : Prop :=
  (∃ v, e = .returned v) ∧ ∃ fs, HP w' lo hi p g cap fs ∧ fs.length = es.length ∧ fs.Perm es ∧ HF fs es.length 0 ∧ Within lo top w w'
set_option maxRecDepth 100000 in
set_option maxHeartbeats 2000000 in
theorem heapInit_any (lo hi top p g cap : Nat) (es : List Ent) (w : World) (h : HP w lo hi p g cap es) (hgt : g < top) (hl : es.length ≤ 1099511627776) :
    Calls Try.prog 47 #[.iface 70 (.pointer (some ⟨p, 0, none⟩))] w (Inited lo hi top p g cap es w) := by
  have hm := h.mLen
  go_enter Try.func47, Try.ntmps47
  go_wp2_with fail
  refine (heapLen_any _ _ _ w).mono ?_
  rintro e w1 ⟨rfl, rfl⟩
  clear hm
  go_wp2
  go_loopw [3] (fun s wr => ∃ (a : Nat) (fs : List Ent), a ≤ es.length ∧ s = .int .i64 ((a : Int) - 1) ∧ HP wr lo hi p g cap fs ∧ fs.length = es.length ∧ fs.Perm es ∧ HF fs es.length a ∧ Within lo top w wr) (fun s _ => (intOf s + 1).toNat)
  case atStart => exact ⟨es.length / 2, es, by omega, by rw [show ((es.length / 2 : Nat) : Int) = (es.length : Int) / 2 by omega], h, rfl, List.Perm.refl _, HF.half _ _, Within.refl _ _ _⟩
  case round =>
    obtain ⟨a, fs, ha, rfl, hH, hfl, hpm, hF, hW⟩ := hrel
    have HFL := Lib.hid hfl
    have HPM := Lib.hid hpm
    have HHF := Lib.hid hF
    clear hpm hF
    by_cases h0 : 0 < a
    · have h1 : (0 : Int) ≤ (a : Int) - 1 := by omega
      have h2 : fs.length ≤ 1099511627776 := by omega
      have h3 : es.length ≤ fs.length := by omega
      have h4 : a - 1 ≤ fs.length := by omega
      clear hfl
      go_wp2_with fail
      refine (down_at lo hi top p g cap (a - 1) es.length _ _ fs wr hH hgt h3 h4 h2 (by omega) rfl).mono ?_
      rintro e w2 ⟨⟨v, rfl⟩, fs2, hH2, hl2, hp2, _, hF2, hb2⟩
      have HL2 := Lib.hid (hl2.trans HFL.out)
      have HP2 := Lib.hid (hp2.trans HPM.out)
      have HF2 := Lib.hid (hF2 (by rw [show a - 1 + 1 = a by omega]; exact HHF.out))
      have hW2 := hW.trans hb2
      clear hl2 hp2 hF2 hb2 hH hW
      go_wp2
      go_roundw
      case rel => exact ⟨a - 1, fs2, by omega, by go_num, hH2, HL2.out, HP2.out, HF2.out, hW2⟩
      case measure => simp [intOf]; omega
    · have ha0 : a = 0 := by omega
      have hd : decide ((0 : Int) ≤ (a : Int) - 1) = false := by simp; omega
      have HA := Lib.hid ha0
      clear ha0 hfl
      go_wp2
      go_end0
      exact ⟨⟨_, rfl⟩, fs, hH, HFL.out, HPM.out, (by have := HHF.out; rwa [HA.out] at this), hW⟩

theorem swp_self (es : List Ent) (i : Nat) (h : i < es.length) : swp es i i = es := by
  unfold swp; rw [ex_eq h]; simp
set_option maxRecDepth 100000 in
set_option maxHeartbeats 1000000 in
theorem heapSwap_same (lo hi g cap : Nat) (es : List Ent) (i : Nat) (w : World) (h : HC w lo hi g cap es) (hil : i < es.length) :
    Calls Try.prog 74 #[.slice (some ⟨g, 0, none⟩) es.length cap, .int .i64 i, .int .i64 i] w fun e w' => (∃ v, e = .returned v) ∧ HC w' lo hi g cap (swp es i i) ∧ w.grownBy w' (some g) := by
  obtain ⟨ci0, ci1, fi0, fi1⟩ := h.cells hil
  go_enter Try.func74, Try.ntmps74
  go_wp2_with fail
  go_region
  have hei := h.2 es[i] (List.getElem_mem hil)
  rw [← ex_eq hil] at hei
  have h1 := h.set hil (ex es i) hei
  have hk1 : RowG ((w.setCell ⟨g, i * 2, none⟩ (.slice (ex es i).A (ex es i).r.length (ex es i).c)).setCell ⟨g, i * 2 + 1, none⟩ (.int .i64 (ex es i).n)) hi g (ex es i).A (ex es i).r := hei.1.keep (by simp) fun p _ hp _ => by
    rw [World.cell?_setCell_other _ _ _ _ (fun e => by subst e; exact hp rfl), World.cell?_setCell_other _ _ _ _ (fun e => by subst e; exact hp rfl)]
  have h2 := h1.set (i := i) (by rw [List.length_set]; exact hil) (ex es i) ⟨hk1, hei.2⟩
  have hg2 : w.grownBy ((((w.setCell ⟨g, i * 2, none⟩ (.slice (ex es i).A (ex es i).r.length (ex es i).c)).setCell ⟨g, i * 2 + 1, none⟩ (.int .i64 (ex es i).n)).setCell ⟨g, i * 2, none⟩ (.slice (ex es i).A (ex es i).r.length (ex es i).c)).setCell ⟨g, i * 2 + 1, none⟩ (.int .i64 (ex es i).n)) (some g) :=
    grown_trans (grown_trans (grown_trans (grown_setCell _ g _ _) (grown_setCell _ g _ _)) (grown_setCell _ g _ _)) (grown_setCell _ g _ _)
  have H2 := Lib.hid h2
  have HG2 := Lib.hid hg2
  clear h1 h2 hg2 hk1 hei
  go_end0
  exact ⟨⟨_, rfl⟩, H2.out, grown_trans HG2.out (grown_drew _ _)⟩
theorem heapSwap_to (lo hi g cap : Nat) (es : List Ent) (i j : Nat) (x y : Int) (w : World) (h : HC w lo hi g cap es) (hil : i < es.length) (hj : j < es.length) (hx : x = (i : Int)) (hy : y = (j : Int)) :
    Calls Try.prog 74 #[.slice (some ⟨g, 0, none⟩) es.length cap, .int .i64 x, .int .i64 y] w fun e w' => (∃ v, e = .returned v) ∧ HC w' lo hi g cap (swp es i j) ∧ w.grownBy w' (some g) := by
  by_cases e : i = j
  · subst e hx hy; exact heapSwap_same lo hi g cap es i w h hil
  · exact heapSwap_at lo hi g cap es i j x y w h hil hj e hx hy

theorem HC.take {w : World} {lo hi g cap : Nat} {es : List Ent} (h : HC w lo hi g cap es) {k : Nat} (hk : k ≤ es.length) : HC w lo hi g cap (es.take k) := by
  obtain ⟨cur, h2, h3, h4, h5, h6, h7⟩ := h.parts
  have hl : (es.take k).length = k := by simp; omega
  refine ⟨⟨by rw [entCells_length], .inr ⟨g, cap, cur, rfl, h2, h3, by omega, h5, h6, ?_⟩⟩, fun e he => h.2 e (List.mem_of_mem_take he)⟩
  rw [hl, ← entCells_take es k hk, ← h7, List.take_take, Nat.min_eq_left (by omega)]
set_option maxRecDepth 100000 in
set_option maxHeartbeats 2000000 in
theorem hpPop_any (lo hi top p g cap n : Nat) (es : List Ent) (w : World) (h : HP w lo hi p g cap es) (hpt : p < top) (hn : es.length = n + 1) (hl : es.length ≤ 1099511627776) :
    Calls Try.prog 75 #[.pointer (some ⟨p, 0, none⟩)] w fun e w' => e = .returned (.iface 33 (.agg #[.slice (ex es n).A (kx es n).length (ex es n).c, .int .i64 (ex es n).n])) ∧ HP w' lo hi p g cap (es.take n) ∧ RowG w' hi g (ex es n).A (kx es n) ∧ Within lo top w w' := by
  obtain ⟨c0, c1, _, _⟩ := h.2.2.cells (i := n) (by omega)
  have hp0 : w.cell? ⟨p, 0, none⟩ = some (.slice (some ⟨g, 0, none⟩) es.length cap) := h.1.cell 0
  have hpf := h.1.frozen 0
  have hcap : es.length ≤ cap := h.2.2.parts.choose_spec.2.2.1
  have hpl := h.1.lt
  have htl : (es.take n).length = n := by rw [List.length_take]; omega
  have hS : HP (w.setCell ⟨p, 0, none⟩ (.slice (some ⟨g, 0, none⟩) n cap)) lo hi p g cap (es.take n) := by
    refine ⟨?_, h.2.1, ?_⟩
    · rw [htl]
      have := h.1.set_ 0 (.slice (some ⟨g, 0, none⟩) n cap)
      simpa using this
    · have hc := h.2.2.take (k := n) (by omega)
      have hne := h.ne
      refine ⟨own_keepB hc.1 fun r e => Below.heap_setCell _ _ _ _ (fun e2 => hne (((Option.some.inj e).trans e2).symm)), fun e he => ⟨(hc.2 e he).1.keep (by simp) fun q hq _ _ => World.cell?_setCell_other _ _ _ _ (fun e2 => by subst e2; have := h.2.1; simp at hq; omega), (hc.2 e he).2⟩⟩
  have hRn : RowG w hi g (ex es n).A (kx es n) := by
    have := (h.2.2.2 es[n] (List.getElem_mem (by omega))).1
    rw [← ex_eq (show n < es.length by omega)] at this
    exact this
  have hRS : RowG (w.setCell ⟨p, 0, none⟩ (.slice (some ⟨g, 0, none⟩) n cap)) hi g (ex es n).A (kx es n) := hRn.keep (by simp) fun q hq _ _ => World.cell?_setCell_other _ _ _ _ (fun e2 => by subst e2; have := h.2.1; simp at hq; omega)
  have hRH := hRS.on ((Below.refl _ _).alloc (Nat.le_refl _) (.cells #[.slice (ex es n).A (kx es n).length (ex es n).c, .int .i64 (ex es n).n] 33))
  have hH := hS.on ((Below.refl _ _).alloc (Nat.le_refl _) (.cells #[.slice (ex es n).A (kx es n).length (ex es n).c, .int .i64 (ex es n).n] 33))
  have hB : Within lo top w ((w.setCell ⟨p, 0, none⟩ (.slice (some ⟨g, 0, none⟩) n cap)).alloc (.cells #[.slice (ex es n).A (kx es n).length (ex es n).c, .int .i64 (ex es n).n] 33)) := ((Within.refl lo top w).setCell (p := ⟨p, 0, none⟩) ⟨h.2.1.1, hpt⟩ _).trans (Within.of_below ((Below.refl _ _).alloc (Nat.le_refl _) _))
  have HH := Lib.hid hH
  have HB := Lib.hid hB
  have HR := Lib.hid hRH
  have hni : (es.length : Int) = (n : Int) + 1 := by omega
  have hn0 : (0 : Int) ≤ (n : Int) := by omega
  have hn1 : (n : Int) < (es.length : Int) := by omega
  have hn2 : (n : Int) ≤ (cap : Int) := by omega
  clear hH hB hS h htl hRn hRS hRH
  go_enter Try.func75, Try.ntmps75
  go_wp2
  go_ret
  exact ⟨rfl, HH.out, HR.out, HB.out⟩

theorem HP.mPop (p : Nat) (w : World) : ∀ fuel, (method (fuel + 1) 70 (.pointer (some ⟨p, 0, none⟩)) "Pop").run Try.prog w = .ok (75, .pointer (some ⟨p, 0, none⟩)) w := fun _ => by kernel_rfl
/-- What Pop leaves: the least comes out. -/
def Popped (lo hi top p g cap n : Nat) (es : List Ent) (w : World) (e : Ending) (w' : World) : Prop :=
  e = .returned (.iface 33 (.agg #[.slice (ex es 0).A (kx es 0).length (ex es 0).c, .int .i64 (ex es 0).n])) ∧ ∃ fs, HP w' lo hi p g cap fs ∧ fs.length = n ∧ es.Perm (ex es 0 :: fs) ∧ HF fs n 0 ∧ (∀ f ∈ fs, lessB f.r (kx es 0) = false) ∧ RowG w' hi g (ex es 0).A (kx es 0) ∧ Within lo top w w'
theorem pop_facts {es es2 : List Ent} {n : Nat} (hn : es.length = n + 1) (hF : HF es (n + 1) 0) (hl : es2.length = es.length) (hp : es2.Perm (swp es 0 n)) (hx : ∀ j, n ≤ j → ex es2 j = ex (swp es 0 n) j) (hd : HF (swp es 0 n) n 1 → HF es2 n 0) :
    ex es2 n = ex es 0 ∧ es.Perm (ex es 0 :: es2.take n) ∧ HF (es2.take n) n 0 ∧ ∀ f ∈ es2.take n, lessB f.r (kx es 0) = false := by
  have h0 : 0 < es.length := by omega
  have hnl : n < es.length := by omega
  have hn2 : n < es2.length := by omega
  have e1 : ex es2 n = ex es 0 := by rw [hx n (Nat.le_refl _), ex_swp h0 hnl, if_pos rfl]
  have hper : es.Perm (ex es 0 :: es2.take n) := by
    have a1 : es.Perm es2 := (hp.trans (swp_perm h0 hnl)).symm
    have a2 : es2 = es2.take n ++ [ex es 0] := by
      have := List.take_succ_eq_append_getElem hn2
      rw [List.take_of_length_le (by omega), ← ex_eq hn2, e1] at this
      exact this
    rw [a2] at a1
    exact a1.trans (List.perm_append_singleton _ _)
  have hF1 : HF (swp es 0 n) n 1 := by
    intro j h1 h2 h3
    rw [kx_swp h0 hnl, kx_swp h0 hnl, if_neg (by omega), if_neg (by omega), if_neg (by omega), if_neg (by omega)]
    exact hF j h1 (by omega) (Nat.zero_le _)
  have hF2 := hd hF1
  have hk : ∀ j, j < n → kx (es2.take n) j = kx es2 j := by
    intro j hj
    unfold kx ex
    rw [List.getElem?_take, if_pos hj]
  refine ⟨e1, hper, fun j h1 h2 h3 => ?_, fun f hf => ?_⟩
  · rw [hk j h2, hk _ (by omega)]; exact hF2 j h1 h2 h3
  · have hm : f ∈ es := hper.symm.subset (List.mem_cons_of_mem _ hf)
    obtain ⟨j, hj, rfl⟩ := List.getElem_of_mem hm
    have := heap_min hF j (by omega)
    rwa [show kx es j = es[j].r by unfold kx; rw [ex_eq hj]] at this
set_option maxRecDepth 100000 in
set_option maxHeartbeats 4000000 in
theorem heapPop_any (lo hi top p g cap n : Nat) (es : List Ent) (w : World) (h : HP w lo hi p g cap es) (hgt : g < top) (hpt : p < top) (hn : es.length = n + 1) (hF : HF es (n + 1) 0) (hl : es.length ≤ 1099511627776) :
    Calls Try.prog 49 #[.iface 70 (.pointer (some ⟨p, 0, none⟩))] w (Popped lo hi top p g cap n es w) := by
  have HN := Lib.hid hn
  have HHF := Lib.hid hF
  have hn1 : n < es.length := by omega
  have hn2 : es.length ≤ n + 1 := by omega
  clear hF hn
  have hm := h.mLen
  go_enter Try.func49, Try.ntmps49
  go_wp2_with fail
  refine (heapLen_any _ _ _ w).mono ?_
  rintro e w1 ⟨rfl, rfl⟩
  have hm2 := h.mSwap
  clear hm
  go_wp2_with fail
  refine (heapSwap_to lo hi g cap es 0 n _ _ w h.2.2 (by omega) hn1 rfl (by omega)).mono ?_
  rintro e w2 ⟨⟨v2, rfl⟩, hC2, hg2⟩
  have hH2 : HP w2 lo hi p g cap (swp es 0 n) := h.turned hC2 (swp_length _ _ _) hg2
  have hW2 : Within lo top w w2 := Within.of_grown hg2 (.inl ⟨h.2.2.lt.1, hgt⟩)
  have hsl : (swp es 0 n).length = es.length := swp_length _ _ _
  have h3 : n ≤ (swp es 0 n).length := by omega
  have h4 : (swp es 0 n).length ≤ 1099511627776 := by omega
  have HSL := Lib.hid hsl
  clear hm2 h hC2 hg2 hsl
  go_wp2_with fail
  refine (down_at lo hi top p g cap 0 n _ _ (swp es 0 n) w2 hH2 hgt h3 (Nat.zero_le _) h4 rfl (by omega)).mono ?_
  rintro e w3 ⟨⟨v3, rfl⟩, es3, hH3, hl3, hp3, hx3, hF3, hb3⟩
  have hW3 := hW2.trans hb3
  have hl3' := hl3.trans HSL.out
  obtain ⟨e1, e2, e3, e4⟩ := pop_facts HN.out HHF.out hl3' hp3 hx3 hF3
  have HE1 := Lib.hid e1
  have HE2 := Lib.hid e2
  have HE3 := Lib.hid e3
  have HE4 := Lib.hid e4
  have HL3 := Lib.hid (hl3'.trans HN.out)
  have hl5 : es3.length ≤ 1099511627776 := by omega
  clear e1 e2 e3 e4 hl3 hl3' hp3 hx3 hF3 hb3 hH2 hW2 HSL h3 h4
  have hm4 := HP.mPop p w3
  go_wp2_with fail
  refine (hpPop_any lo hi top p g cap n es3 w3 hH3 hpt HL3.out hl5).mono ?_
  rintro e w4 ⟨rfl, hH4, hR4, hb4⟩
  have hW4 := hW3.trans hb4
  have HK := Lib.hid (show kx es3 n = kx es 0 by unfold kx; rw [HE1.out])
  rw [HK.out, HE1.out] at hR4 ⊢
  have HR4 := Lib.hid hR4
  clear hm4 hH3 hW3 hb4 hR4
  go_wp2
  go_ret
  exact ⟨rfl, es3.take n, hH4, (by rw [List.length_take]; have := HL3.out; omega), HE2.out, HE3.out, HE4.out, HR4.out, hW4⟩
end Go.Proofs.Ytcfnbpofbcendab
