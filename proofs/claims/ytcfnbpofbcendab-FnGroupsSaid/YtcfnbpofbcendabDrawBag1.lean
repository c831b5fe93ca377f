/- Contracts of the drawing of bags, first part: l2Draw: a bag in new memory, of 7 counts at most; the cursor goes on; nothing else that lay has turned. Words for a drawn bag whose rows may be shared. -/
import Derived.Test.YtcfnbpofbcendabDraw2
import Derived.Test.YtcfnbpofbcendabJD
namespace Go.Proofs.Ytcfnbpofbcendab
open Go.RowKit

theorem Cur.belowB {w w' : World} {c B : Nat} (h : Cur w c) (hb : Below B w w') (hc : c < B) : Cur w' c := by
  unfold Cur at h ⊢
  obtain ⟨A, cap, zs, i, hh, hB, hU, h1, h2⟩ := h
  exact ⟨A, cap, zs, i, hh, hB.below hb hc, hU.keep (fun p hp => hb.cell (by omega)), h1, h2⟩
theorem grown_below {a b d : World} {c B : Nat} (h : a.grownBy b (some c)) (k : Below B b d) (hB : a.heap.size ≤ B) : a.grownBy d (some c) :=
  ⟨k.os.trans h.os, k.tape.trans h.tape, k.output.trans h.output, Nat.le_trans h.size k.size, fun i hi hne => (k.block i (by omega)).trans (h.block i hi hne)⟩
theorem OBag.grownC {w w' : World} {lo c : Nat} {v : Value} {es : List Ent} (h : OBag w lo v es) (hg : w.grownBy w' (some c)) (hc : c < lo) : OBag w' lo v es :=
  h.keep h.inside fun b h1 h2 => hg.block b h2 (fun e => by injection e with e; omega)
theorem Row.grownC {w w' : World} {t : TypeId} {A : Option Addr} {zs : List Int} {g c : Nat} (h : Row w t A zs g) (hg : w.grownBy w' (some c)) (hc : 0 < zs.length → g ≠ c) : Row w' t A zs g :=
  h.kept hg fun hn e => hc hn (Option.some.inj e)

/-- A drawn bag: its counts begin block g, its rows lie in blocks of numbers. -/
def RB (w : World) (lo g cap : Nat) (es : List Ent) : Prop :=
  w.ownsRow lo 33 2 (.slice (some ⟨g, 0, none⟩) es.length cap) es.length (entCells es) ∧ ∀ e ∈ es, Row w 2 e.A e.r e.g
theorem OB.rb {w : World} {lo g cap : Nat} {es : List Ent} (h : OB w lo g cap es) : RB w lo g cap es := ⟨h.1, fun e he => (h.2.1 e he).1⟩
theorem row_not {w : World} {lo : Nat} {v : Value} {n : Nat} {xs : List Value} {A : Option Addr} {r : List Int} {b : Nat} (hown : w.ownsRow lo 33 2 v n xs) (hR : Row w 2 A r b) (hn : 0 < r.length) : some b ≠ v.ownBlock := by
  intro e
  obtain ⟨_, cur, hc, _⟩ := hR hn
  rcases hown.2 with ⟨rfl, _⟩ | ⟨g, cap, cur', rfl, _, hg, _⟩
  · cases e
  · have : b = g := Option.some.inj e
    subst this
    rw [hc] at hg
    injection hg with hg
    injection hg with _ h2 _
    exact absurd h2 (by decide)
theorem RB.bag {w : World} {lo g cap : Nat} {es : List Ent} (h : RB w lo g cap es) (hl : ∀ e ∈ es, e.r.length ≤ 1099511627776) : Bag w w.heap.size (some ⟨g, 0, none⟩) (es.map Ent.pair) := fun hn => by
  simp only [List.length_map] at hn
  rcases h.1.2 with ⟨hv, _⟩ | ⟨g', cap', cur, hv, hg, hh, _, _, hs, ht⟩
  · cases hv
  · injection hv with hv _ _
    injection hv with hv
    injection hv with hv _ _
    subst hv
    have hlt := Blk.lt (t := 33) (cs := cur) hh
    refine ⟨g, 0, rfl, hlt, fun j hj => ?_⟩
    simp only [List.length_map] at hj
    have e0 : ∀ i, i < es.length * 2 → w.cell? ⟨g, 0 + i, none⟩ = (entCells es)[i]? := by
      intro i hi
      rw [Nat.zero_add, Blk.cell (t := 33) (cs := cur) hh i, ← ht, List.getElem?_take, if_pos hi, Array.getElem?_toList]
    have h1 := h.2 es[j] (List.getElem_mem hj)
    rw [rx_map hj, nx_map hj]
    refine ⟨es[j].A, es[j].c, ?_, ?_, h1.ints, hl _ (List.getElem_mem hj)⟩
    · rw [e0 (j * 2) (by omega), entCells_get0 es j hj]
    · rw [show 0 + j * 2 + 1 = 0 + (j * 2 + 1) by omega, e0 (j * 2 + 1) (by omega), entCells_get1 es j hj]
theorem RB.on {w w' : World} {lo g cap : Nat} {es : List Ent} (h : RB w lo g cap es) (hb : Below w.heap.size w w') : RB w' lo g cap es :=
  ⟨own_keepB h.1 fun r e => hb.block r (h.1.lt r e).2, fun e he => (h.2 e he).on hb⟩
theorem RB.cap {w : World} {lo g cap : Nat} {es : List Ent} (h : RB w lo g cap es) : es.length ≤ cap := by
  rcases h.1.2 with ⟨hv, _⟩ | ⟨g', cap', cur, hv, _, _, h4, _⟩
  · cases hv
  · injection hv with _ _ h3; omega
/-- Behind an append to it. -/
theorem RB.grow {w w' : World} {lo g cap : Nat} {es fs : List Ent} {v' : Value} {n : Nat} (h : RB w lo g cap es) (hg : w.grownBy w' (some g)) (hn : n = (es ++ fs).length) (hown : w'.ownsRow lo 33 2 v' n (entCells es ++ entCells fs)) (hat : v'.ownBlock = some g ∨ v'.ownBlock = some w.heap.size)
    (hfs : ∀ e ∈ fs, Row w 2 e.A e.r e.g) : ∃ g' cap', v' = .slice (some ⟨g', 0, none⟩) (es ++ fs).length cap' ∧ RB w' lo g' cap' (es ++ fs) := by
  subst hn
  obtain ⟨g', hv⟩ : ∃ g', v'.ownBlock = some g' := by
    rcases hat with h | h
    · exact ⟨_, h⟩
    · exact ⟨_, h⟩
  have hform : ∃ cap', v' = .slice (some ⟨g', 0, none⟩) (es ++ fs).length cap' := by
    rcases hown.2 with ⟨rfl, _⟩ | ⟨g2, cap2, cur, rfl, _⟩
    · cases hv
    · have e : g2 = g' := Option.some.inj hv
      subst e
      exact ⟨cap2, rfl⟩
  obtain ⟨cap', rfl⟩ := hform
  refine ⟨g', cap', rfl, by rw [entCells_append]; exact hown, fun e he => ?_⟩
  have hR : Row w 2 e.A e.r e.g := by
    rcases List.mem_append.1 he with he | he
    · exact h.2 e he
    · exact hfs e he
  exact hR.kept hg fun hn => row_not h.1 hR hn

/-- What the drawing of an own bag leaves. -/
def DrawnOB (c most wide : Nat) (w : World) (e : Ending) (w' : World) : Prop :=
  ∃ g cap es, e = .returned (.slice (some ⟨g, 0, none⟩) es.length cap) ∧ OB w' w.heap.size g cap es ∧ es.length ≤ most ∧ (∀ e ∈ es, e.r.length ≤ wide) ∧ Cur w' c ∧ w.grownBy w' (some c)

theorem withL_ents {es es' : List Ent} {row : List Int} {n : Int} {m : Nat} (h : ∀ e ∈ es, e.r.length ≤ m) (hr : row.length ≤ m) (he : es'.map Ent.pair = withL (es.map Ent.pair) row n) : (∀ e ∈ es', e.r.length ≤ m) ∧ es'.length ≤ es.length + 1 := by
  constructor
  · intro e hm
    have hp : e.pair ∈ withL (es.map Ent.pair) row n := by rw [← he]; exact List.mem_map_of_mem hm
    have hsub : e.pair ∈ es.map Ent.pair ∨ e.pair.1 = row := by
      unfold withL at hp
      split at hp
      · split at hp
        · rcases List.mem_append.1 hp with hp | hp
          · exact .inl (List.mem_of_mem_take hp)
          · exact .inl (List.mem_of_mem_drop hp)
        · rcases List.mem_append.1 hp with hp | hp
          · exact .inl (List.mem_of_mem_take hp)
          · rcases List.mem_cons.1 hp with hp | hp
            · exact .inr (by rw [hp])
            · exact .inl (List.mem_of_mem_drop hp)
      · split at hp
        · exact .inl hp
        · rcases List.mem_append.1 hp with hp | hp
          · exact .inl (List.mem_of_mem_take hp)
          · rcases List.mem_cons.1 hp with hp | hp
            · exact .inr (by rw [hp])
            · exact .inl (List.mem_of_mem_drop hp)
    rcases hsub with h1 | h1
    · obtain ⟨f, hf, e1⟩ := List.mem_map.1 h1
      have : e.r = f.r := by have := congrArg Prod.fst e1; exact this.symm
      rw [this]; exact h f hf
    · have : e.r = row := h1
      rw [this]; exact hr
  · have := congrArg List.length he
    have h2 := withL_length (bag := es.map Ent.pair) (row := row) (n := n)
    rw [List.length_map] at this h2
    omega

set_option maxRecDepth 100000 in
set_option maxHeartbeats 4000000 in
theorem l2Draw_any (c wd : Nat) (sg : Bool) (w : World) (hC : Cur w c) (hwd : wd ≤ 1000) :
    Calls Try.prog 13 #[.pointer (some ⟨c, 0, none⟩), .int .i64 wd, .bool sg] w (DrawnOB c 8 1000 w) := by
  have hcl := hC.lt
  have b1 := (Below.refl w.heap.size w).alloc (Nat.le_refl _) (.cells #[] 33)
  have hE := OBag.nil (empty_counts w)
  have hC0 : Cur (w.alloc (.cells #[] 33)) c := hC.below b1
  have hG0 : w.grownBy (w.alloc (.cells #[] 33)) (some c) := World.grownBy_alloc w _ _
  go_enter Try.func13, Try.ntmps13
  go_wp2_with fail
  refine (l1Below_any c 8 _ hC0 (by omega) (by omega)).mono ?_
  rintro e w1 ⟨x, rfl, hx0, hx1, _, hC1, hg1⟩
  obtain ⟨n, rfl⟩ := Int.eq_ofNat_of_zero_le hx0
  have hn8 : n < 8 := by have := hx1 (by omega); omega
  have hE1 : OB w1 w.heap.size w.heap.size 0 [] := OBag.grownC hE hg1 hcl
  have hG1 := grown_trans hG0 hg1
  clear hx0 hx1 hC0 hE hG0 hg1 b1
  go_wp2
  go_loopw [7, 8, 9] (fun v s _ wr => ∃ (j g cap : Nat) (es : List Ent), j + es.length ≤ 8 ∧ s = .int .i64 j ∧ v = .slice (some ⟨g, 0, none⟩) es.length cap ∧ OB wr w.heap.size g cap es ∧ (∀ e ∈ es, e.r.length ≤ 1000) ∧ Cur wr c ∧ w.grownBy wr (some c)) (fun _ s _ _ => (intOf s).toNat)
  case atStart => exact ⟨n, w.heap.size, 0, [], by simp; omega, rfl, rfl, hE1, (fun e he => by cases he), hC1, hG1⟩
  case round =>
    obtain ⟨j, g, cap, es, hjl, rfl, rfl, hO, hes, hCr, hGr⟩ := hrel
    have HES := Lib.hid hes
    clear hes hE1 hC1 hG1
    by_cases h0 : 0 < j
    · go_wp2_with fail
      refine (l1Below_any c 2 _ hCr (by omega) (by omega)).mono ?_
      rintro e w2 ⟨x2, rfl, h20, h21, _, hC2, hg2⟩
      have hO2 : OB w2 w.heap.size g cap es := OBag.grownC hO hg2 hcl
      have hG2 := grown_trans hGr hg2
      have hx2 := h21 (by omega)
      clear h21 hO hg2 hGr hCr
      cases sg with
      | false =>
        have hC3 := hC2
        have hO3 := hO2
        have hG3 := hG2
        clear hC2 hO2 hG2
        go_wp2_with fail
        refine (l1DrawRow_any c wd w2 hC3 hwd).mono ?_
        rintro e w4 ⟨v4, zs, rfl, hzl, hown4, hC4, hg4⟩
        obtain ⟨A4, c4, g4, rfl, _, hR4⟩ := Row.of_own hown4
        have hI4 := hR4.ints
        have hO4 : OB w4 w.heap.size g cap es := OBag.grownC hO3 hg4 hcl
        have hG4 := grown_trans hG3 hg4
        have hzl' : zs.length ≤ 1099511627776 := by omega
        have hzm : zs.length ≤ 1000 := by omega
        clear hown4 hR4 hg4 hO3 hG3 hC3
        go_wp2_with fail
        refine (l2With_any w.heap.size g cap es A4 c4 zs (1 + x2) w4 hG4.size hO4 hI4 (by omega) hzl' (fun e he => by have := HES.out e he; omega)).mono ?_
        rintro e w5 ⟨g5, cap5, es5, rfl, hO5, he5, hb5⟩
        obtain ⟨hes5, hel5⟩ := withL_ents HES.out hzm he5
        have HES5 := Lib.hid hes5
        have hC5 := hC4.belowB hb5 hcl
        have hG5 := grown_below hG4 hb5 (Nat.le_refl _)
        clear hes5 he5 hO4 hI4 hG4 hC4 hb5
        go_wp2
        go_roundw
        case rel => exact ⟨j - 1, g5, cap5, es5, by omega, by go_num, rfl, hO5, HES5.out, hC5, hG5⟩
        case measure => simp [intOf]; omega
      | true =>
        go_wp2_with fail
        refine (l1Once_any c 3 _ hC2 (by omega) (by omega)).mono ?_
        rintro e w3 ⟨b3, rfl, hC3, hg3⟩
        have hO3 : OB w3 w.heap.size g cap es := OBag.grownC hO2 hg3 hcl
        have hG3 := grown_trans hG2 hg3
        clear hC2 hO2 hG2 hg3
        cases b3 with
        | false =>
          go_wp2_with fail
          refine (l1DrawRow_any c wd w3 hC3 hwd).mono ?_
          rintro e w4 ⟨v4, zs, rfl, hzl, hown4, hC4, hg4⟩
          obtain ⟨A4, c4, g4, rfl, _, hR4⟩ := Row.of_own hown4
          have hI4 := hR4.ints
          have hO4 : OB w4 w.heap.size g cap es := OBag.grownC hO3 hg4 hcl
          have hG4 := grown_trans hG3 hg4
          have hzl' : zs.length ≤ 1099511627776 := by omega
          have hzm : zs.length ≤ 1000 := by omega
          clear hown4 hR4 hg4 hO3 hG3 hC3
          go_wp2_with fail
          refine (l2With_any w.heap.size g cap es A4 c4 zs (1 + x2) w4 hG4.size hO4 hI4 (by omega) hzl' (fun e he => by have := HES.out e he; omega)).mono ?_
          rintro e w5 ⟨g5, cap5, es5, rfl, hO5, he5, hb5⟩
          obtain ⟨hes5, hel5⟩ := withL_ents HES.out hzm he5
          have HES5 := Lib.hid hes5
          have hC5 := hC4.belowB hb5 hcl
          have hG5 := grown_below hG4 hb5 (Nat.le_refl _)
          clear hes5 he5 hO4 hI4 hG4 hC4 hb5
          go_wp2
          go_roundw
          case rel => exact ⟨j - 1, g5, cap5, es5, by omega, by go_num, rfl, hO5, HES5.out, hC5, hG5⟩
          case measure => simp [intOf]; omega
        | true =>
          go_wp2_with fail
          refine (l1DrawRow_any c wd w3 hC3 hwd).mono ?_
          rintro e w4 ⟨v4, zs, rfl, hzl, hown4, hC4, hg4⟩
          obtain ⟨A4, c4, g4, rfl, _, hR4⟩ := Row.of_own hown4
          have hI4 := hR4.ints
          have hO4 : OB w4 w.heap.size g cap es := OBag.grownC hO3 hg4 hcl
          have hG4 := grown_trans hG3 hg4
          have hzl' : zs.length ≤ 1099511627776 := by omega
          have hzm : zs.length ≤ 1000 := by omega
          clear hown4 hR4 hg4 hO3 hG3 hC3
          go_wp2_with fail
          refine (l2With_any w.heap.size g cap es A4 c4 zs (-(1 + x2)) w4 hG4.size hO4 hI4 (by omega) hzl' (fun e he => by have := HES.out e he; omega)).mono ?_
          rintro e w5 ⟨g5, cap5, es5, rfl, hO5, he5, hb5⟩
          obtain ⟨hes5, hel5⟩ := withL_ents HES.out hzm he5
          have HES5 := Lib.hid hes5
          have hC5 := hC4.belowB hb5 hcl
          have hG5 := grown_below hG4 hb5 (Nat.le_refl _)
          clear hes5 he5 hO4 hI4 hG4 hC4 hb5
          go_wp2
          go_roundw
          case rel => exact ⟨j - 1, g5, cap5, es5, by omega, by go_num, rfl, hO5, HES5.out, hC5, hG5⟩
          case measure => simp [intOf]; omega
    · have hd : decide (0 < j) = false := by simpa using h0
      go_wp2
      go_ret
      exact ⟨g, cap, es, rfl, hO, by omega, HES.out, hCr, hGr⟩
end Go.Proofs.Ytcfnbpofbcendab
