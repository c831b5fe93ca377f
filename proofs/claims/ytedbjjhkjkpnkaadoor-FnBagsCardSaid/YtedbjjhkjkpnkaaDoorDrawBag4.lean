/- Contracts of the drawing of bags, fourth part: DrawBagOk, DrawShowBag: a bag; DrawBagOf: a few rows, in new memory; nothing that lay has turned. -/
import Derived.Test.YtedbjjhkjkpnkaaDoorDrawBag3
import Derived.Test.YtedbjjhkjkpnkaaDoorJB
namespace Go.Proofs.YtedbjjhkjkpnkaaDoor
open Go.RowKit

def rowCells (es : List Ent) : List Value := es.map fun e => .slice e.A e.r.length e.c
/-- Drawn rows: their slices begin block g, the rows lie in blocks of numbers. -/
def RS (w : World) (lo g cap : Nat) (es : List Ent) : Prop :=
  w.ownsRow lo 28 1 (.slice (some ⟨g, 0, none⟩) es.length cap) es.length (rowCells es) ∧ ∀ e ∈ es, Row w 2 e.A e.r e.g
theorem row_not1 {w : World} {lo : Nat} {v : Value} {n : Nat} {xs : List Value} {A : Option Addr} {r : List Int} {b : Nat} (hown : w.ownsRow lo 28 1 v n xs) (hR : Row w 2 A r b) (hn : 0 < r.length) : some b ≠ v.ownBlock := by
  intro e
  obtain ⟨_, cur, hc, _⟩ := hR hn
  rcases hown.2 with ⟨rfl, _⟩ | ⟨g, cap, cur', rfl, _, hg, _⟩
  · cases e
  · have : b = g := Option.some.inj e
    subst this
    rw [hc] at hg
    injection hg with hg
    injection hg with _ h2 _
    exact absurd h2 (by decide)
theorem RS.rws {w : World} {lo g cap : Nat} {es : List Ent} (h : RS w lo g cap es) (hl : ∀ e ∈ es, e.r.length ≤ 1099511627776) : Rws w w.heap.size (some ⟨g, 0, none⟩) (es.map Ent.r) := fun hn => by
  simp only [List.length_map] at hn
  rcases h.1.2 with ⟨hv, _⟩ | ⟨g', cap', cur, hv, hg, hh, _, _, hs, ht⟩
  · cases hv
  · injection hv with hv _ _
    injection hv with hv
    injection hv with hv _ _
    subst hv
    have hlt := Blk.lt (t := 28) (cs := cur) hh
    refine ⟨g, 0, rfl, hlt, fun j hj => ?_⟩
    simp only [List.length_map] at hj
    have e0 : ∀ i, i < es.length → w.cell? ⟨g, 0 + i, none⟩ = (rowCells es)[i]? := by
      intro i hi
      rw [Nat.zero_add, Blk.cell (t := 28) (cs := cur) hh i, ← ht, List.getElem?_take, if_pos (by omega), Array.getElem?_toList]
    have h1 := h.2 es[j] (List.getElem_mem hj)
    have hr : rr (es.map Ent.r) j = es[j].r := by simp [rr, hj]
    rw [hr]
    refine ⟨es[j].A, es[j].c, ?_, h1.ints, hl _ (List.getElem_mem hj)⟩
    rw [e0 j hj]
    simp [rowCells, hj]
theorem RS.on {w w' : World} {lo g cap : Nat} {es : List Ent} (h : RS w lo g cap es) (hb : Below w.heap.size w w') : RS w' lo g cap es :=
  ⟨own_keepB h.1 fun r e => hb.block r (h.1.lt r e).2, fun e he => (h.2 e he).on hb⟩
theorem RS.grow {w w' : World} {lo g cap : Nat} {es : List Ent} {f : Ent} {v' : Value} {n : Nat} (h : RS w lo g cap es) (hg : w.grownBy w' (some g)) (hn : n = es.length + 1) (hown : w'.ownsRow lo 28 1 v' n (rowCells es ++ [.slice f.A f.r.length f.c])) (hat : v'.ownBlock = some g ∨ v'.ownBlock = some w.heap.size)
    (hf : Row w 2 f.A f.r f.g) : ∃ g' cap', v' = .slice (some ⟨g', 0, none⟩) (es ++ [f]).length cap' ∧ RS w' lo g' cap' (es ++ [f]) := by
  have hn' : n = (es ++ [f]).length := by simp [hn]
  subst hn'
  obtain ⟨g', hv⟩ : ∃ g', v'.ownBlock = some g' := by
    rcases hat with h | h
    · exact ⟨_, h⟩
    · exact ⟨_, h⟩
  have hform : ∃ cap', v' = .slice (some ⟨g', 0, none⟩) (es ++ [f]).length cap' := by
    rcases hown.2 with ⟨rfl, _⟩ | ⟨g2, cap2, cur, rfl, _⟩
    · cases hv
    · have e : g2 = g' := Option.some.inj hv
      subst e
      exact ⟨cap2, rfl⟩
  obtain ⟨cap', rfl⟩ := hform
  refine ⟨g', cap', rfl, by unfold rowCells at *; rw [List.map_append]; exact hown, fun e he => ?_⟩
  have hR : Row w 2 e.A e.r e.g := by
    rcases List.mem_append.1 he with he | he
    · exact h.2 e he
    · obtain rfl := List.mem_singleton.1 he; exact hf
  exact hR.kept hg fun hn => row_not1 h.1 hR hn
theorem RS.grownC {w w' : World} {lo g cap c : Nat} {es : List Ent} (h : RS w lo g cap es) (hg : w.grownBy w' (some c)) (hc : Cur w c) : RS w' lo g cap es := by
  have hc0 := hc
  obtain ⟨A, cp, zs, i, hh, hB, _⟩ := hc
  have hne : ∀ {v : Value} {n : Nat} {xs : List Value}, w.ownsRow lo 28 1 v n xs → v.ownBlock = none ∨ v.ownBlock ≠ some c := by
    intro v n xs hown
    right
    intro e
    rcases hown.2 with ⟨rfl, _⟩ | ⟨g', cap', cur', rfl, _, hg', _⟩
    · cases e
    · have : g' = c := Option.some.inj e
      subst this
      unfold Blk at hB
      rw [hB] at hg'
      injection hg' with hg'
      injection hg' with _ h2 _
      exact absurd h2 (by decide)
  exact ⟨h.1.kept hg (hne h.1), fun e he => (h.2 e he).kC hg hc0⟩
theorem reads_new1 (w : World) (t : TypeId) (u0 : Value) : Reads (w.alloc (.cells #[u0] t)) (w.heap.size + 1) 1 (some ⟨w.heap.size, 0, none⟩) 1 [u0] := by
  refine ⟨rfl, fun _ => ⟨_, rfl, Nat.lt_succ_self _, fun j u hu => ?_⟩⟩
  have hB := Blk.new w t #[u0]
  have ea : Addr.add ⟨w.heap.size, 0, none⟩ j = ⟨w.heap.size, 0 + j, none⟩ := by unfold Addr.add; split <;> simp_all
  rw [ea, Nat.zero_add, hB.cell j, ← hu]
  simp
theorem empty_rows (w : World) (lo : Nat) (h : lo ≤ w.heap.size) : (w.alloc (.cells #[] 28)).ownsRow lo 28 1 (.slice (some ⟨w.heap.size, 0, none⟩) 0 0) 0 [] :=
  World.ownsRow_made w #[] 0 h (Nat.zero_le _) rfl
theorem info_rowD : (Tryd.prog.info? 28).map (fun i => (i.zero, i.size, i.bytes)) = some (some (.slice none 0 0), 1, 24) := by kernel_rfl

/-- A few rows, drawn from a code. -/
def DrawnRows (w : World) (e : Ending) (w' : World) : Prop :=
  ∃ g cap rows, e = .returned (.slice (some ⟨g, 0, none⟩) rows.length cap) ∧ Rws w' w'.heap.size (some ⟨g, 0, none⟩) rows ∧ rows.length ≤ 8 ∧ (∀ j, j < rows.length → (rr rows j).length ≤ 1000) ∧ Below w.heap.size w w'
theorem RS.drawn {w w' : World} {lo g cap : Nat} {es : List Ent} {v : Value} (h : RS w' lo g cap es) (hv : v = .slice (some ⟨g, 0, none⟩) es.length cap) (hl : es.length ≤ 8) (he : ∀ e ∈ es, e.r.length ≤ 1000) (hb : Below w.heap.size w w') : DrawnRows w (.returned v) w' := by
  refine ⟨g, cap, es.map Ent.r, by rw [hv, List.length_map], h.rws (fun e h => by have := he e h; omega), by simpa using hl, fun j hj => ?_, hb⟩
  rw [List.length_map] at hj
  have hr : rr (es.map Ent.r) j = es[j].r := by simp [rr, hj]
  rw [hr]
  exact he _ (List.getElem_mem hj)

set_option maxRecDepth 100000 in
set_option maxHeartbeats 4000000 in
theorem drawBagOf_any (A : Option Addr) (cap : Nat) (zs : List Int) (w : World) (hU : U8s w w.heap.size A zs) (hl : zs.length ≤ 1048576) :
    Calls Tryd.prog 5 #[.slice A zs.length cap] w (DrawnRows w) := by
  obtain ⟨i0, hi0, hz0, hz1, hz2⟩ := info_parts info_rowD
  go_enter Tryd.func5, Tryd.ntmps5
  go_wp2_with fail
  refine (l1New_any A cap zs _ hU hl).mono ?_
  rintro e w1 ⟨rfl, hC1, hb1⟩
  have hcl := hC1.lt
  obtain ⟨c, hc⟩ : ∃ c, c = w.heap.size := ⟨_, rfl⟩
  have HC := Lib.hid hc
  rw [← hc] at hC1 hcl ⊢
  clear hc
  have hE : RS (w1.alloc (.cells #[] 28)) w1.heap.size w1.heap.size 0 [] := ⟨empty_rows w1 _ (Nat.le_refl _), fun e he => by cases he⟩
  have b2 := (Below.refl w1.heap.size w1).alloc (Nat.le_refl _) (.cells #[] 28)
  have hC2 := hC1.below b2
  have hG2 : w1.grownBy (w1.alloc (.cells #[] 28)) (some c) := World.grownBy_alloc w1 _ _
  go_wp2_with fail
  clear hC1 b2
  have h10 : w1.heap.size < (w1.alloc (.cells #[] 28)).heap.size := by simp
  generalize w1.alloc (.cells #[] 28) = w2 at *
  refine (l1Below_any c 7 _ hC2 (by omega) (by omega)).mono ?_
  rintro e w3 ⟨x, rfl, hx0, hx1, _, hC3, hg3⟩
  obtain ⟨n, rfl⟩ := Int.eq_ofNat_of_zero_le hx0
  have hn7 : n < 7 := by have := hx1 (by omega); omega
  have hE3 := hE.grownC hg3 hC2
  have hG3 := grown_trans hG2 hg3
  clear hx0 hx1 hE hC2 hG2 hg3 h10
  go_wp2
  go_loopw [4, 5] (fun v k wr => ∃ (j g cp : Nat) (es : List Ent), v = .slice (some ⟨g, 0, none⟩) es.length cp ∧ k = .int .i64 j ∧ es.length + j ≤ 7 ∧ RS wr w1.heap.size g cp es ∧ (∀ e ∈ es, e.r.length ≤ 1000) ∧ Cur wr c ∧ w1.grownBy wr (some c)) (fun _ k _ => (intOf k).toNat)
  case atStart => exact ⟨n, w1.heap.size, 0, [], rfl, rfl, by simp; omega, hE3, (fun e he => by cases he), hC3, hG3⟩
  case round =>
    obtain ⟨j, g, cp, es, rfl, rfl, hj, hR, hes, hCr, hGr⟩ := hrel
    have HES := Lib.hid hes
    have hsr := hGr.size
    have hgl := hR.1.lt g rfl
    clear hE3 hC3 hG3 hes
    by_cases h0 : 0 < j
    · go_wp2_with fail
      refine (l1DrawRow_any c 2 _ hCr (by omega)).mono ?_
      rintro e w6 ⟨v6, ys, rfl, hyl, hown6, hC6, hg6⟩
      obtain ⟨A6, c6, g6, rfl, _, hR6⟩ := Row.of_own hown6
      have hRS6 := hR.grownC hg6 hCr
      have hG6 := grown_trans hGr hg6
      have hs6 := hG6.size
      clear hown6 hg6 hR hGr hCr
      have b8 := (Below.refl w6.heap.size w6).alloc (Nat.le_refl _) (.cells #[.slice A6 ys.length c6] 28)
      go_wp2_with (at_builtin; refine wpList_append_any _ rfl (.tmp 15) (.tmp 18) 24 rfl w1.heap.size 28 i0 _ 1 24 Tryd.underlying24 hi0 hz0 hz1 hz2 rfl (by decide) _ _ (rowCells es) rfl (hRS6.1.alloc _) _ (some ⟨w6.heap.size, 0, none⟩) 1 1 [.slice A6 ys.length c6] rfl (reads_new1 w6 _ _) (by simp [Value.oneCell']) (by simp only [maxLen]; omega) (by omega) (by rw [World.size_alloc]; omega) ?_; intro v9 w9 hown9 hg9 hat9)
      obtain ⟨g9, cap9, hv9, hRS9⟩ := (hRS6.on b8).grow (f := ⟨ys, 0, A6, c6, g6⟩) hg9 rfl hown9 hat9 (hR6.on b8)
      have hC9 : Cur w9 c := (hC6.below b8).grown hg9 (fun r e => by have : g = r := Option.some.inj e; omega)
      have hG9 := grown_own (grown_own hG6 (World.grownBy_alloc w6 _ none) (fun r e => by cases e)) hg9 (fun r e => by have : g = r := Option.some.inj e; omega)
      have HV := Lib.hid hv9
      clear hv9 hown9 hg9 hat9 b8 hRS6 hR6 hC6 hG6
      go_wp2
      go_roundw
      case rel => exact ⟨j - 1, g9, cap9, _, HV.out, by go_num, by simp; omega, hRS9, fun e he => (by
        rcases List.mem_append.1 he with he | he
        · exact HES.out e he
        · obtain rfl := List.mem_singleton.1 he; show ys.length ≤ 1000; omega), hC9, hG9⟩
      case measure => simp [intOf]; omega
    · have hd : decide (0 < j) = false := by simpa using h0
      go_wp2_with fail
      refine (l1Once_any c 8 _ hCr (by omega) (by omega)).mono ?_
      rintro e w4 ⟨b4, rfl, hC4, hg4⟩
      have hR4 := hR.grownC hg4 hCr
      have hG4 := grown_trans hGr hg4
      have hs4 := hG4.size
      clear hR hGr hg4 hCr
      cases b4 with
      | false =>
        go_wp2
        go_ret
        exact hR4.drawn rfl (by omega) HES.out (hb1.grown hG4 hb1.size (fun k e => by cases e; exact Nat.le_of_eq HC.out.symm))
      | true =>
        go_wp2_with fail
        refine (l1DrawAny_any c _ hC4).mono ?_
        rintro e w6 ⟨v6, ys, rfl, hyl, hown6, hC6, hg6⟩
        obtain ⟨A6, c6, g6, rfl, _, hR6⟩ := Row.of_own hown6
        have hRS6 := hR4.grownC hg6 hC4
        have hG6 := grown_trans hG4 hg6
        have hs6 := hG6.size
        clear hown6 hg6 hR4 hG4 hC4
        have b8 := (Below.refl w6.heap.size w6).alloc (Nat.le_refl _) (.cells #[.slice A6 ys.length c6] 28)
        go_wp2_with (at_builtin; refine wpList_append_any _ rfl (.tmp 22) (.tmp 25) 24 rfl w1.heap.size 28 i0 _ 1 24 Tryd.underlying24 hi0 hz0 hz1 hz2 rfl (by decide) _ _ (rowCells es) rfl (hRS6.1.alloc _) _ (some ⟨w6.heap.size, 0, none⟩) 1 1 [.slice A6 ys.length c6] rfl (reads_new1 w6 _ _) (by simp [Value.oneCell']) (by simp only [maxLen]; omega) (by omega) (by rw [World.size_alloc]; omega) ?_; intro v9 w9 hown9 hg9 hat9)
        obtain ⟨g9, cap9, hv9, hRS9⟩ := (hRS6.on b8).grow (f := ⟨ys, 0, A6, c6, g6⟩) hg9 rfl hown9 hat9 (hR6.on b8)
        have hG9 := grown_own (grown_own hG6 (World.grownBy_alloc w6 _ none) (fun r e => by cases e)) hg9 (fun r e => by have : g = r := Option.some.inj e; omega)
        have HV := Lib.hid hv9
        clear hv9 hown9 hg9 hat9 b8 hRS6 hR6 hC6 hG6
        go_wp2
        go_ret
        exact hRS9.drawn HV.out (by simp; omega) (fun e he => (by
          rcases List.mem_append.1 he with he | he
          · exact HES.out e he
          · obtain rfl := List.mem_singleton.1 he; show ys.length ≤ 1000; omega)) (hb1.grown hG9 hb1.size (fun k e => by cases e; exact Nat.le_of_eq HC.out.symm))

/-- A bag, drawn from a code. -/
def DrawnB (w : World) (e : Ending) (w' : World) : Prop :=
  ∃ g cap bag, e = .returned (.slice (some ⟨g, 0, none⟩) bag.length cap) ∧ Bag w' w'.heap.size (some ⟨g, 0, none⟩) bag ∧ bag.length ≤ 400 ∧ Below w.heap.size w w'
set_option maxRecDepth 100000 in
set_option maxHeartbeats 2000000 in
theorem drawBagOk_any (A : Option Addr) (cap : Nat) (zs : List Int) (w : World) (hU : U8s w w.heap.size A zs) (hl : zs.length ≤ 1048576) :
    Calls Tryd.prog 27 #[.slice A zs.length cap] w (DrawnB w) := by
  go_enter Tryd.func27, Tryd.ntmps27
  go_wp2_with fail
  refine (l1New_any A cap zs _ hU hl).mono ?_
  rintro e w1 ⟨rfl, hC1, hb1⟩
  go_wp2_with fail
  refine (l2DrawAny_any _ _ hC1).mono ?_
  rintro e w2 ⟨g, cp, es, rfl, hR2, hel, hes, hC2, hg2⟩
  have HES := Lib.hid hes
  have hb2 : Below w.heap.size w w2 := hb1.grown hg2 hb1.size (fun k e => by cases e; exact Nat.le_refl _)
  clear hes
  go_wp2
  go_ret
  exact ⟨g, cp, es.map Ent.pair, by rw [List.length_map]; rfl, hR2.bag (fun e he => by have := HES.out e he; omega), by simpa using hel, hb2⟩
set_option maxRecDepth 100000 in
theorem drawShowBag_any (A : Option Addr) (cap : Nat) (zs : List Int) (w : World) (hU : U8s w w.heap.size A zs) (hl : zs.length ≤ 1048576) :
    Calls Tryd.prog 8 #[.slice A zs.length cap] w (DrawnB w) := by
  go_enter Tryd.func8, Tryd.ntmps8
  go_wp2_with fail
  refine (drawBagOk_any A cap zs _ hU hl).mono ?_
  rintro e w2 ⟨g, cp, bag, rfl, h⟩
  go_wp2
  go_ret
  exact ⟨g, cp, bag, rfl, h⟩
end Go.Proofs.YtedbjjhkjkpnkaaDoor
