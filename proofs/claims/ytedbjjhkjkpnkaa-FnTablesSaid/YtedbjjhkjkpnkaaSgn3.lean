/- The contract of the program's appendCopies onto an empty slice, whatever lay before it; of the list's 'turned' with turnedRound; of Minus. An own bag that reads as told; nothing that lay has turned. -/
import Derived.Test.YtedbjjhkjkpnkaaSgn0
import Derived.Test.YtedbjjhkjkpnkaaSgn1
import Derived.Test.YtedbjjhkjkpnkaaSum3
namespace Go.Proofs.Ytedbjjhkjkpnkaa
open Go.RowKit

theorem grown_bel {a b d : World} {c B : Nat} (h : a.grownBy b (some c)) (k : Below B b d) (hB : a.heap.size ≤ B) : a.grownBy d (some c) :=
  ⟨k.os.trans h.os, k.tape.trans h.tape, k.output.trans h.output, Nat.le_trans h.size k.size, fun i hi hne => (k.block i (by omega)).trans (h.block i hi hne)⟩
theorem grown_row {a b d : World} {c r : Nat} (h : a.grownBy b (some c)) (k : b.grownBy d (some r)) (hr : r = c ∨ a.heap.size ≤ r) : a.grownBy d (some c) :=
  ⟨k.os.trans h.os, k.tape.trans h.tape, k.output.trans h.output, Nat.le_trans h.size k.size, fun i hi hne => (k.block i (Nat.lt_of_lt_of_le hi h.size) (fun e => by
    have e' : i = r := Option.some.inj e
    rcases hr with hr | hr
    · exact hne (by rw [e', hr])
    · omega)).trans (h.block i hi hne)⟩
theorem cell_keepG {w w' : World} {g0 : Nat} {t : TypeId} (hE : Blk w g0 t #[]) (hg : w.grownBy w' (some g0)) {p : Addr} {u : Value} (h : w.cell? p = some u) : w'.cell? p = some u := by
  have hlt := cell_lt h
  have hs := World.cell?_spot h
  have hne : p.block ≠ g0 := by
    intro e
    obtain ⟨b, off, spot⟩ := p
    simp only at hs e
    subst hs e
    rw [hE.cell off] at h
    simp at h
  rw [World.cell?_of_block (hg.block p.block hlt (fun e => hne (Option.some.inj e)))]
  exact h
theorem Ints.keepG {w w' : World} {A : Option Addr} {zs : List Int} {g0 : Nat} {t : TypeId} (h : Ints w w.heap.size A zs) (hE : Blk w g0 t #[]) (hg : w.grownBy w' (some g0)) : Ints w' w'.heap.size A zs := fun hn => by
  obtain ⟨b, off, e, hb, hc⟩ := h hn
  exact ⟨b, off, e, Nat.lt_of_lt_of_le hb hg.size, fun j hj => cell_keepG hE hg (hc j hj)⟩
theorem Bag.keepG {w w' : World} {A : Option Addr} {bag : List (List Int × Int)} {g0 : Nat} {t : TypeId} (h : Bag w w.heap.size A bag) (hE : Blk w g0 t #[]) (hg : w.grownBy w' (some g0)) : Bag w' w'.heap.size A bag := fun hn => by
  obtain ⟨b, off, e, hb, hc⟩ := h hn
  refine ⟨b, off, e, Nat.lt_of_lt_of_le hb hg.size, fun j hj => ?_⟩
  obtain ⟨Ar, cap, h1, h2, h3, h4⟩ := hc j hj
  exact ⟨Ar, cap, cell_keepG hE hg h1, cell_keepG hE hg h2, h3.keepG hE hg, h4⟩
theorem empty_own {w : World} {g0 : Nat} (hE : Blk w g0 63 #[]) : OBag w g0 (.slice (some ⟨g0, 0, none⟩) 0 0) [] :=
  OBag.nil ⟨rfl, .inr ⟨g0, 0, #[], rfl, Nat.le_refl _, hE, Nat.le_refl _, Nat.zero_le _, rfl, rfl⟩⟩

set_option maxRecDepth 100000 in
set_option maxHeartbeats 4000000 in
theorem appendCopies_fresh (g0 : Nat) (A : Option Addr) (c : Nat) (bag : List (List Int × Int)) (w : World) (hE : Blk w g0 63 #[]) (hB : Bag w w.heap.size A bag) (hl : bag.length ≤ 1099511627776) :
    Calls Try.prog 75 #[.slice (some ⟨g0, 0, none⟩) 0 0, .slice A bag.length c] w fun e w' => ∃ v es, e = .returned v ∧ OBag w' g0 v es ∧ es.map Ent.pair = bag ∧ w.grownBy w' (some g0) ∧ ∃ g, v.ownBlock = some g := by
  obtain ⟨i0, hi0, hz0, hz1, hz2⟩ := info_parts info_count
  have hO0 := empty_own hE
  have hgl := hE.lt
  have HEE := Lib.hid hE
  clear hE
  go_enter Try.func75, Try.ntmps75
  go_wp2
  go_loopw [0, 9] (fun v i wr => ∃ (k : Nat) (es : List Ent) (g : Nat), k ≤ bag.length ∧ i = .int .i64 k ∧ OBag wr g0 v es ∧ es.map Ent.pair = bag.take k ∧ w.grownBy wr (some g0) ∧ v.ownBlock = some g ∧ (g = g0 ∨ w.heap.size ≤ g)) (fun _ i _ => bag.length - (intOf i).toNat)
  case atStart => exact ⟨0, [], g0, Nat.zero_le _, rfl, hO0, by simp, grown_drewN w 0 _, rfl, .inl rfl⟩
  case round =>
    obtain ⟨k, es, g, hk, rfl, hO, he, hG, hvg, hgg⟩ := hrel
    have HVG := Lib.hid hvg
    have HGG := Lib.hid hgg
    clear hvg hgg
    have HE := Lib.hid he
    have hel : es.length = k := by have := congrArg List.length HE.out; simp at this; omega
    have HEL := Lib.hid hel
    clear he hel hO0
    by_cases hlt : k < bag.length
    · have hBr := hB.keepG HEE.out hG
      obtain ⟨b, off, rfl, hblt, hc⟩ := hBr (by omega)
      obtain ⟨Ar, cap, h1, h2, h3r, h4⟩ := hc k hlt
      clear hc hBr
      have hk0 : (0 : Int) ≤ (k : Int) := Int.natCast_nonneg _
      have hk1 : (k : Int) < (bag.length : Int) := by omega
      have hlor : g0 ≤ wr.heap.size := Nat.le_trans (Nat.le_of_lt hgl) hG.size
      have bc := (Below.refl wr.heap.size wr).alloc (Nat.le_refl _) (.cells #[.slice Ar (rx bag k).length cap, .int .i64 (nx bag k)] 63)
      have BC := Blk.new wr 63 #[.slice Ar (rx bag k).length cap, .int .i64 (nx bag k)]
      have d0 := BC.cell 0
      have d1 := BC.cell 1
      simp only [List.getElem?_toArray, List.getElem?_cons_zero, List.getElem?_cons_succ] at d0 d1
      have hGl := BC.lt
      clear BC
      go_wp2_with fail
      have hO' := hO.on bc
      have hnG : some wr.heap.size ≠ u0.ownBlock := fun e => by have := hO.inside.1 _ e.symm; omega
      have h3' := h3r.on bc
      have hG' : w.grownBy (wr.alloc (.cells #[.slice Ar (rx bag k).length cap, .int .i64 (nx bag k)] 63)) (some g0) := grown_bel hG bc hG.size
      have hlo' : g0 ≤ (wr.alloc (.cells #[.slice Ar (rx bag k).length cap, .int .i64 (nx bag k)] 63)).heap.size := Nat.le_trans hlor bc.size
      clear h1 h2 hO hG h3r bc
      generalize wr.alloc (.cells #[.slice Ar (rx bag k).length cap, .int .i64 (nx bag k)] 63) = wa at *
      generalize hGe : wr.heap.size = G at *
      clear hGe
      go_region_held3 (fun w' => w'.cell? ⟨G, 0, none⟩ = some (.slice Ar (rx bag k).length cap) ∧ w'.cell? ⟨G, 1, none⟩ = some (.int .i64 (nx bag k)))
        (first | go_keep | exact ⟨(far_cell (p := ⟨G, 0, none⟩) hb1 hgrow2 hGl hnG).trans d0, (far_cell (p := ⟨G, 1, none⟩) hb1 hgrow2 hGl hnG).trans d1⟩ | exact ⟨(hb1.cell (p := ⟨G, 0, none⟩) hGl).trans d0, (hb1.cell (p := ⟨G, 1, none⟩) hGl).trans d1⟩)
        (first | (refine step_append_any _ rfl (.tmp 13) (.tmp 20) 26 (by rfl) g0 63 i0 _ 2 32 Try.underlying26 hi0 hz0 hz1 hz2 rfl (by omega) _ _ (entCells es) (by rfl) (hO1.1.alloc _) _ (some ⟨w1.heap.size, 0, none⟩) 1 1 [.slice A1 (rx bag k).length cap1, .int .i64 (nx bag k)] (by rfl) (reads_new2 w1 _ _ _) (by simp [Value.oneCell']) (by simp only [maxLen]; have := HEL.out; omega) (by have := HEL.out; omega) (by rw [World.size_alloc]; have hs1 : wa.heap.size ≤ w1.heap.size := hb1.size; omega) ?_; intro v2 w2 hown2 hgrow2 hat2) | (go_at_call 63; refine (copyOfRow_row Ar cap (rx bag k) _ (by exact h3') h4).mono ?_; rintro e w1 ⟨A1, cap1, g1, rfl, hg1, hR1, hb1⟩; have hO1 := (hO'.drewN 1).on hb1))
      have hO2 : OBag w2 g0 v2 (es ++ [⟨rx bag k, nx bag k, A1, cap1, g1⟩]) := hO'.pushRow rfl hlo' hg1 hR1 hO1 hown2 hgrow2 hat2
      have hG1 : w.grownBy w1 (some g0) := grown_bel (grown_trans hG' (grown_drewN wa 1 _)) hb1 hG'.size
      have hs1 : w.heap.size ≤ w1.heap.size := hG1.size
      have hG2 : w.grownBy w2 (some g0) := by
        rw [HVG.out] at hgrow2
        exact grown_row (grown_trans hG1 (World.grownBy_alloc w1 _ _)) hgrow2 HGG.out
      have hp2 := pair_snoc (A1 := A1) (cap1 := cap1) (g1 := g1) HE.out hlt
      have hnn2 : ∃ g2, v2.ownBlock = some g2 ∧ (g2 = g0 ∨ w.heap.size ≤ g2) := by
        rcases hat2 with e | e
        · exact ⟨g, e.trans HVG.out, HGG.out⟩
        · exact ⟨_, e, .inr (by rw [World.size_alloc]; omega)⟩
      have HN2 := Lib.hid hnn2
      have HP := Lib.hid hp2
      clear hnn2 hp2 hown2 hgrow2 hat2 hO1 hb1 hR1 hg1 hO' hG' d0 d1 h3' hG1
      go_wp2
      go_roundw
      case rel =>
        obtain ⟨g2, q1, q2⟩ := HN2.out
        exact ⟨k + 1, _, g2, by omega, by go_num, hO2, HP.out, hG2, q1, q2⟩
      case measure => simp [intOf]; omega
    · have hd : decide (k < bag.length) = false := by simpa using hlt
      go_wp2
      go_ret
      exact ⟨_, es, rfl, hO, by rw [HE.out, List.take_of_length_le (by omega)], hG, g, HVG.out⟩
end Go.Proofs.Ytedbjjhkjkpnkaa
