/- Contracts of container/heap over the heap of counts: down, Init, Pop: how the counts stand then, and which one comes out. For heaps of at most 2^40. -/
import Derived.Test.YtcfnbpofbcendabHeap2
import Derived.Test.YtcfnbpofbcendabJB
namespace Go.Proofs.Ytcfnbpofbcendab
open Go.RowKit

/-- The heap's variable, block p, and its counts. -/
def HP (w : World) (lo hi p g cap : Nat) (es : List Ent) : Prop :=
  Blk w p 68 #[.slice (some ⟨g, 0, none⟩) es.length cap] ∧ (lo ≤ p ∧ hi ≤ p) ∧ HC w lo hi g cap es
theorem HP.ne {w : World} {lo hi p g cap : Nat} {es : List Ent} (h : HP w lo hi p g cap es) : p ≠ g := by
  intro e
  obtain ⟨cur, _, h3, _⟩ := h.2.2.parts
  have h1 := h.1
  unfold Blk at h1
  rw [e, h3] at h1
  injection h1 with h1
  injection h1 with _ h2 _
  exact absurd h2 (by decide)
theorem HP.on {w w' : World} {lo hi p g cap : Nat} {es : List Ent} (h : HP w lo hi p g cap es) (hb : Below w.heap.size w w') : HP w' lo hi p g cap es := ⟨h.1.below hb h.1.lt, h.2.1, h.2.2.on hb⟩
theorem HP.turned {w w' : World} {lo hi p g cap : Nat} {es es' : List Ent} (h : HP w lo hi p g cap es) (hc : HC w' lo hi g cap es') (hl : es'.length = es.length) (hg : w.grownBy w' (some g)) : HP w' lo hi p g cap es' :=
  ⟨by rw [hl]; exact h.1.grown hg (fun e => h.ne (Option.some.inj e)), h.2.1, hc⟩
theorem HP.lo {w : World} {lo hi p g cap : Nat} {es : List Ent} (h : HP w lo hi p g cap es) : lo ≤ w.heap.size := by have := h.1.lt; have := h.2.1; omega
theorem HP.mLen {w : World} {lo hi p g cap : Nat} {es : List Ent} (h : HP w lo hi p g cap es) : ∀ fuel, (method (fuel + 1) 70 (.pointer (some ⟨p, 0, none⟩)) "Len").run Try.prog w = .ok (48, .slice (some ⟨g, 0, none⟩) es.length cap) w :=
  fun fuel => meth_val Try.underlying70 infoLen _ _ fuel w (load_heap p es.length cap _ w (h.1.cell 0))
theorem HP.mLess {w : World} {lo hi p g cap : Nat} {es : List Ent} (h : HP w lo hi p g cap es) : ∀ fuel, (method (fuel + 1) 70 (.pointer (some ⟨p, 0, none⟩)) "Less").run Try.prog w = .ok (73, .slice (some ⟨g, 0, none⟩) es.length cap) w :=
  fun fuel => meth_val Try.underlying70 infoLess _ _ fuel w (load_heap p es.length cap _ w (h.1.cell 0))
theorem HP.mSwap {w : World} {lo hi p g cap : Nat} {es : List Ent} (h : HP w lo hi p g cap es) : ∀ fuel, (method (fuel + 1) 70 (.pointer (some ⟨p, 0, none⟩)) "Swap").run Try.prog w = .ok (74, .slice (some ⟨g, 0, none⟩) es.length cap) w :=
  fun fuel => meth_val Try.underlying70 infoSwap _ _ fuel w (load_heap p es.length cap _ w (h.1.cell 0))

theorem heapLess_at (lo hi g cap : Nat) (es : List Ent) (i j : Nat) (x y : Int) (w : World) (h : HC w lo hi g cap es) (hil : i < es.length) (hj : j < es.length) (hx : x = (i : Int)) (hy : y = (j : Int)) :
    Calls Try.prog 73 #[.slice (some ⟨g, 0, none⟩) es.length cap, .int .i64 x, .int .i64 y] w fun e w' => e = .returned (.bool (lessB (kx es i) (kx es j))) ∧ Below w.heap.size w w' := by
  subst hx hy; exact heapLess_any lo hi g cap es i j w h hil hj
theorem heapSwap_at (lo hi g cap : Nat) (es : List Ent) (i j : Nat) (x y : Int) (w : World) (h : HC w lo hi g cap es) (hil : i < es.length) (hj : j < es.length) (hij : i ≠ j) (hx : x = (i : Int)) (hy : y = (j : Int)) :
    Calls Try.prog 74 #[.slice (some ⟨g, 0, none⟩) es.length cap, .int .i64 x, .int .i64 y] w fun e w' => (∃ v, e = .returned v) ∧ HC w' lo hi g cap (swp es i j) ∧ w.grownBy w' (some g) := by
  subst hx hy; exact heapSwap_any lo hi g cap es i j w h hil hj hij
theorem Within.of_below {lo top : Nat} {w w' : World} (h : Below w.heap.size w w') : Within lo top w w' := ⟨h.os, h.tape, h.output, h.size, fun b hb _ => h.block b hb⟩
/-- What a sift down from i0 leaves. -/
def Down (lo hi top p g cap i0 n : Nat) (es : List Ent) (w : World) (e : Ending) (w' : World) : Prop :=
  (∃ v, e = .returned v) ∧ ∃ es', HP w' lo hi p g cap es' ∧ es'.length = es.length ∧ es'.Perm es ∧ (∀ j, n ≤ j → ex es' j = ex es j) ∧ (HF es n (i0 + 1) → HF es' n i0) ∧ Within lo top w w'

set_option maxRecDepth 100000 in
set_option maxHeartbeats 8000000 in
theorem down_any (lo hi top p g cap i0 n : Nat) (es : List Ent) (w : World) (h : HP w lo hi p g cap es) (hgt : g < top) (hn : n ≤ es.length) (hi0 : i0 ≤ es.length) (hl : es.length ≤ 1099511627776) :
    Calls Try.prog 55 #[.iface 70 (.pointer (some ⟨p, 0, none⟩)), .int .i64 i0, .int .i64 n] w (Down lo hi top p g cap i0 n es w) := by
  go_enter Try.func55, Try.ntmps55
  go_wp2
  go_loopw [7] (fun s wr => ∃ (i : Nat) (fs : List Ent), i ≤ es.length ∧ s = .int .i64 i ∧ DI es i0 n i fs ∧ HP wr lo hi p g cap fs ∧ Within lo top w wr) (fun s _ => n - (intOf s).toNat)
  case atStart => exact ⟨i0, es, hi0, rfl, DI.start es i0 n, h, Within.refl _ _ _⟩
  case round =>
    obtain ⟨i, fs, hib, rfl, hD, hH, hW⟩ := hrel
    have hfl : fs.length = es.length := hD.2.1
    have HFL := Lib.hid hfl
    have HDI := Lib.hid hD
    have hnf : n ≤ fs.length := by omega
    clear hD hfl h
    by_cases hlt : 2 * i + 1 < n
    · have hd1 : decide ((n : Int) ≤ 2 * (i : Int) + 1) = false := by simp; omega
      have h10 : ¬ (2 * (i : Int) + 1 < 0) := by omega
      by_cases h2n : 2 * i + 2 < n
      · have h2i : 2 * (i : Int) + 1 + 1 < (n : Int) := by omega
        have hm1 := hH.mLess
        go_wp2_with fail
        refine (heapLess_at lo hi g cap fs (2 * i + 2) (2 * i + 1) _ _ wr hH.2.2 (by omega) (by omega) (by omega) (by omega)).mono ?_
        rintro e w2 ⟨rfl, hb2⟩
        have hH2 := hH.on hb2
        have hW2 : Within lo top w w2 := hW.trans (Within.of_below hb2)
        clear hm1 hH hW hb2
        cases hl2 : lessB (kx fs (2 * i + 2)) (kx fs (2 * i + 1)) with
        | true =>
          have SIB := Lib.hid (show ∀ s, 1 ≤ s → s < n → (s - 1) / 2 = i → lessB (kx fs s) (kx fs (2 * i + 2)) = false from fun s h1 h2 h3 => by
            have : s = 2 * i + 1 ∨ s = 2 * i + 2 := by omega
            rcases this with rfl | rfl
            · exact less_asymm hl2
            · exact less_irrefl _)
          clear hl2
          have hm2 := hH2.mLess
          go_wp2_with fail
          refine (heapLess_at lo hi g cap fs (2 * i + 2) i _ _ w2 hH2.2.2 (by omega) (by omega) (by omega) rfl).mono ?_
          rintro e w3 ⟨rfl, hb3⟩
          have hH3 := hH2.on hb3
          have hW3 : Within lo top w w3 := hW2.trans (Within.of_below hb3)
          clear hm2 hH2 hW2 hb3
          cases hl3 : lessB (kx fs (2 * i + 2)) (kx fs i) with
          | false =>
            have SS := Lib.hid (show ∀ s, 1 ≤ s → s < n → (s - 1) / 2 = i → lessB (kx fs s) (kx fs i) = false from fun s h1 h2 h3 => le_trans_B hl3 (SIB.out s h1 h2 h3))
            clear hl3
            go_wp2
            go_ret
            exact ⟨⟨_, rfl⟩, fs, hH3, HFL.out, HDI.out.1, HDI.out.2.2.1, HDI.out.stop SS.out, hW3⟩
          | true =>
            have HL3 := Lib.hid hl3
            clear hl3
            have hm3 := hH3.mSwap
            go_wp2_with fail
            refine (heapSwap_at lo hi g cap fs i (2 * i + 2) _ _ w3 hH3.2.2 (by omega) (by omega) (by omega) rfl (by omega)).mono ?_
            rintro e w4 ⟨⟨v4, rfl⟩, hC4, hg4⟩
            have hH4 : HP w4 lo hi p g cap (swp fs i (2 * i + 2)) := hH3.turned hC4 (swp_length _ _ _) hg4
            have hW4 : Within lo top w w4 := hW3.trans (Within.of_grown hg4 (.inl ⟨hH3.2.2.lt.1, hgt⟩))
            have HD4 := Lib.hid (HDI.out.step (m := 2 * i + 2) hnf (by omega) (by omega) (by omega) (by omega) HL3.out SIB.out)
            clear hm3 hH3 hW3 hC4 hg4
            go_wp2
            go_roundw
            case rel => exact ⟨2 * i + 2, swp fs i (2 * i + 2), by omega, by go_num, HD4.out, hH4, hW4⟩
            case measure => simp [intOf]; omega
        | false =>
          have SIB := Lib.hid (show ∀ s, 1 ≤ s → s < n → (s - 1) / 2 = i → lessB (kx fs s) (kx fs (2 * i + 1)) = false from fun s h1 h2 h3 => by
            have : s = 2 * i + 1 ∨ s = 2 * i + 2 := by omega
            rcases this with rfl | rfl
            · exact less_irrefl _
            · exact hl2)
          clear hl2
          have hm2 := hH2.mLess
          go_wp2_with fail
          refine (heapLess_at lo hi g cap fs (2 * i + 1) i _ _ w2 hH2.2.2 (by omega) (by omega) (by omega) rfl).mono ?_
          rintro e w3 ⟨rfl, hb3⟩
          have hH3 := hH2.on hb3
          have hW3 : Within lo top w w3 := hW2.trans (Within.of_below hb3)
          clear hm2 hH2 hW2 hb3
          cases hl3 : lessB (kx fs (2 * i + 1)) (kx fs i) with
          | false =>
            have SS := Lib.hid (show ∀ s, 1 ≤ s → s < n → (s - 1) / 2 = i → lessB (kx fs s) (kx fs i) = false from fun s h1 h2 h3 => le_trans_B hl3 (SIB.out s h1 h2 h3))
            clear hl3
            go_wp2
            go_ret
            exact ⟨⟨_, rfl⟩, fs, hH3, HFL.out, HDI.out.1, HDI.out.2.2.1, HDI.out.stop SS.out, hW3⟩
          | true =>
            have HL3 := Lib.hid hl3
            clear hl3
            have hm3 := hH3.mSwap
            go_wp2_with fail
            refine (heapSwap_at lo hi g cap fs i (2 * i + 1) _ _ w3 hH3.2.2 (by omega) (by omega) (by omega) rfl (by omega)).mono ?_
            rintro e w4 ⟨⟨v4, rfl⟩, hC4, hg4⟩
            have hH4 : HP w4 lo hi p g cap (swp fs i (2 * i + 1)) := hH3.turned hC4 (swp_length _ _ _) hg4
            have hW4 : Within lo top w w4 := hW3.trans (Within.of_grown hg4 (.inl ⟨hH3.2.2.lt.1, hgt⟩))
            have HD4 := Lib.hid (HDI.out.step (m := 2 * i + 1) hnf (by omega) (by omega) (by omega) (by omega) HL3.out SIB.out)
            clear hm3 hH3 hW3 hC4 hg4
            go_wp2
            go_roundw
            case rel => exact ⟨2 * i + 1, swp fs i (2 * i + 1), by omega, by go_num, HD4.out, hH4, hW4⟩
            case measure => simp [intOf]; omega
      · have h2d : decide (2 * (i : Int) + 1 + 1 < (n : Int)) = false := by simp; omega
        have SIB := Lib.hid (show ∀ s, 1 ≤ s → s < n → (s - 1) / 2 = i → lessB (kx fs s) (kx fs (2 * i + 1)) = false from fun s h1 h2 h3 => by
          have : s = 2 * i + 1 := by omega
          subst this
          exact less_irrefl _)
        have hm2 := hH.mLess
        go_wp2_with fail
        refine (heapLess_at lo hi g cap fs (2 * i + 1) i _ _ wr hH.2.2 (by omega) (by omega) (by omega) rfl).mono ?_
        rintro e w3 ⟨rfl, hb3⟩
        have hH3 := hH.on hb3
        have hW3 : Within lo top w w3 := hW.trans (Within.of_below hb3)
        clear hm2 hH hW hb3
        cases hl3 : lessB (kx fs (2 * i + 1)) (kx fs i) with
        | false =>
          have SS := Lib.hid (show ∀ s, 1 ≤ s → s < n → (s - 1) / 2 = i → lessB (kx fs s) (kx fs i) = false from fun s h1 h2 h3 => le_trans_B hl3 (SIB.out s h1 h2 h3))
          clear hl3
          go_wp2
          go_ret
          exact ⟨⟨_, rfl⟩, fs, hH3, HFL.out, HDI.out.1, HDI.out.2.2.1, HDI.out.stop SS.out, hW3⟩
        | true =>
          have HL3 := Lib.hid hl3
          clear hl3
          have hm3 := hH3.mSwap
          go_wp2_with fail
          refine (heapSwap_at lo hi g cap fs i (2 * i + 1) _ _ w3 hH3.2.2 (by omega) (by omega) (by omega) rfl (by omega)).mono ?_
          rintro e w4 ⟨⟨v4, rfl⟩, hC4, hg4⟩
          have hH4 : HP w4 lo hi p g cap (swp fs i (2 * i + 1)) := hH3.turned hC4 (swp_length _ _ _) hg4
          have hW4 : Within lo top w w4 := hW3.trans (Within.of_grown hg4 (.inl ⟨hH3.2.2.lt.1, hgt⟩))
          have HD4 := Lib.hid (HDI.out.step (m := 2 * i + 1) hnf (by omega) (by omega) (by omega) (by omega) HL3.out SIB.out)
          clear hm3 hH3 hW3 hC4 hg4
          go_wp2
          go_roundw
          case rel => exact ⟨2 * i + 1, swp fs i (2 * i + 1), by omega, by go_num, HD4.out, hH4, hW4⟩
          case measure => simp [intOf]; omega
    · have hge : (n : Int) ≤ 2 * (i : Int) + 1 := by omega
      have SS := Lib.hid (show ∀ s, 1 ≤ s → s < n → (s - 1) / 2 = i → lessB (kx fs s) (kx fs i) = false from fun s h1 h2 h3 => by omega)
      go_wp2
      go_ret
      exact ⟨⟨_, rfl⟩, fs, hH, HFL.out, HDI.out.1, HDI.out.2.2.1, HDI.out.stop SS.out, hW⟩
end Go.Proofs.Ytcfnbpofbcendab
