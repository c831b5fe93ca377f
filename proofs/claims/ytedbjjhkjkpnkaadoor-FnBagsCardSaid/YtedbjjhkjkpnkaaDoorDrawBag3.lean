/- Contracts of the drawing of bags, third part: l2DrawIn, DrawTimesIn, DrawWith: new memory; nothing that lay has turned; and of the laws' likeBag. -/
import Derived.Test.YtedbjjhkjkpnkaaDoorDrawBag2
import Derived.Test.YtedbjjhkjkpnkaaDoorLike1
namespace Go.Proofs.YtedbjjhkjkpnkaaDoor
open Go.RowKit

set_option maxRecDepth 100000 in
set_option maxHeartbeats 4000000 in
theorem l2DrawIn_any (c lo g cap : Nat) (es : List Ent) (w : World) (hC : Cur w c) (hR : RB w lo g cap es) (hel : es.length ≤ 400) (hes : ∀ e ∈ es, e.r.length ≤ 1000) :
    Calls Tryd.prog 26 #[.pointer (some ⟨c, 0, none⟩), .slice (some ⟨g, 0, none⟩) es.length cap] w (Drawn c 1000 w) := by
  have hcl := hC.lt
  have HES := Lib.hid hes
  clear hes
  by_cases h0 : 0 < es.length
  · go_enter Tryd.func26, Tryd.ntmps26
    go_wp2_with fail
    refine (l1Once_any c 3 _ hC (by omega) (by omega)).mono ?_
    rintro e w1 ⟨b1, rfl, hC1, hg1⟩
    have hR1 := hR.grownC hg1 hC
    clear hC hR
    cases b1 with
    | true =>
      go_wp2_with fail
      refine (l1DrawAny_any c _ hC1).mono ?_
      rintro e w2 ⟨v2, zs, rfl, hzl, hown2, hC2, hg2⟩
      go_wp2
      go_ret
      exact ⟨_, zs, rfl, by omega, own_mono hown2 hg1.size, hC2, grown_trans hg1 hg2⟩
    | false =>
      go_wp2_with fail
      refine (l1Below_any c (es.length : Int) _ hC1 (by omega) (by omega)).mono ?_
      rintro e w2 ⟨x, rfl, hx0, hx1, _, hC2, hg2⟩
      obtain ⟨q, rfl⟩ := Int.eq_ofNat_of_zero_le hx0
      have hq : q < es.length := by have := hx1 (by omega); omega
      have hR2 := hR1.grownC hg2 hC1
      have hB2 := hR2.bag (fun e he => by have := HES.out e he; omega)
      obtain ⟨b, off, hbb, _, hc⟩ := hB2 (by rw [List.length_map]; omega)
      obtain ⟨rfl, rfl⟩ : g = b ∧ 0 = off := by simpa using hbb
      obtain ⟨Ar, cr, h1, _, h3, h4⟩ := hc q (by rw [List.length_map]; omega)
      rw [Nat.zero_add] at h1
      have hrl : (rx (es.map Ent.pair) q).length ≤ 1000 := by rw [rx_map hq]; exact HES.out _ (List.getElem_mem hq)
      have hG2 := grown_trans hg1 hg2
      clear hc hbb hB2 hx0 hx1 hR1 hg1 hg2 hC1
      go_wp2_with fail
      refine (l1Row_any Ar cr (rx (es.map Ent.pair) q) w2 h3 h4).mono ?_
      rintro e w3 ⟨v3, rfl, hown3, hb3⟩
      go_wp2
      go_ret
      exact ⟨_, _, rfl, hrl, own_mono hown3 hG2.size, hC2.below hb3, grown_below hG2 hb3 hG2.size⟩
  · have hd : decide (0 < es.length) = false := by simpa using h0
    go_enter Tryd.func26, Tryd.ntmps26
    go_wp2_with fail
    refine (l1DrawAny_any c _ hC).mono ?_
    rintro e w2 ⟨v2, zs, rfl, hzl, hown2, hC2, hg2⟩
    go_wp2
    go_ret
    exact ⟨_, zs, rfl, by omega, hown2, hC2, hg2⟩

/-- A bag and a row, drawn from a code. -/
def DrawnBR (w : World) (e : Ending) (w' : World) : Prop :=
  ∃ g cap es v zs, e = .returned (.tuple #[.slice (some ⟨g, 0, none⟩) es.length cap, v]) ∧ RB w' w.heap.size g cap es ∧ es.length ≤ 400 ∧ (∀ e ∈ es, e.r.length ≤ 1000) ∧ zs.length ≤ 1000 ∧ w'.ownsRow w.heap.size 2 1 v zs.length (i64l zs) ∧ Below w.heap.size w w'
set_option maxRecDepth 100000 in
set_option maxHeartbeats 2000000 in
theorem drawTimesIn_any (A : Option Addr) (cap : Nat) (zs : List Int) (w : World) (hU : U8s w w.heap.size A zs) (hl : zs.length ≤ 1048576) :
    Calls Tryd.prog 7 #[.slice A zs.length cap] w (DrawnBR w) := by
  go_enter Tryd.func7, Tryd.ntmps7
  go_wp2_with fail
  refine (l1New_any A cap zs _ hU hl).mono ?_
  rintro e w1 ⟨rfl, hC1, hb1⟩
  go_wp2_with fail
  refine (l2DrawAny_any _ _ hC1).mono ?_
  rintro e w2 ⟨g, cp, es, rfl, hR2, hel, hes, hC2, hg2⟩
  have HES := Lib.hid hes
  have hb2 : Below w.heap.size w w2 := hb1.grown hg2 hb1.size (fun k e => by cases e; exact Nat.le_refl _)
  clear hes
  go_wp2_with fail
  refine (l2DrawIn_any _ w1.heap.size g cp es w2 hC2 hR2 hel HES.out).mono ?_
  rintro e w3 ⟨v3, ys, rfl, hyl, hown3, hC3, hg3⟩
  have hR3 := hR2.grownC hg3 hC2
  have hb3 : Below w.heap.size w w3 := hb2.grown hg3 hb2.size (fun k e => by cases e; exact Nat.le_refl _)
  go_wp2
  go_ret2
  exact ⟨g, cp, es, v3, ys, rfl, ⟨own_mono hR3.1 hb1.size, hR3.2⟩, hel, HES.out, hyl, own_mono hown3 hb2.size, hb3⟩

set_option maxRecDepth 100000 in
set_option maxHeartbeats 2000000 in
theorem likeBag_any (A A' : Option Addr) (c c' : Nat) (b1 b2 : List (List Int × Int)) (w : World) (hB : Bag w w.heap.size A b1) (hB' : Bag w w.heap.size A' b2) (hl : b1.length ≤ 1099511627776) (hl' : b2.length ≤ 1099511627776) :
    Calls Tryd.prog 9 #[.slice A b1.length c, .slice A' b2.length c'] w fun e w' => e = .returned (.bool (decide (b1 = b2))) ∧ ∃ n, w' = w.drewN n := by
  by_cases hne : b1.length = b2.length
  · have hb : ((b1.length : Int) != (b2.length : Int)) = false := by simp [hne]
    have HN := Lib.hid hne
    clear hne
    go_enter Tryd.func9, Tryd.ntmps9
    go_wp2
    go_loopw [5] (fun i wr => ∃ k : Nat, k ≤ b1.length ∧ i = .int .i64 k ∧ b1.take k = b2.take k ∧ ∃ n, wr = w.drewN n) (fun i _ => b1.length - (intOf i).toNat)
    case atStart => exact ⟨0, Nat.zero_le _, rfl, by simp, 0, rfl⟩
    case round =>
      obtain ⟨k, hk, rfl, ht, hW⟩ := hrel
      have hBr : Bag wr wr.heap.size A b1 := by obtain ⟨n, rfl⟩ := hW; exact hB
      have hBr' : Bag wr wr.heap.size A' b2 := by obtain ⟨n, rfl⟩ := hW; exact hB'
      have HT := Lib.hid ht
      have HW := Lib.hid hW
      clear hB hB' ht hb hW
      by_cases hlt : k < b1.length
      · have hlt' : k < b2.length := by have := HN.out; omega
        obtain ⟨b, off, rfl, _, hc⟩ := hBr (by omega)
        obtain ⟨b', off', rfl, _, hc'⟩ := hBr' (by omega)
        obtain ⟨Ar, cap, h1, h2, h3, h4⟩ := hc k hlt
        obtain ⟨Ar', cap', h1', h2', h3', h4'⟩ := hc' k hlt'
        clear hc hc'
        by_cases he : rx b1 k = rx b2 k
        · by_cases hn : nx b1 k = nx b2 k
          · have hz : (nx b1 k != nx b2 k) = false := by simp [hn]
            have HE := Lib.hid (show (rx b1 k, nx b1 k) = (rx b2 k, nx b2 k) by rw [he, hn])
            have HR := Lib.hid he
            clear he hn
            go_wp2_with fail
            go_quiet (first | (go_at_call 17; exact Calls.quiet_of (likeRow_yes Ar Ar' cap cap' (rx b1 k) (rx b2 k) _ _ _ (by exact h3) (by exact h3') h4 h4' HR.out)))
            go_wp2
            go_roundw
            case rel => exact ⟨k + 1, by omega, by go_num, bag_take_ext hlt hlt' HT.out HE.out, drew_more HW.out _⟩
            case measure => simp [intOf]; omega
          · have hz : (nx b1 k != nx b2 k) = true := by simp [hn]
            have HE := Lib.hid hn
            have HR := Lib.hid he
            clear he hn
            go_wp2_with fail
            go_quiet (first | (go_at_call 17; exact Calls.quiet_of (likeRow_yes Ar Ar' cap cap' (rx b1 k) (rx b2 k) _ _ _ (by exact h3) (by exact h3') h4 h4' HR.out)))
            go_wp2
            go_ret
            exact ⟨ret_bool (by rw [decide_eq_false]; intro h; subst h; exact HE.out rfl), drew_more HW.out _⟩
        · have HE := Lib.hid he
          clear he
          go_wp2_with fail
          go_quiet (first | (go_at_call 17; exact Calls.quiet_of (likeRow_no Ar Ar' cap cap' (rx b1 k) (rx b2 k) _ _ _ (by exact h3) (by exact h3') h4 h4' HE.out)))
          go_wp2
          go_ret
          exact ⟨ret_bool (by rw [decide_eq_false]; intro h; subst h; exact HE.out rfl), drew_more HW.out _⟩
      · have hd : decide (k < b1.length) = false := by simpa using hlt
        go_wp2
        go_ret
        refine ⟨ret_bool ?_, HW.out⟩
        have h1 := HT.out
        rw [List.take_of_length_le (by omega), List.take_of_length_le (by have := HN.out; omega)] at h1
        rw [decide_eq_true h1]
  · have hb : ((b1.length : Int) != (b2.length : Int)) = true := by simp; omega
    have HN := Lib.hid hne
    clear hne
    go_enter Tryd.func9, Tryd.ntmps9
    go_wp2
    go_ret
    exact ⟨ret_bool (by rw [decide_eq_false]; intro h; subst h; exact HN.out rfl), 0, rfl⟩
end Go.Proofs.YtedbjjhkjkpnkaaDoor
