/- The contract of the program's BagOf: the bag of its rows in memory of its own; nothing that lay has turned. For slices of at most 2^20 rows, each of at most 2^40. -/
import Derived.Test.YtcfnbpofbcendaaTogI
import Derived.Test.YtcfnbpofbcendaaTogP
import Derived.Test.YtcfnbpofbcendaaJD
namespace Go.Proofs.Ytcfnbpofbcendaa
open Go.RowKit

theorem tog_rowsL (rows : List (List Int)) : togL (rows.map fun r => (r, 1)) = bagOfL rows := by
  unfold togL bagOfL; rw [List.foldl_map]
set_option maxRecDepth 100000 in
set_option maxHeartbeats 4000000 in
theorem implBagOf_any (A : Option Addr) (c : Nat) (rows : List (List Int)) (w : World) (hB : Rws w w.heap.size A rows) (hl : rows.length ≤ 1048576) :
    Calls Try.prog 26 #[.slice A rows.length c] w (OwnBag w.heap.size (bagOfL rows) w) := by
  obtain ⟨i0, hi0, hz0, hz1, hz2⟩ := info_parts info_count
  have hmk := make_counts rows.length (by omega) w
  have hE1 := HC.made w rows.length (by omega)
  have b1 := (Below.refl w.heap.size w).alloc (Nat.le_refl _) (.cells (madeCells #[.slice none 0 0, .int .i64 0] (rows.length * 2)) 50)
  go_enter Try.func26, Try.ntmps26
  go_wp2
  go_loopw [3, 11] (fun v s wr => ∃ (k g cap : Nat) (es : List Ent), k ≤ rows.length ∧ s = .int .i64 k ∧ v = .slice (some ⟨g, 0, none⟩) es.length cap ∧ HC wr w.heap.size wr.heap.size g cap es ∧ es.map Ent.pair = (rows.take k).map (fun r => (r, 1)) ∧ Below w.heap.size w wr) (fun _ s _ => rows.length - (intOf s).toNat)
  case atStart => exact ⟨0, w.heap.size, rows.length, [], Nat.zero_le _, rfl, rfl, hE1, rfl, b1⟩
  case round =>
    obtain ⟨k, g, cap, es, hk, rfl, rfl, hH, he, hW⟩ := hrel
    have hel : es.length = k := by have := congrArg List.length he; simp at this; omega
    have HE := Lib.hid he
    have hel2 : es.length ≤ 1048576 := by omega
    have HEL := Lib.hid hel
    clear he hel hE1 b1 hmk
    by_cases hlt : k < rows.length
    · obtain ⟨b, off, rfl, hblt, hc⟩ := hB (by omega)
      obtain ⟨Ar, cr, c1, c3, c4⟩ := hc k hlt
      have h1 : wr.cell? ⟨b, off + k, none⟩ = some (.slice Ar (rr rows k).length cr) := (hW.cell hblt).trans c1
      have h3 := c3.below hW
      clear hc c1 c3
      have hw0 : w.heap.size ≤ wr.heap.size := hW.size
      have hgl := hH.lt
      have hrg : RowG wr wr.heap.size g Ar (rr rows k) := RowG.of h3 hw0 hw0 hgl.1
      go_wp2_with (at_builtin; refine wpList_append_any _ rfl (.tmp 15) (.tmp 18) 24 rfl w.heap.size 50 i0 _ 2 32 Try.underlying24 hi0 hz0 hz1 hz2 rfl (by decide) _ _ (entCells es) rfl (hH.1.alloc _) _ (some ⟨wr.heap.size, 0, none⟩) 1 1 [.slice Ar (rr rows k).length cr, .int .i64 1] rfl (reads_new2 wr _ _ _) (by simp [Value.oneCell']) (by simp only [maxLen]; omega) (by omega) (by rw [World.size_alloc]; omega) ?_; intro v2 w2 hown2 hg2 hat2; obtain ⟨g2, cap2, hv2, hC2⟩ := hH.push (e := ⟨rr rows k, 1, Ar, cr, 0⟩) hg2 hown2 hat2 ⟨hrg, c4⟩; subst hv2)
      have hW2 : Below w.heap.size w w2 := (hW.alloc hW.size _).grown hg2 (by rw [World.size_alloc]; omega) (fun r e => by have : g = r := Option.some.inj e; omega)
      have HE2 := Lib.hid (show (es ++ [(⟨rr rows k, 1, Ar, cr, 0⟩ : Ent)]).map Ent.pair = (rows.take (k + 1)).map (fun r => (r, 1)) by rw [List.map_append, HE.out, List.take_succ_eq_append_getElem hlt, List.map_append, rr_eq hlt]; rfl)
      have HH2 := Lib.hid hC2
      have HW2 := Lib.hid hW2
      clear hown2 hg2 hat2 hC2 hH hW hW2 h1 h3 hrg hgl
      go_wp2
      go_roundw
      case rel => exact ⟨k + 1, g2, cap2, _, by omega, by go_num, by simp, HH2.out, HE2.out, HW2.out⟩
      case measure => simp [intOf]; omega
    · have hd : decide (k < rows.length) = false := by simpa using hlt
      have HEQ := Lib.hid (show es.map Ent.pair = rows.map (fun r => (r, 1)) by rw [HE.out, List.take_of_length_le (by omega)])
      have hN : N64 (es.map Ent.pair) := by
        intro p hp
        rw [HEQ.out] at hp
        obtain ⟨r, _, rfl⟩ := List.mem_map.1 hp
        show addW 0 1 = 1
        rw [addW_small (by omega) (by omega) (by omega) (by omega)]; rfl
      go_wp2_with fail
      refine (together_any w.heap.size g cap es wr hH hN hel2).mono ?_
      rintro e w2 ⟨gb, cb, bs, rfl, hO, hb, hb2⟩
      have HB := Lib.hid hb
      clear hb hN
      go_wp2
      go_ret
      exact ⟨gb, cb, bs, rfl, hO.lower hW.size, by rw [HB.out, HEQ.out, tog_rowsL], hW.trans hb2⟩
end Go.Proofs.Ytcfnbpofbcendaa
