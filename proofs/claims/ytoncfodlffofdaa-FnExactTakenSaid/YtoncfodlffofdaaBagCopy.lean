/- Contracts of the copying of bags: the model's l2Copy, the program's appendCopies: a bag of the call's own that reads as told; nothing that lay below has turned. For bags and rows of at most 2^40. -/
import Derived.Test.YtoncfodlffofdaaCopyRow0
namespace Go.Proofs.Ytoncfodlffofdaa
open Go.RowKit

set_option maxRecDepth 100000 in
set_option maxHeartbeats 4000000 in
theorem l2Copy_any (A : Option Addr) (c : Nat) (bag : List (List Int × Int)) (w : World) (hB : Bag w w.heap.size A bag) (hl : bag.length ≤ 1099511627776) :
    Calls Try.prog 101 #[.slice A bag.length c] w fun e w' => ∃ v es, e = .returned v ∧ OBag w' w.heap.size v es ∧ (∃ g, v.ownBlock = some g) ∧ es.map Ent.pair = bag ∧ Below w.heap.size w w' := by
  obtain ⟨i0, hi0, hz0, hz1, hz2⟩ := info_parts info_count
  have b1 := (Below.refl w.heap.size w).alloc (Nat.le_refl _) (.cells #[] 34)
  have hE := OBag.nil (empty_counts w)
  go_enter Try.func101, Try.ntmps101
  go_wp2
  go_loopw [3, 4] (fun v i wr => ∃ (k : Nat) (es : List Ent), k ≤ bag.length ∧ i = .int .i64 k ∧ OBag wr w.heap.size v es ∧ (∃ g, v.ownBlock = some g) ∧ es.map Ent.pair = bag.take k ∧ Below w.heap.size w wr) (fun _ i _ => bag.length - (intOf i).toNat)
  case atStart => exact ⟨0, [], Nat.zero_le _, rfl, hE, ⟨_, rfl⟩, by simp, b1⟩
  case round =>
    obtain ⟨k, es, hk, rfl, hO, hnn, he, hW⟩ := hrel
    have HNN := Lib.hid hnn
    clear hnn
    have HE := Lib.hid he
    have hel : es.length = k := by have := congrArg List.length HE.out; simp at this; omega
    have HEL := Lib.hid hel
    clear he hel hE b1
    by_cases hlt : k < bag.length
    · obtain ⟨b, off, rfl, hblt, hc⟩ := hB (by omega)
      obtain ⟨Ar, cap, c1, c2, h3, h4⟩ := hc k hlt
      clear hc
      have h1 : wr.cell? ⟨b, off + k * 2, none⟩ = some (.slice Ar (rx bag k).length cap) := (hW.cell hblt).trans c1
      have h2 : wr.cell? ⟨b, off + k * 2 + 1, none⟩ = some (.int .i64 (nx bag k)) := (hW.cell hblt).trans c2
      have hk0 : (0 : Int) ≤ (k : Int) := Int.natCast_nonneg _
      have hk1 : (k : Int) < (bag.length : Int) := by omega
      have h3r : Ints wr wr.heap.size Ar (rx bag k) := h3.on hW
      have HC := Lib.hid (And.intro c1 c2)
      clear c1 c2 h3
      go_wp2_with fail
      go_region_held3 (fun w' => w'.cell? ⟨b, off + k * 2, none⟩ = some (.slice Ar (rx bag k).length cap) ∧ w'.cell? ⟨b, off + k * 2 + 1, none⟩ = some (.int .i64 (nx bag k)))
        (first | go_keep | exact ⟨(hk2.cell hblt).trans HC.out.1, (hk2.cell hblt).trans HC.out.2⟩ | exact ⟨(hk1'.cell hblt).trans HC.out.1, (hk1'.cell hblt).trans HC.out.2⟩)
        (first | (refine step_append_any _ rfl (.tmp 12) (.tmp 25) 24 (by rfl) w.heap.size 34 i0 _ 2 32 Try.underlying24 hi0 hz0 hz1 hz2 rfl (by omega) _ _ (entCells es) (by rfl) (hO1.1.alloc _) _ (some ⟨w1.heap.size, 0, none⟩) 1 1 [.slice A1 (rx bag k).length cap1, .int .i64 (nx bag k)] (by rfl) (reads_new2 w1 _ _ _) (by simp [Value.oneCell']) (by simp only [maxLen]; have := HEL.out; omega) (by have := HEL.out; omega) (by rw [World.size_alloc]; have := hk1'.size; omega) ?_; intro v2 w2 hown2 hgrow2 hat2; have hk2 : Below w.heap.size w w2 := (hk1'.alloc hk1'.size _).grown hgrow2 (by rw [World.size_alloc]; have := hk1'.size; omega) (fun g e => (hO1.1.lt g e).1)) | (go_at_call 129; refine (l1Row_row Ar cap (rx bag k) _ (by exact h3r) h4).mono ?_; rintro e w1 ⟨A1, cap1, g1, rfl, hg1, hR1, hb1⟩; have hk1' : Below w.heap.size w w1 := (bel_drewN hW 1).trans (hb1.mono hW.size); have hO1 := (hO.drewN 1).on hb1))
      have hO2 : OBag w2 w.heap.size v2 (es ++ [⟨rx bag k, nx bag k, A1, cap1, g1⟩]) := hO.pushRow rfl hW.size hg1 hR1 hO1 hown2 hgrow2 hat2
      have hp2 := pair_snoc (A1 := A1) (cap1 := cap1) (g1 := g1) HE.out hlt
      have hnn2 : ∃ g, v2.ownBlock = some g := by
        rcases hat2 with e | e
        · exact HNN.out.imp fun g hg => e.trans hg
        · exact ⟨_, e⟩
      have HN2 := Lib.hid hnn2
      have HP := Lib.hid hp2
      clear hnn2 hp2 hown2 hgrow2 hat2 hO1 hk1' hb1 hR1 hg1 hO hW h1 h2 h3r
      go_wp2
      go_roundw
      case rel => exact ⟨k + 1, _, by omega, by go_num, hO2, HN2.out, HP.out, hk2⟩
      case measure => simp [intOf]; omega
    · have hd : decide (k < bag.length) = false := by simpa using hlt
      go_wp2
      go_ret
      exact ⟨_, es, rfl, hO, HNN.out, by rw [HE.out, List.take_of_length_le (by omega)], hW⟩

set_option maxRecDepth 100000 in
set_option maxHeartbeats 4000000 in
theorem appendCopies_any (lo : Nat) (v0 : Value) (es0 : List Ent) (A : Option Addr) (c : Nat) (bag : List (List Int × Int)) (w : World) (hlo : lo ≤ w.heap.size) (hO0 : OBag w lo v0 es0) (hB : Bag w lo A bag) (hl : es0.length + bag.length ≤ 1099511627776) (hn0 : ∃ g, v0.ownBlock = some g) :
    Calls Try.prog 96 #[v0, .slice A bag.length c] w fun e w' => ∃ v es, e = .returned v ∧ OBag w' lo v es ∧ es.map Ent.pair = es0.map Ent.pair ++ bag ∧ Below lo w w' ∧ ∃ g, v.ownBlock = some g := by
  obtain ⟨i0, hi0, hz0, hz1, hz2⟩ := info_parts info_count
  have HN0 := Lib.hid hn0
  clear hn0
  go_enter Try.func96, Try.ntmps96
  go_wp2
  go_loopw [0, 9] (fun v i wr => ∃ (k : Nat) (es : List Ent), k ≤ bag.length ∧ i = .int .i64 k ∧ OBag wr lo v es ∧ es.map Ent.pair = es0.map Ent.pair ++ bag.take k ∧ Below lo w wr ∧ ∃ g, v.ownBlock = some g) (fun _ i _ => bag.length - (intOf i).toNat)
  case atStart => exact ⟨0, es0, Nat.zero_le _, rfl, hO0, by simp, Below.refl _ _, HN0.out⟩
  case round =>
    obtain ⟨k, es, hk, rfl, hO, he, hW, hnn⟩ := hrel
    have HNN := Lib.hid hnn
    clear hnn HN0
    have HE := Lib.hid he
    have hel : es.length = es0.length + k := by have := congrArg List.length HE.out; simp at this; omega
    have HEL := Lib.hid hel
    clear he hel hO0
    by_cases hlt : k < bag.length
    · obtain ⟨b, off, rfl, hblt, hc⟩ := hB (by omega)
      obtain ⟨Ar, cap, c1, c2, h3, h4⟩ := hc k hlt
      clear hc
      have h1 : wr.cell? ⟨b, off + k * 2, none⟩ = some (.slice Ar (rx bag k).length cap) := (hW.cell hblt).trans c1
      have h2 : wr.cell? ⟨b, off + k * 2 + 1, none⟩ = some (.int .i64 (nx bag k)) := (hW.cell hblt).trans c2
      have hk0 : (0 : Int) ≤ (k : Int) := Int.natCast_nonneg _
      have hk1 : (k : Int) < (bag.length : Int) := by omega
      have hlor : lo ≤ wr.heap.size := Nat.le_trans hlo hW.size
      have h3r : Ints wr wr.heap.size Ar (rx bag k) := (h3.below hW).more hlor
      have bc := (Below.refl wr.heap.size wr).alloc (Nat.le_refl _) (.cells #[.slice Ar (rx bag k).length cap, .int .i64 (nx bag k)] 34)
      have BC := Blk.new wr 34 #[.slice Ar (rx bag k).length cap, .int .i64 (nx bag k)]
      have d0 := BC.cell 0
      have d1 := BC.cell 1
      simp only [List.getElem?_toArray, List.getElem?_cons_zero, List.getElem?_cons_succ] at d0 d1
      have hGl := BC.lt
      clear c1 c2 h3 BC
      go_wp2_with fail
      have hO' := hO.on bc
      have hnG : some wr.heap.size ≠ u0.ownBlock := fun e => by have := hO.inside.1 _ e.symm; omega
      have h3' := h3r.on bc
      have hW' : Below lo w (wr.alloc (.cells #[.slice Ar (rx bag k).length cap, .int .i64 (nx bag k)] 34)) := hW.trans (bc.mono hlor)
      have hlo' : lo ≤ (wr.alloc (.cells #[.slice Ar (rx bag k).length cap, .int .i64 (nx bag k)] 34)).heap.size := Nat.le_trans hlor bc.size
      clear h1 h2 hO hW h3r bc
      generalize wr.alloc (.cells #[.slice Ar (rx bag k).length cap, .int .i64 (nx bag k)] 34) = wa at *
      generalize hG : wr.heap.size = G at *
      clear hG
      go_region_held3 (fun w' => w'.cell? ⟨G, 0, none⟩ = some (.slice Ar (rx bag k).length cap) ∧ w'.cell? ⟨G, 1, none⟩ = some (.int .i64 (nx bag k)))
        (first | go_keep | exact ⟨(far_cell (p := ⟨G, 0, none⟩) hb1 hgrow2 hGl hnG).trans d0, (far_cell (p := ⟨G, 1, none⟩) hb1 hgrow2 hGl hnG).trans d1⟩ | exact ⟨(hb1.cell (p := ⟨G, 0, none⟩) hGl).trans d0, (hb1.cell (p := ⟨G, 1, none⟩) hGl).trans d1⟩)
        (first | (refine step_append_any _ rfl (.tmp 13) (.tmp 20) 24 (by rfl) lo 34 i0 _ 2 32 Try.underlying24 hi0 hz0 hz1 hz2 rfl (by omega) _ _ (entCells es) (by rfl) (hO1.1.alloc _) _ (some ⟨w1.heap.size, 0, none⟩) 1 1 [.slice A1 (rx bag k).length cap1, .int .i64 (nx bag k)] (by rfl) (reads_new2 w1 _ _ _) (by simp [Value.oneCell']) (by simp only [maxLen]; have := HEL.out; omega) (by have := HEL.out; omega) (by rw [World.size_alloc]; have hs1 : wa.heap.size ≤ w1.heap.size := hb1.size; omega) ?_; intro v2 w2 hown2 hgrow2 hat2; have hk2 : Below lo w w2 := (hk1'.alloc (by have hs1 : wa.heap.size ≤ w1.heap.size := hb1.size; omega) _).grown hgrow2 (by rw [World.size_alloc]; have hs1 : wa.heap.size ≤ w1.heap.size := hb1.size; omega) (fun g e => (hO1.1.lt g e).1)) | (go_at_call 99; refine (copyOfRow_row Ar cap (rx bag k) _ (by exact h3') h4).mono ?_; rintro e w1 ⟨A1, cap1, g1, rfl, hg1, hR1, hb1⟩; have hk1' : Below lo w w1 := (bel_drewN hW' 1).trans (hb1.mono hlo'); have hO1 := (hO'.drewN 1).on hb1))
      have hO2 : OBag w2 lo v2 (es ++ [⟨rx bag k, nx bag k, A1, cap1, g1⟩]) := hO'.pushRow rfl hlo' hg1 hR1 hO1 hown2 hgrow2 hat2
      have hp2 : (es ++ [(⟨rx bag k, nx bag k, A1, cap1, g1⟩ : Ent)]).map Ent.pair = es0.map Ent.pair ++ bag.take (k + 1) := by
        rw [List.map_append, HE.out, List.take_succ_eq_append_getElem hlt, bag_ix hlt]; simp [Ent.pair]
      have hnn2 : ∃ g, v2.ownBlock = some g := by
        rcases hat2 with e | e
        · exact HNN.out.imp fun g hg => e.trans hg
        · exact ⟨_, e⟩
      have HN2 := Lib.hid hnn2
      have HP := Lib.hid hp2
      clear hnn2 hp2 hown2 hgrow2 hat2 hO1 hk1' hb1 hR1 hg1 hO' hW' d0 d1 h3'
      go_wp2
      go_roundw
      case rel => exact ⟨k + 1, _, by omega, by go_num, hO2, HP.out, hk2, HN2.out⟩
      case measure => simp [intOf]; omega
    · have hd : decide (k < bag.length) = false := by simpa using hlt
      go_wp2
      go_ret
      exact ⟨_, es, rfl, hO, by rw [HE.out, List.take_of_length_le (by omega)], hW, HNN.out⟩
end Go.Proofs.Ytoncfodlffofdaa
