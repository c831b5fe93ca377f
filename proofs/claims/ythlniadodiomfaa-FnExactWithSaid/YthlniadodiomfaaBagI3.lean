/- The contract of the program's With: a bag of the call's own that reads as told; nothing that lay has turned. For bags of at most 2^38 and rows of at most 2^40. -/
import Derived.Test.YthlniadodiomfaaBagI2
namespace Go.Proofs.Ythlniadodiomfaa
open Go.RowKit

/-- The same, and not nil. -/
def OwnN (bag : List (List Int × Int)) (w : World) (e : Ending) (w' : World) : Prop :=
  ∃ v es, e = .returned v ∧ OBag w' w.heap.size v es ∧ es.map Ent.pair = bag ∧ Below w.heap.size w w' ∧ ∃ g, v.ownBlock = some g
theorem appendCopies_at (m lo : Nat) (v0 : Value) (es0 : List Ent) (A : Option Addr) (c : Nat) (bag : List (List Int × Int)) (w : World) (hm : bag.length = m) (hlo : lo ≤ w.heap.size) (hO0 : OBag w lo v0 es0) (hB : Bag w lo A bag) (hl : es0.length + m ≤ 1099511627776) (hn0 : ∃ g, v0.ownBlock = some g) :
    Calls Try.prog 70 #[v0, .slice A m c] w fun e w' => ∃ v es, e = .returned v ∧ OBag w' lo v es ∧ es.map Ent.pair = es0.map Ent.pair ++ bag ∧ Below lo w w' ∧ ∃ g, v.ownBlock = some g := by
  subst hm; exact appendCopies_any lo v0 es0 A c bag w hlo hO0 hB hl hn0

set_option maxRecDepth 100000 in
set_option maxHeartbeats 4000000 in
theorem implWith_own (b off c : Nat) (A' : Option Addr) (c' : Nat) (bag : List (List Int × Int)) (row : List Int) (n : Int) (w : World) (hB : Bag w w.heap.size (some ⟨b, off, none⟩) bag) (hbc : bag.length ≤ c) (hI : Ints w w.heap.size A' row) (hl : bag.length ≤ 274877906944) (hr : row.length ≤ 1099511627776) :
    Calls Try.prog 21 #[.slice (some ⟨b, off, none⟩) bag.length c, .slice A' row.length c', .int .i64 n] w (OwnN (withAll bag row n) w) := by
  obtain ⟨i0, hi0, hz0, hz1, hz2⟩ := info_parts info_count
  cases hn : inB n (-1000000) 1000000 with
  | false =>
    have HN := Lib.hid hn
    clear hn
    have b1 := (Below.refl w.heap.size w).alloc (Nat.le_refl _) (.cells #[] 34)
    have hE := OBag.nil (empty_counts w)
    go_enter Try.func21, Try.ntmps21
    go_wp2_with fail
    refine (timesOk_no n w HN.out).mono ?_
    rintro e w' ⟨rfl, rfl⟩
    go_wp2_with fail
    refine (appendCopies_any w.heap.size _ [] _ c bag _ b1.size hE (hB.below b1) (by simp; omega) ⟨_, rfl⟩).mono ?_
    rintro e w1 ⟨v, es, rfl, hO, he, hb, hnn⟩
    have HE := Lib.hid he
    clear he
    go_wp2
    go_ret
    exact ⟨_, es, rfl, hO, by rw [withAll_no HN.out, HE.out]; rfl, b1.trans hb, hnn⟩
  | true =>
    have HN := Lib.hid hn
    clear hn
    have hmk : ∀ w, (Instr.makeSlice 24 (.int .i64 0) (.int .i64 ((bag.length : Int) + 1))).run Try.prog w = .ok (.slice (some ⟨w.heap.size, 0, none⟩) 0 (bag.length + 1)) (w.alloc (.cells (madeCells #[.slice none 0 0, .int .i64 0] ((bag.length + 1) * 2)) 34)) := fun w => by
      have := make_room (bag.length + 1) (by omega) w
      simpa using this
    go_enter Try.func21, Try.ntmps21
    go_wp2_with fail
    refine (timesOk_yes n w HN.out).mono ?_
    rintro e w' ⟨rfl, rfl⟩
    go_wp2_with fail
    refine (placeFor_any _ A' c c' bag row w hB hI (by omega) hr).mono ?_
    rintro e w1 ⟨rfl, hb1⟩
    have hpl := place_le bag row
    obtain ⟨k, hk⟩ : ∃ k, placeL bag row = k := ⟨_, rfl⟩
    rw [hk] at hpl ⊢
    have HK := Lib.hid hk
    clear hk
    have hB1 := hB.below hb1
    have hI1 := hI.on hb1
    have hk0 : (0 : Int) ≤ (k : Int) := Int.natCast_nonneg _
    have hk1 : (k : Int) ≤ (bag.length : Int) := by omega
    have hbc' : (bag.length : Int) ≤ (c : Int) := by omega
    have hk2 : (k : Int) ≤ (c : Int) := by omega
    by_cases hlt : k < bag.length
    · have hck : ¬ c = k := by omega
      obtain ⟨b', off', e, hblt, hc⟩ := hB1 (by omega)
      obtain ⟨rfl, rfl⟩ : b = b' ∧ off = off' := by simpa using e
      obtain ⟨Ar, cr, h1, h2, h3, h4⟩ := hc k hlt
      clear hc e
      have h0l : 0 < bag.length - k := by omega
      go_wp2_with fail
      refine (slicesEqual_any Ar A' cr c' (rx bag k) row w1 _ _ (h3.more hb1.size) hI1 h4 hr).mono ?_
      rintro e wc ⟨rfl, n2, hw2⟩
      have hbw : Below w.heap.size w wc := by rw [hw2]; exact bel_drewN hb1 n2
      have hIc : Ints wc wc.heap.size A' row := by rw [hw2]; exact hI1
      have h2c : wc.cell? ⟨b, off + k * 2 + 1, none⟩ = some (.int .i64 (nx bag k)) := by rw [hw2]; exact h2
      clear hw2 h1 h2 h3 hI1 hB1 hb1
      by_cases he : rx bag k = row
      · rw [decide_eq_true he]
        have HE := Lib.hid he
        clear he
        have HW0 := Lib.hid (show addW n (nx bag k) = 0 → withL bag row n = bag.take k ++ bag.drop (k + 1) from fun h => withL_gone HK.out hlt HE.out (by rw [addW_comm]; exact h))
        have HW1 := Lib.hid (show ¬ addW n (nx bag k) = 0 → withL bag row n = bag.take k ++ (row, addW n (nx bag k)) :: bag.drop (k + 1) from fun h => by rw [addW_comm] at h ⊢; exact withL_same HK.out hlt HE.out h)
        have hadd : IntKind.i64.wrap (n + nx bag k) = addW n (nx bag k) := rfl
        have HMB := Lib.hid (show (bag.drop (k + 1)).length = bag.length - k - 1 by rw [List.length_drop]; omega)
        have h1i : (1 : Int) ≤ ((bag.length - k : Nat) : Int) := by omega
        have h1c : (1 : Int) ≤ ((c - k : Nat) : Int) := by omega
        have hmc : ((bag.length - k : Nat) : Int) ≤ ((c - k : Nat) : Int) := by omega
        by_cases hc1 : c - k = 1
        · have hBb : Bag w w.heap.size (some ⟨b, off + k * 2, none⟩) (bag.drop (k + 1)) := by
            rw [List.drop_of_length_le (by omega)]; exact Bag.empty _ _ _
          have hlow : w.heap.size ≤ wc.heap.size := hbw.size
          go_wp2_with fail
          have hwl : IntKind.i64.wrap ((bag.length : Int) + 1) = (bag.length : Int) + 1 := by rw [IntKind.wrap_i64]; omega
          go_region_held3 (fun _ => True) (exact trivial)
            (first | (go_at_call 70; refine (appendCopies_at k w.heap.size _ [] (some ⟨b, off, none⟩) _ (bag.take k) _ (by rw [List.length_take]; omega) (Nat.le_trans hlow (by rw [World.size_alloc]; exact Nat.le_succ _)) (room_counts (bag.length + 1) (by omega) wc.drew w.heap.size (by exact hlow)) ((hB.below ((bel_drewN hbw 1).alloc (by exact hlow) _)).take k) (by simp; omega) ⟨_, rfl⟩).mono ?_; rintro e w4 ⟨v4, es4, rfl, hO4, he4, hb4, hnn4⟩))
          have hbw4 : Below w.heap.size w w4 := ((bel_drewN hbw 1).alloc (by exact hlow) _).trans hb4
          have hel4 : es4.length = k := by have := congrArg List.length he4; simp at this; omega
          have hp4 : es4.map Ent.pair = bag.take k := by simpa using he4
          have HP4 := Lib.hid hp4
          have HNN4 := Lib.hid hnn4
          have hI4 := hI.on hbw4
          have hlow4 : w.heap.size ≤ w4.heap.size := hbw4.size
          have HEl4 := Lib.hid hel4
          have hk4 : es4.length ≤ 274877906944 := by omega
          clear hnn4 hwl hp4 he4 hel4 hb4 hbw hIc hlow
          by_cases hn0 : (addW n (nx bag k)) = 0
          · have hz : ((addW n (nx bag k)) != 0) = false := by simpa using hn0
            have HN0 := Lib.hid hn0
            clear hn0
            go_wp2_with fail
            refine (appendCopies_at (bag.length - k - 1) w.heap.size v4 es4 _ _ (bag.drop (k + 1)) w4 HMB.out hlow4 hO4 (hBb.below hbw4) (by omega) HNN4.out).mono ?_
            rintro e w5 ⟨v5, es5, rfl, hO5, he5, hb5, hnn5⟩
            have HE5 := Lib.hid he5
            clear he5
            go_wp2
            go_ret
            exact ⟨_, es5, rfl, hO5, by rw [withAll_yes HN.out, HE5.out, HP4.out]; exact (HW0.out HN0.out).symm, hbw4.trans hb5, hnn5⟩
          · have hz : ((addW n (nx bag k)) != 0) = true := by simpa using hn0
            have HN0 := Lib.hid hn0
            clear hn0
            go_wp2_with fail
            refine (copyOfRow_row A' c' row w4 hI4 hr).mono ?_
            rintro e w5 ⟨A5, cap5, g5, rfl, hg5, hR5, hb5⟩
            have hO5 := hO4.on hb5
            have hbw5 : Below w.heap.size w w5 := hbw4.trans (hb5.mono hlow4)
            have hlow5 : w.heap.size ≤ w5.heap.size := hbw5.size
            go_wp2_with (at_builtin; refine wpList_append_any _ rfl (.tmp 51) (.tmp 56) 24 rfl w.heap.size 34 i0 _ 2 32 Try.underlying24 hi0 hz0 hz1 hz2 rfl (by decide) _ _ (entCells es4) rfl (hO5.1.alloc _) _ (some ⟨w5.heap.size, 0, none⟩) 1 1 [.slice A5 row.length cap5, .int .i64 (addW n (nx bag k))] rfl (reads_new2 w5 _ _ _) (by simp [Value.oneCell']) (by simp only [maxLen]; omega) (by omega) (by rw [World.size_alloc]; omega) ?_; intro v6 w6 hown6 hg6 hat6)
            have hO6 : OBag w6 w.heap.size v6 (es4 ++ [⟨row, (addW n (nx bag k)), A5, cap5, g5⟩]) := hO4.pushRow rfl hlow4 hg5 hR5 hO5 hown6 hg6 hat6
            have hbw6 : Below w.heap.size w w6 := (hbw5.alloc hlow5 _).grown hg6 (by rw [World.size_alloc]; omega) (fun r e => (hO5.1.lt r e).1)
            have hp6 : (es4 ++ [(⟨row, (addW n (nx bag k)), A5, cap5, g5⟩ : Ent)]).map Ent.pair = bag.take k ++ [(row, (addW n (nx bag k)))] := by rw [List.map_append, HP4.out]; rfl
            have HP6 := Lib.hid hp6
            have HNN6 := Lib.hid (show ∃ g, v6.ownBlock = some g from hat6.elim (fun e => HNN4.out.imp fun g hg => e.trans hg) (fun e => ⟨_, e⟩))
            have hl6 : (es4 ++ [(⟨row, (addW n (nx bag k)), A5, cap5, g5⟩ : Ent)]).length ≤ 274877906945 := by simp; omega
            have hlow6 : w.heap.size ≤ w6.heap.size := hbw6.size
            clear hp6 hown6 hg6 hat6 hO5 hO4 hR5 hb5 hbw4 hbw5 hI4 hg5
            generalize es4 ++ [(⟨row, (addW n (nx bag k)), A5, cap5, g5⟩ : Ent)] = es6 at *
            go_wp2_with fail
            refine (appendCopies_at (bag.length - k - 1) w.heap.size v6 es6 _ _ (bag.drop (k + 1)) w6 HMB.out hlow6 hO6 (hBb.below hbw6) (by omega) HNN6.out).mono ?_
            rintro e w7 ⟨v7, es7, rfl, hO7, he7, hb7, hnn7⟩
            have HE7 := Lib.hid he7
            clear he7
            go_wp2
            go_ret
            exact ⟨_, es7, rfl, hO7, by rw [withAll_yes HN.out, HE7.out, HP6.out, List.append_assoc]; exact (HW1.out HN0.out).symm, hbw6.trans hb7, hnn7⟩
        · have hBb : Bag w w.heap.size (some ⟨b, off + k * 2 + 2, none⟩) (bag.drop (k + 1)) := by
            have := hB.drop (k + 1)
            rwa [show off + (k + 1) * 2 = off + k * 2 + 2 by omega] at this
          have hlow : w.heap.size ≤ wc.heap.size := hbw.size
          go_wp2_with fail
          have hwl : IntKind.i64.wrap ((bag.length : Int) + 1) = (bag.length : Int) + 1 := by rw [IntKind.wrap_i64]; omega
          go_region_held3 (fun _ => True) (exact trivial)
            (first | (go_at_call 70; refine (appendCopies_at k w.heap.size _ [] (some ⟨b, off, none⟩) _ (bag.take k) _ (by rw [List.length_take]; omega) (Nat.le_trans hlow (by rw [World.size_alloc]; exact Nat.le_succ _)) (room_counts (bag.length + 1) (by omega) wc.drew w.heap.size (by exact hlow)) ((hB.below ((bel_drewN hbw 1).alloc (by exact hlow) _)).take k) (by simp; omega) ⟨_, rfl⟩).mono ?_; rintro e w4 ⟨v4, es4, rfl, hO4, he4, hb4, hnn4⟩))
          have hbw4 : Below w.heap.size w w4 := ((bel_drewN hbw 1).alloc (by exact hlow) _).trans hb4
          have hel4 : es4.length = k := by have := congrArg List.length he4; simp at this; omega
          have hp4 : es4.map Ent.pair = bag.take k := by simpa using he4
          have HP4 := Lib.hid hp4
          have HNN4 := Lib.hid hnn4
          have hI4 := hI.on hbw4
          have hlow4 : w.heap.size ≤ w4.heap.size := hbw4.size
          have HEl4 := Lib.hid hel4
          have hk4 : es4.length ≤ 274877906944 := by omega
          clear hnn4 hwl hp4 he4 hel4 hb4 hbw hIc hlow
          by_cases hn0 : (addW n (nx bag k)) = 0
          · have hz : ((addW n (nx bag k)) != 0) = false := by simpa using hn0
            have HN0 := Lib.hid hn0
            clear hn0
            go_wp2_with fail
            refine (appendCopies_at (bag.length - k - 1) w.heap.size v4 es4 _ _ (bag.drop (k + 1)) w4 HMB.out hlow4 hO4 (hBb.below hbw4) (by omega) HNN4.out).mono ?_
            rintro e w5 ⟨v5, es5, rfl, hO5, he5, hb5, hnn5⟩
            have HE5 := Lib.hid he5
            clear he5
            go_wp2
            go_ret
            exact ⟨_, es5, rfl, hO5, by rw [withAll_yes HN.out, HE5.out, HP4.out]; exact (HW0.out HN0.out).symm, hbw4.trans hb5, hnn5⟩
          · have hz : ((addW n (nx bag k)) != 0) = true := by simpa using hn0
            have HN0 := Lib.hid hn0
            clear hn0
            go_wp2_with fail
            refine (copyOfRow_row A' c' row w4 hI4 hr).mono ?_
            rintro e w5 ⟨A5, cap5, g5, rfl, hg5, hR5, hb5⟩
            have hO5 := hO4.on hb5
            have hbw5 : Below w.heap.size w w5 := hbw4.trans (hb5.mono hlow4)
            have hlow5 : w.heap.size ≤ w5.heap.size := hbw5.size
            go_wp2_with (at_builtin; refine wpList_append_any _ rfl (.tmp 51) (.tmp 56) 24 rfl w.heap.size 34 i0 _ 2 32 Try.underlying24 hi0 hz0 hz1 hz2 rfl (by decide) _ _ (entCells es4) rfl (hO5.1.alloc _) _ (some ⟨w5.heap.size, 0, none⟩) 1 1 [.slice A5 row.length cap5, .int .i64 (addW n (nx bag k))] rfl (reads_new2 w5 _ _ _) (by simp [Value.oneCell']) (by simp only [maxLen]; omega) (by omega) (by rw [World.size_alloc]; omega) ?_; intro v6 w6 hown6 hg6 hat6)
            have hO6 : OBag w6 w.heap.size v6 (es4 ++ [⟨row, (addW n (nx bag k)), A5, cap5, g5⟩]) := hO4.pushRow rfl hlow4 hg5 hR5 hO5 hown6 hg6 hat6
            have hbw6 : Below w.heap.size w w6 := (hbw5.alloc hlow5 _).grown hg6 (by rw [World.size_alloc]; omega) (fun r e => (hO5.1.lt r e).1)
            have hp6 : (es4 ++ [(⟨row, (addW n (nx bag k)), A5, cap5, g5⟩ : Ent)]).map Ent.pair = bag.take k ++ [(row, (addW n (nx bag k)))] := by rw [List.map_append, HP4.out]; rfl
            have HP6 := Lib.hid hp6
            have HNN6 := Lib.hid (show ∃ g, v6.ownBlock = some g from hat6.elim (fun e => HNN4.out.imp fun g hg => e.trans hg) (fun e => ⟨_, e⟩))
            have hl6 : (es4 ++ [(⟨row, (addW n (nx bag k)), A5, cap5, g5⟩ : Ent)]).length ≤ 274877906945 := by simp; omega
            have hlow6 : w.heap.size ≤ w6.heap.size := hbw6.size
            clear hp6 hown6 hg6 hat6 hO5 hO4 hR5 hb5 hbw4 hbw5 hI4 hg5
            generalize es4 ++ [(⟨row, (addW n (nx bag k)), A5, cap5, g5⟩ : Ent)] = es6 at *
            go_wp2_with fail
            refine (appendCopies_at (bag.length - k - 1) w.heap.size v6 es6 _ _ (bag.drop (k + 1)) w6 HMB.out hlow6 hO6 (hBb.below hbw6) (by omega) HNN6.out).mono ?_
            rintro e w7 ⟨v7, es7, rfl, hO7, he7, hb7, hnn7⟩
            have HE7 := Lib.hid he7
            clear he7
            go_wp2
            go_ret
            exact ⟨_, es7, rfl, hO7, by rw [withAll_yes HN.out, HE7.out, HP6.out, List.append_assoc]; exact (HW1.out HN0.out).symm, hbw6.trans hb7, hnn7⟩
      · rw [decide_eq_false he]
        have HE := Lib.hid (show ¬ (k < bag.length ∧ rx bag k = row) from fun h => he h.2)
        clear he h2c
        have HW0 := Lib.hid (show n = 0 → withL bag row n = bag.take k ++ bag.drop k from fun h => by rw [List.take_append_drop]; exact withL_none HK.out HE.out h)
        have HW1 := Lib.hid (show ¬ n = 0 → withL bag row n = bag.take k ++ (row, n) :: bag.drop k from fun h => withL_new HK.out HE.out h)
        have HMB := Lib.hid (show (bag.drop k).length = bag.length - k from List.length_drop)
        have hBb := hB.drop k
        have hlow : w.heap.size ≤ wc.heap.size := hbw.size
        go_wp2_with fail
        have hwl : IntKind.i64.wrap ((bag.length : Int) + 1) = (bag.length : Int) + 1 := by rw [IntKind.wrap_i64]; omega
        go_region_held3 (fun _ => True) (exact trivial)
          (first | (go_at_call 70; refine (appendCopies_at k w.heap.size _ [] (some ⟨b, off, none⟩) _ (bag.take k) _ (by rw [List.length_take]; omega) (Nat.le_trans hlow (by rw [World.size_alloc]; exact Nat.le_succ _)) (room_counts (bag.length + 1) (by omega) wc.drew w.heap.size (by exact hlow)) ((hB.below ((bel_drewN hbw 1).alloc (by exact hlow) _)).take k) (by simp; omega) ⟨_, rfl⟩).mono ?_; rintro e w4 ⟨v4, es4, rfl, hO4, he4, hb4, hnn4⟩))
        have hbw4 : Below w.heap.size w w4 := ((bel_drewN hbw 1).alloc (by exact hlow) _).trans hb4
        have hel4 : es4.length = k := by have := congrArg List.length he4; simp at this; omega
        have hp4 : es4.map Ent.pair = bag.take k := by simpa using he4
        have HP4 := Lib.hid hp4
        have HNN4 := Lib.hid hnn4
        have hI4 := hI.on hbw4
        have hlow4 : w.heap.size ≤ w4.heap.size := hbw4.size
        have HEl4 := Lib.hid hel4
        have hk4 : es4.length ≤ 274877906944 := by omega
        clear hnn4 hwl hp4 he4 hel4 hb4 hbw hIc hlow
        by_cases hn0 : n = 0
        · have hz : (n != 0) = false := by simpa using hn0
          have HN0 := Lib.hid hn0
          clear hn0
          go_wp2_with fail
          refine (appendCopies_at (bag.length - k) w.heap.size v4 es4 _ _ (bag.drop k) w4 HMB.out hlow4 hO4 (hBb.below hbw4) (by omega) HNN4.out).mono ?_
          rintro e w5 ⟨v5, es5, rfl, hO5, he5, hb5, hnn5⟩
          have HE5 := Lib.hid he5
          clear he5
          go_wp2
          go_ret
          exact ⟨_, es5, rfl, hO5, by rw [withAll_yes HN.out, HE5.out, HP4.out]; exact (HW0.out HN0.out).symm, hbw4.trans hb5, hnn5⟩
        · have hz : (n != 0) = true := by simpa using hn0
          have HN0 := Lib.hid hn0
          clear hn0
          go_wp2_with fail
          refine (copyOfRow_row A' c' row w4 hI4 hr).mono ?_
          rintro e w5 ⟨A5, cap5, g5, rfl, hg5, hR5, hb5⟩
          have hO5 := hO4.on hb5
          have hbw5 : Below w.heap.size w w5 := hbw4.trans (hb5.mono hlow4)
          have hlow5 : w.heap.size ≤ w5.heap.size := hbw5.size
          go_wp2_with (at_builtin; refine wpList_append_any _ rfl (.tmp 51) (.tmp 56) 24 rfl w.heap.size 34 i0 _ 2 32 Try.underlying24 hi0 hz0 hz1 hz2 rfl (by decide) _ _ (entCells es4) rfl (hO5.1.alloc _) _ (some ⟨w5.heap.size, 0, none⟩) 1 1 [.slice A5 row.length cap5, .int .i64 n] rfl (reads_new2 w5 _ _ _) (by simp [Value.oneCell']) (by simp only [maxLen]; omega) (by omega) (by rw [World.size_alloc]; omega) ?_; intro v6 w6 hown6 hg6 hat6)
          have hO6 : OBag w6 w.heap.size v6 (es4 ++ [⟨row, n, A5, cap5, g5⟩]) := hO4.pushRow rfl hlow4 hg5 hR5 hO5 hown6 hg6 hat6
          have hbw6 : Below w.heap.size w w6 := (hbw5.alloc hlow5 _).grown hg6 (by rw [World.size_alloc]; omega) (fun r e => (hO5.1.lt r e).1)
          have hp6 : (es4 ++ [(⟨row, n, A5, cap5, g5⟩ : Ent)]).map Ent.pair = bag.take k ++ [(row, n)] := by rw [List.map_append, HP4.out]; rfl
          have HP6 := Lib.hid hp6
          have HNN6 := Lib.hid (show ∃ g, v6.ownBlock = some g from hat6.elim (fun e => HNN4.out.imp fun g hg => e.trans hg) (fun e => ⟨_, e⟩))
          have hl6 : (es4 ++ [(⟨row, n, A5, cap5, g5⟩ : Ent)]).length ≤ 274877906945 := by simp; omega
          have hlow6 : w.heap.size ≤ w6.heap.size := hbw6.size
          clear hp6 hown6 hg6 hat6 hO5 hO4 hR5 hb5 hbw4 hbw5 hI4 hg5
          generalize es4 ++ [(⟨row, n, A5, cap5, g5⟩ : Ent)] = es6 at *
          go_wp2_with fail
          refine (appendCopies_at (bag.length - k) w.heap.size v6 es6 _ _ (bag.drop k) w6 HMB.out hlow6 hO6 (hBb.below hbw6) (by omega) HNN6.out).mono ?_
          rintro e w7 ⟨v7, es7, rfl, hO7, he7, hb7, hnn7⟩
          have HE7 := Lib.hid he7
          clear he7
          go_wp2
          go_ret
          exact ⟨_, es7, rfl, hO7, by rw [withAll_yes HN.out, HE7.out, HP6.out, List.append_assoc]; exact (HW1.out HN0.out).symm, hbw6.trans hb7, hnn7⟩
    · have HE := Lib.hid (show ¬ (k < bag.length ∧ rx bag k = row) from fun h => hlt h.1)
      have HW0 := Lib.hid (show n = 0 → withL bag row n = bag.take k ++ [] from fun h => by rw [List.take_of_length_le (by omega), List.append_nil]; exact withL_none HK.out HE.out h)
      have HW1 := Lib.hid (show ¬ n = 0 → withL bag row n = bag.take k ++ [(row, n)] from fun h => by rw [withL_new HK.out HE.out h, List.drop_of_length_le (by omega)])
      have HMB := Lib.hid (show ([] : List (List Int × Int)).length = 0 from rfl)
      obtain ⟨wc, hwc⟩ : ∃ wc, wc = w1 := ⟨_, rfl⟩
      subst hwc
      have hbw := hb1
      have hIc := hI1
      have hm0 : bag.length - k = 0 := by omega
      clear hb1 hI1 hB1
      by_cases hck : c = k
      · have hBb : Bag w w.heap.size (some ⟨b, off, none⟩) [] := Bag.empty _ _ _
        have hlow : w.heap.size ≤ wc.heap.size := hbw.size
        go_wp2_with fail
        have hwl : IntKind.i64.wrap ((bag.length : Int) + 1) = (bag.length : Int) + 1 := by rw [IntKind.wrap_i64]; omega
        go_region_held3 (fun _ => True) (exact trivial)
          (first | (go_at_call 70; refine (appendCopies_at k w.heap.size _ [] (some ⟨b, off, none⟩) _ (bag.take k) _ (by rw [List.length_take]; omega) (Nat.le_trans hlow (by rw [World.size_alloc]; exact Nat.le_succ _)) (room_counts (bag.length + 1) (by omega) wc.drew w.heap.size (by exact hlow)) ((hB.below ((bel_drewN hbw 1).alloc (by exact hlow) _)).take k) (by simp; omega) ⟨_, rfl⟩).mono ?_; rintro e w4 ⟨v4, es4, rfl, hO4, he4, hb4, hnn4⟩))
        have hbw4 : Below w.heap.size w w4 := ((bel_drewN hbw 1).alloc (by exact hlow) _).trans hb4
        have hel4 : es4.length = k := by have := congrArg List.length he4; simp at this; omega
        have hp4 : es4.map Ent.pair = bag.take k := by simpa using he4
        have HP4 := Lib.hid hp4
        have HNN4 := Lib.hid hnn4
        have hI4 := hI.on hbw4
        have hlow4 : w.heap.size ≤ w4.heap.size := hbw4.size
        have HEl4 := Lib.hid hel4
        have hk4 : es4.length ≤ 274877906944 := by omega
        clear hnn4 hwl hp4 he4 hel4 hb4 hbw hIc hlow
        by_cases hn0 : n = 0
        · have hz : (n != 0) = false := by simpa using hn0
          have HN0 := Lib.hid hn0
          clear hn0
          go_wp2_with fail
          refine (appendCopies_at 0 w.heap.size v4 es4 _ _ [] w4 HMB.out hlow4 hO4 (hBb.below hbw4) (by omega) HNN4.out).mono ?_
          rintro e w5 ⟨v5, es5, rfl, hO5, he5, hb5, hnn5⟩
          have HE5 := Lib.hid he5
          clear he5
          go_wp2
          go_ret
          exact ⟨_, es5, rfl, hO5, by rw [withAll_yes HN.out, HE5.out, HP4.out]; exact (HW0.out HN0.out).symm, hbw4.trans hb5, hnn5⟩
        · have hz : (n != 0) = true := by simpa using hn0
          have HN0 := Lib.hid hn0
          clear hn0
          go_wp2_with fail
          refine (copyOfRow_row A' c' row w4 hI4 hr).mono ?_
          rintro e w5 ⟨A5, cap5, g5, rfl, hg5, hR5, hb5⟩
          have hO5 := hO4.on hb5
          have hbw5 : Below w.heap.size w w5 := hbw4.trans (hb5.mono hlow4)
          have hlow5 : w.heap.size ≤ w5.heap.size := hbw5.size
          go_wp2_with (at_builtin; refine wpList_append_any _ rfl (.tmp 51) (.tmp 56) 24 rfl w.heap.size 34 i0 _ 2 32 Try.underlying24 hi0 hz0 hz1 hz2 rfl (by decide) _ _ (entCells es4) rfl (hO5.1.alloc _) _ (some ⟨w5.heap.size, 0, none⟩) 1 1 [.slice A5 row.length cap5, .int .i64 n] rfl (reads_new2 w5 _ _ _) (by simp [Value.oneCell']) (by simp only [maxLen]; omega) (by omega) (by rw [World.size_alloc]; omega) ?_; intro v6 w6 hown6 hg6 hat6)
          have hO6 : OBag w6 w.heap.size v6 (es4 ++ [⟨row, n, A5, cap5, g5⟩]) := hO4.pushRow rfl hlow4 hg5 hR5 hO5 hown6 hg6 hat6
          have hbw6 : Below w.heap.size w w6 := (hbw5.alloc hlow5 _).grown hg6 (by rw [World.size_alloc]; omega) (fun r e => (hO5.1.lt r e).1)
          have hp6 : (es4 ++ [(⟨row, n, A5, cap5, g5⟩ : Ent)]).map Ent.pair = bag.take k ++ [(row, n)] := by rw [List.map_append, HP4.out]; rfl
          have HP6 := Lib.hid hp6
          have HNN6 := Lib.hid (show ∃ g, v6.ownBlock = some g from hat6.elim (fun e => HNN4.out.imp fun g hg => e.trans hg) (fun e => ⟨_, e⟩))
          have hl6 : (es4 ++ [(⟨row, n, A5, cap5, g5⟩ : Ent)]).length ≤ 274877906945 := by simp; omega
          have hlow6 : w.heap.size ≤ w6.heap.size := hbw6.size
          clear hp6 hown6 hg6 hat6 hO5 hO4 hR5 hb5 hbw4 hbw5 hI4 hg5
          generalize es4 ++ [(⟨row, n, A5, cap5, g5⟩ : Ent)] = es6 at *
          go_wp2_with fail
          refine (appendCopies_at 0 w.heap.size v6 es6 _ _ [] w6 HMB.out hlow6 hO6 (hBb.below hbw6) (by omega) HNN6.out).mono ?_
          rintro e w7 ⟨v7, es7, rfl, hO7, he7, hb7, hnn7⟩
          have HE7 := Lib.hid he7
          clear he7
          go_wp2
          go_ret
          exact ⟨_, es7, rfl, hO7, by rw [withAll_yes HN.out, HE7.out, HP6.out, List.append_assoc]; exact (HW1.out HN0.out).symm, hbw6.trans hb7, hnn7⟩
      · have hBb : Bag w w.heap.size (some ⟨b, off + k * 2, none⟩) [] := Bag.empty _ _ _
        have hlow : w.heap.size ≤ wc.heap.size := hbw.size
        go_wp2_with fail
        have hwl : IntKind.i64.wrap ((bag.length : Int) + 1) = (bag.length : Int) + 1 := by rw [IntKind.wrap_i64]; omega
        go_region_held3 (fun _ => True) (exact trivial)
          (first | (go_at_call 70; refine (appendCopies_at k w.heap.size _ [] (some ⟨b, off, none⟩) _ (bag.take k) _ (by rw [List.length_take]; omega) (Nat.le_trans hlow (by rw [World.size_alloc]; exact Nat.le_succ _)) (room_counts (bag.length + 1) (by omega) wc.drew w.heap.size (by exact hlow)) ((hB.below ((bel_drewN hbw 1).alloc (by exact hlow) _)).take k) (by simp; omega) ⟨_, rfl⟩).mono ?_; rintro e w4 ⟨v4, es4, rfl, hO4, he4, hb4, hnn4⟩))
        have hbw4 : Below w.heap.size w w4 := ((bel_drewN hbw 1).alloc (by exact hlow) _).trans hb4
        have hel4 : es4.length = k := by have := congrArg List.length he4; simp at this; omega
        have hp4 : es4.map Ent.pair = bag.take k := by simpa using he4
        have HP4 := Lib.hid hp4
        have HNN4 := Lib.hid hnn4
        have hI4 := hI.on hbw4
        have hlow4 : w.heap.size ≤ w4.heap.size := hbw4.size
        have HEl4 := Lib.hid hel4
        have hk4 : es4.length ≤ 274877906944 := by omega
        clear hnn4 hwl hp4 he4 hel4 hb4 hbw hIc hlow
        by_cases hn0 : n = 0
        · have hz : (n != 0) = false := by simpa using hn0
          have HN0 := Lib.hid hn0
          clear hn0
          go_wp2_with fail
          refine (appendCopies_at 0 w.heap.size v4 es4 _ _ [] w4 HMB.out hlow4 hO4 (hBb.below hbw4) (by omega) HNN4.out).mono ?_
          rintro e w5 ⟨v5, es5, rfl, hO5, he5, hb5, hnn5⟩
          have HE5 := Lib.hid he5
          clear he5
          go_wp2
          go_ret
          exact ⟨_, es5, rfl, hO5, by rw [withAll_yes HN.out, HE5.out, HP4.out]; exact (HW0.out HN0.out).symm, hbw4.trans hb5, hnn5⟩
        · have hz : (n != 0) = true := by simpa using hn0
          have HN0 := Lib.hid hn0
          clear hn0
          go_wp2_with fail
          refine (copyOfRow_row A' c' row w4 hI4 hr).mono ?_
          rintro e w5 ⟨A5, cap5, g5, rfl, hg5, hR5, hb5⟩
          have hO5 := hO4.on hb5
          have hbw5 : Below w.heap.size w w5 := hbw4.trans (hb5.mono hlow4)
          have hlow5 : w.heap.size ≤ w5.heap.size := hbw5.size
          go_wp2_with (at_builtin; refine wpList_append_any _ rfl (.tmp 51) (.tmp 56) 24 rfl w.heap.size 34 i0 _ 2 32 Try.underlying24 hi0 hz0 hz1 hz2 rfl (by decide) _ _ (entCells es4) rfl (hO5.1.alloc _) _ (some ⟨w5.heap.size, 0, none⟩) 1 1 [.slice A5 row.length cap5, .int .i64 n] rfl (reads_new2 w5 _ _ _) (by simp [Value.oneCell']) (by simp only [maxLen]; omega) (by omega) (by rw [World.size_alloc]; omega) ?_; intro v6 w6 hown6 hg6 hat6)
          have hO6 : OBag w6 w.heap.size v6 (es4 ++ [⟨row, n, A5, cap5, g5⟩]) := hO4.pushRow rfl hlow4 hg5 hR5 hO5 hown6 hg6 hat6
          have hbw6 : Below w.heap.size w w6 := (hbw5.alloc hlow5 _).grown hg6 (by rw [World.size_alloc]; omega) (fun r e => (hO5.1.lt r e).1)
          have hp6 : (es4 ++ [(⟨row, n, A5, cap5, g5⟩ : Ent)]).map Ent.pair = bag.take k ++ [(row, n)] := by rw [List.map_append, HP4.out]; rfl
          have HP6 := Lib.hid hp6
          have HNN6 := Lib.hid (show ∃ g, v6.ownBlock = some g from hat6.elim (fun e => HNN4.out.imp fun g hg => e.trans hg) (fun e => ⟨_, e⟩))
          have hl6 : (es4 ++ [(⟨row, n, A5, cap5, g5⟩ : Ent)]).length ≤ 274877906945 := by simp; omega
          have hlow6 : w.heap.size ≤ w6.heap.size := hbw6.size
          clear hp6 hown6 hg6 hat6 hO5 hO4 hR5 hb5 hbw4 hbw5 hI4 hg5
          generalize es4 ++ [(⟨row, n, A5, cap5, g5⟩ : Ent)] = es6 at *
          go_wp2_with fail
          refine (appendCopies_at 0 w.heap.size v6 es6 _ _ [] w6 HMB.out hlow6 hO6 (hBb.below hbw6) (by omega) HNN6.out).mono ?_
          rintro e w7 ⟨v7, es7, rfl, hO7, he7, hb7, hnn7⟩
          have HE7 := Lib.hid he7
          clear he7
          go_wp2
          go_ret
          exact ⟨_, es7, rfl, hO7, by rw [withAll_yes HN.out, HE7.out, HP6.out, List.append_assoc]; exact (HW1.out HN0.out).symm, hbw6.trans hb7, hnn7⟩
theorem implWith_any (b off c : Nat) (A' : Option Addr) (c' : Nat) (bag : List (List Int × Int)) (row : List Int) (n : Int) (w : World) (hB : Bag w w.heap.size (some ⟨b, off, none⟩) bag) (hbc : bag.length ≤ c) (hI : Ints w w.heap.size A' row) (hl : bag.length ≤ 274877906944) (hr : row.length ≤ 1099511627776) :
    Calls Try.prog 21 #[.slice (some ⟨b, off, none⟩) bag.length c, .slice A' row.length c', .int .i64 n] w (OwnB (withAll bag row n) w) :=
  (implWith_own b off c A' c' bag row n w hB hbc hI hl hr).mono fun _ _ ⟨v, es, h1, h2, h3, h4, _⟩ => ⟨v, es, h1, h2, h3, h4⟩
end Go.Proofs.Ythlniadodiomfaa
