/- The laws' copies of rows and of tables are the call's own; nothing that lay has turned. -/
import Derived.Test.YtoncfodlffofdaaTab3
import Derived.Test.YtoncfodlffofdaaRowsRows
namespace Go.Proofs.Ytoncfodlffofdaa
open Go.RowKit

theorem RCop.own {G lo : Nat} {gs : Nat → Nat} {rows : List (List Int)} {w : World} (h : RCop G gs rows rows.length w) (hlo : lo ≤ G) (hm : rows.length ≤ maxLen) : ∃ es, ORows w lo (.slice (some ⟨G, 0, none⟩) rows.length rows.length) es ∧ es.map Ent.r = rows := by
  obtain ⟨cells, hB, hs, hc, hn⟩ := h
  obtain ⟨es, hes⟩ : ∃ es : List Ent, es = (List.range rows.length).map fun j => ⟨rr rows j, 0, some ⟨gs j, 0, none⟩, (rr rows j).length, gs j⟩ := ⟨_, rfl⟩
  have hl : es.length = rows.length := by simp [hes]
  have hg : ∀ j (hj : j < es.length), es[j] = ⟨rr rows j, 0, some ⟨gs j, 0, none⟩, (rr rows j).length, gs j⟩ := fun j hj => by simp [hes]
  refine ⟨es, ⟨⟨by rw [rowCs_length]; omega, .inr ⟨G, rows.length, cells, by rw [hl], hlo, hB, by omega, hm, by omega, ?_⟩⟩, fun e he => ?_, ?_⟩, ?_⟩
  · apply List.ext_getElem?
    intro j
    by_cases hj : j < es.length
    · rw [List.getElem?_take, if_pos (by omega), Array.getElem?_toList, (hc j (by omega)).1, rowCs_get es j hj, hg j hj]
    · rw [List.getElem?_eq_none (by rw [List.length_take]; exact Nat.le_trans (Nat.min_le_left _ _) (by omega)), List.getElem?_eq_none (by rw [rowCs_length]; omega)]
  · obtain ⟨j, hj, rfl⟩ := List.getElem_of_mem he
    rw [hg j hj]
    obtain ⟨_, h2, h3⟩ := hc j (by omega)
    refine ⟨Row.of_blk h2, fun _ => ⟨?_, fun e => ?_⟩⟩
    · show lo ≤ gs j; omega
    · have e' : gs j = G := Option.some.inj e
      omega
  · rw [List.pairwise_iff_getElem]
    intro i j hi hj hij _ _
    rw [hg i hi, hg j hj]
    exact hn i j hij (by omega)
  · apply List.ext_getElem
    · simp [hl]
    · intro j h1 h2
      rw [List.getElem_map, hg j (by simpa using h1), ← rr_eq h2]
theorem toInt64SS_own (A : Option Addr) (c : Nat) (rows : List (List Int)) (w : World) (hB : Rws w w.heap.size A rows) (hl : rows.length ≤ 1099511627776) :
    Calls Try.prog 82 #[.slice A rows.length c] w fun e w' => ∃ es, e = .returned (.slice (some ⟨w.heap.size, 0, none⟩) rows.length rows.length) ∧ ORows w' w.heap.size (.slice (some ⟨w.heap.size, 0, none⟩) rows.length rows.length) es ∧ es.map Ent.r = rows ∧ Below w.heap.size w w' :=
  (toInt64SS_any A c rows w hB hl).mono fun _ _ ⟨_, he, hC, _, hb⟩ => by
    obtain ⟨es, h1, h2⟩ := hC.own (Nat.le_refl _) (by simp only [maxLen]; omega)
    exact ⟨es, he, h1, h2, hb⟩
set_option maxRecDepth 100000 in
set_option maxHeartbeats 2000000 in
theorem toTable_any (s : ByteArray) (wd : Int) (A : Option Addr) (c : Nat) (rows : List (List Int)) (w : World) (hR : Rws w w.heap.size A rows) (hl : rows.length ≤ 1099511627776) :
    Calls Try.prog 87 #[.agg #[.string s, .int .i64 wd, .slice A rows.length c]] w fun e w' => ∃ g es, e = .returned (.agg #[.string s, .int .i64 wd, .slice (some ⟨g, 0, none⟩) rows.length rows.length]) ∧ ORows w' w.heap.size (.slice (some ⟨g, 0, none⟩) rows.length rows.length) es ∧ es.map Ent.r = rows ∧ Below w.heap.size w w' := by
  have bc := (bel_two (w := w) (.cells #[.string s, .int .i64 wd, .slice A rows.length c] 76) (.cells #[.string ⟨#[]⟩, .int .i64 0, .slice none 0 0] 44)).alloc (by simp; omega) (.cells #[.string s, .int .i64 wd, .slice none 0 0] 44)
  have BR := (Blk.new (w.alloc (.cells #[.string s, .int .i64 wd, .slice A rows.length c] 76)) 44 #[.string ⟨#[]⟩, .int .i64 0, .slice none 0 0]).alloc (.cells #[.string s, .int .i64 wd, .slice none 0 0] 44)
  have BO := Blk.new ((w.alloc (.cells #[.string s, .int .i64 wd, .slice A rows.length c] 76)).alloc (.cells #[.string ⟨#[]⟩, .int .i64 0, .slice none 0 0] 44)) 44 #[.string s, .int .i64 wd, .slice none 0 0]
  have e2 : (w.alloc (.cells #[.string s, .int .i64 wd, .slice A rows.length c] 76)).heap.size = w.heap.size + 1 := by simp
  have e3 : ((w.alloc (.cells #[.string s, .int .i64 wd, .slice A rows.length c] 76)).alloc (.cells #[.string ⟨#[]⟩, .int .i64 0, .slice none 0 0] 44)).heap.size = w.heap.size + 1 + 1 := by simp
  rw [e2] at BR
  rw [e3] at BO
  have hRb := hR.on bc
  clear e2 e3 hR
  go_enter Try.func87, Try.ntmps87
  go_wp2_with fail
  generalize ((w.alloc (.cells #[.string s, .int .i64 wd, .slice A rows.length c] 76)).alloc (.cells #[.string ⟨#[]⟩, .int .i64 0, .slice none 0 0] 44)).alloc (.cells #[.string s, .int .i64 wd, .slice none 0 0] 44) = wb at *
  refine (toInt64SS_own A c rows wb hRb hl).mono ?_
  rintro e w1 ⟨es, rfl, hO1, he1, hb1⟩
  have hbs := BO.lt
  have hW1 : Below w.heap.size w w1 := bc.trans (hb1.mono (by omega))
  have BO1 := BO.below hb1 hbs
  have BR1 := BR.below hb1 BR.lt
  have o0 := BO1.cell 0
  have o1 := BO1.cell 1
  have o2 := BO1.cell 2
  have fo2 := BO1.frozen 2
  have r0 := BR1.cell 0
  have r1 := BR1.cell 1
  have r2 := BR1.cell 2
  have fr0 := BR1.frozen 0
  have fr1 := BR1.frozen 1
  have fr2 := BR1.frozen 2
  simp only [List.getElem?_toArray, List.getElem?_cons_zero, List.getElem?_cons_succ] at o0 o1 o2 r0 r1 r2
  have HE1 := Lib.hid he1
  clear he1 BO BR hRb bc hb1 BO1 BR1
  go_wp2
  refine bodyPost_ret (v := .agg #[.string s, .int .i64 wd, .slice (some ⟨wb.heap.size, 0, none⟩) rows.length rows.length]) (by simp [results, Try.f87, go_sem, *]) rfl ?_
  refine ⟨wb.heap.size, es, rfl, ?_, HE1.out, ?_⟩
  · exact ORows.lower (lo := wb.heap.size) ((((hO1.keep hO1.inside (fun b hb _ => Below.heap_setCell w1 ⟨w.heap.size + 1 + 1, 2, none⟩ _ b (by simp; omega))).keep (hi := w1.heap.size) hO1.inside (fun b hb _ => Below.heap_setCell _ ⟨w.heap.size + 1, 0, none⟩ _ b (by simp; omega))).keep (hi := w1.heap.size) hO1.inside (fun b hb _ => Below.heap_setCell _ ⟨w.heap.size + 1, 1, none⟩ _ b (by simp; omega))).keep (hi := w1.heap.size) hO1.inside (fun b hb _ => Below.heap_setCell _ ⟨w.heap.size + 1, 2, none⟩ _ b (by simp; omega))) (by omega)
  · exact (((hW1.setCell (p := ⟨w.heap.size + 1 + 1, 2, none⟩) (by simp; omega) _).setCell (p := ⟨w.heap.size + 1, 0, none⟩) (by simp) _).setCell (p := ⟨w.heap.size + 1, 1, none⟩) (by simp) _).setCell (p := ⟨w.heap.size + 1, 2, none⟩) (by simp) _
set_option maxRecDepth 100000 in
set_option maxHeartbeats 2000000 in
/-- Two tables alike: the laws' eqTable says so. -/
theorem eqTable_same (s : ByteArray) (wd : Int) (A A' : Option Addr) (c c' : Nat) (rows : List (List Int)) (w : World) (hR : Rws w w.heap.size A rows) (hR' : Rws w w.heap.size A' rows) (hl : rows.length ≤ 1099511627776) :
    Calls Try.prog 88 #[.agg #[.string s, .int .i64 wd, .slice A rows.length c], .agg #[.string s, .int .i64 wd, .slice A' rows.length c']] w fun e w' => e = .returned (.bool true) ∧ Below w.heap.size w w' := by
  have bc := bel_two (w := w) (.cells #[.string s, .int .i64 wd, .slice A rows.length c] 44) (.cells #[.string s, .int .i64 wd, .slice A' rows.length c'] 44)
  have hRb := hR.on bc
  have hRb' := hR'.on bc
  go_enter Try.func88, Try.ntmps88
  go_wp2_with fail
  generalize (w.alloc (.cells #[.string s, .int .i64 wd, .slice A rows.length c] 44)).alloc (.cells #[.string s, .int .i64 wd, .slice A' rows.length c'] 44) = wb at *
  refine (eqInt64SS_same A A' c c' rows wb hRb hRb' hl).mono ?_
  rintro e w1 ⟨rfl, n1, hw1⟩
  have hb1 : Below w.heap.size w w1 := by rw [hw1]; exact bel_drewN bc n1
  clear hw1
  go_wp2
  go_ret
  exact ⟨rfl, hb1⟩
/-- What is left of a size, and what is known where it is not below 0. -/
def SzR (rows : List (List Int)) (w : World) (e : Ending) (w' : World) : Prop :=
  ∃ x, e = .returned (.int .i64 x) ∧ x ≤ 1048576 ∧ (0 ≤ x → rows.length ≤ 1048576 ∧ ∀ j, j < rows.length → (rr rows j).length ≤ 1048576) ∧ w = w'
set_option maxRecDepth 100000 in
set_option maxHeartbeats 2000000 in
theorem szInt64SS_left (A : Option Addr) (c : Nat) (rows : List (List Int)) (left : Int) (w : World) (hB : RawRows w w.heap.size A rows) (hl : rows.length ≤ maxLen) (hz0 : 0 ≤ left) (hz1 : left ≤ 1048576) :
    Calls Try.prog 80 #[.slice A rows.length c, .int .i64 left] w (SzR rows w) := by
  unfold maxLen at hl
  by_cases hbig : left < (rows.length : Int)
  · have hbn : left - (rows.length : Int) < 0 := by omega
    go_enter Try.func80, Try.ntmps80
    go_wp2
    go_ret
    exact ⟨-1, rfl, by omega, fun h => absurd h (by omega), rfl⟩
  have hl2 : rows.length ≤ 1048576 := by omega
  have hx2 : 0 ≤ left - (rows.length : Int) ∧ left - (rows.length : Int) ≤ 1048576 := by omega
  have hbn : decide (left - (rows.length : Int) < 0) = false := by simp; omega
  clear hl
  go_enter Try.func80, Try.ntmps80
  go_wp2
  go_loop [1, 5] (fun l i => ∃ (k : Nat) (x : Int), k ≤ rows.length ∧ i = .int .i64 k ∧ l = .int .i64 x ∧ 0 ≤ x ∧ x ≤ 1048576 ∧ (∀ j, j < k → (rr rows j).length ≤ 1048576)) (fun _ i => rows.length - (intOf i).toNat)
  case atStart => exact ⟨0, _, Nat.zero_le _, rfl, rfl, by omega, by omega, fun j hj => absurd hj (by omega)⟩
  case round =>
    obtain ⟨k, x, hk, rfl, rfl, hx0, hx1, hrows⟩ := hrel
    have HR := Lib.hid hrows
    clear hrows hbn hx2 hbig
    by_cases hlt : k < rows.length
    · obtain ⟨b, off, rfl, _, hc⟩ := hB (by omega)
      obtain ⟨Ar, cap, h1, h3, h4⟩ := hc k hlt
      clear hc
      go_wp2_with fail
      refine (szInt64S_any Ar (rr rows k).length cap x w h4 hx0 hx1).mono ?_
      rintro e w1 ⟨rfl, rfl⟩
      clear h1 h3
      by_cases hs : szI (rr rows k).length x < 0
      · rw [szI_no hs]
        clear hs
        go_wp2
        go_ret
        exact ⟨-1, rfl, by omega, fun h => absurd h (by omega), rfl⟩
      · have hle := szI_le (n := (rr rows k).length) (left := x) (by omega)
        have hs0 : 0 ≤ szI (rr rows k).length x := by omega
        generalize szI (rr rows k).length x = y at *
        go_wp2
        go_round
        case rel =>
          refine ⟨k + 1, y, by omega, by go_num, rfl, hs0, by omega, fun j hj => ?_⟩
          by_cases e : j = k
          · subst e; omega
          · exact HR.out j (by omega)
        case measure => simp [intOf]; omega
    · have hd : decide (k < rows.length) = false := by simpa using hlt
      go_wp2
      go_ret
      exact ⟨x, rfl, hx1, fun _ => ⟨hl2, fun j hj => HR.out j (by omega)⟩, rfl⟩
def SzT (s : ByteArray) (rows : List (List Int)) (w : World) (e : Ending) (w' : World) : Prop :=
  ∃ x, e = .returned (.int .i64 x) ∧ (0 ≤ x → s.size ≤ 1048576 ∧ rows.length ≤ 1048576 ∧ ∀ j, j < rows.length → (rr rows j).length ≤ 1048576) ∧ Below w.heap.size w w'
set_option maxRecDepth 100000 in
set_option maxHeartbeats 2000000 in
theorem szTable_any (s : ByteArray) (wd : Int) (A : Option Addr) (c : Nat) (rows : List (List Int)) (w : World) (hB : RawRows w w.heap.size A rows) (hs : s.size ≤ maxLen) (hl : rows.length ≤ maxLen) :
    Calls Try.prog 86 #[.agg #[.string s, .int .i64 wd, .slice A rows.length c], .int .i64 1048576] w (SzT s rows w) := by
  unfold maxLen at hs
  have bc := (Below.refl w.heap.size w).alloc (Nat.le_refl _) (.cells #[.string s, .int .i64 wd, .slice A rows.length c] 76)
  have hBb := hB.on bc
  by_cases hbig : 1048576 < s.size
  · go_enter Try.func86, Try.ntmps86
    go_wp2
    go_ret
    exact ⟨-1, rfl, fun h => absurd h (by omega), bc⟩
  have hx2 : 0 ≤ 1048576 - (s.size : Int) ∧ 1048576 - (s.size : Int) ≤ 1048576 := by omega
  go_enter Try.func86, Try.ntmps86
  go_wp2_with fail
  generalize w.alloc (.cells #[.string s, .int .i64 wd, .slice A rows.length c] 76) = wb at *
  refine (szInt64SS_left A c rows (1048576 - (s.size : Int)) wb hBb hl hx2.1 hx2.2).mono ?_
  rintro e w1 ⟨x, rfl, hx1, hx, rfl⟩
  have HX := Lib.hid hx
  clear hx hB hBb
  by_cases h0 : x < 0
  · go_wp2
    go_ret
    exact ⟨-1, rfl, fun h => absurd h (by omega), bc⟩
  · have hx0 : 0 ≤ x := by omega
    go_wp2
    go_ret
    exact ⟨x, rfl, fun h => ⟨by omega, HX.out h⟩, bc⟩
end Go.Proofs.Ytoncfodlffofdaa
