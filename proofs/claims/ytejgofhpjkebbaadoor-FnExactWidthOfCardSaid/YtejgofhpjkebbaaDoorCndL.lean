/- The laws' words on lists of conds: copies, sizes, comparing, marks; nothing that lay has turned. -/
import Derived.Test.YtejgofhpjkebbaaDoorCnd0
import Derived.Test.YtejgofhpjkebbaaDoorArr0
import Derived.StillTailTactics
namespace Go.Proofs.YtejgofhpjkebbaaDoor
open Go.RowKit

theorem Blk.c4 {w : World} {G : Nat} {t : TypeId} {a b c d : Value} (h : Blk w G t #[a, b, c, d]) : w.cell? ⟨G, 0, none⟩ = some a ∧ w.cell? ⟨G, 1, none⟩ = some b ∧ w.cell? ⟨G, 2, none⟩ = some c ∧ w.cell? ⟨G, 3, none⟩ = some d := by
  have d0 := h.cell 0
  have d1 := h.cell 1
  have d2 := h.cell 2
  have d3 := h.cell 3
  simp only [List.getElem?_toArray, List.getElem?_cons_zero, List.getElem?_cons_succ] at d0 d1 d2 d3
  exact ⟨d0, d1, d2, d3⟩
/-- The cells of a list of conds. -/
def ccell (l : List Cnd) (q : Nat) : Value := if q % 4 = 0 then .int .i64 (cx l (q / 4)).p else if q % 4 = 1 then .int .i64 (cx l (q / 4)).o else if q % 4 = 2 then .int .i64 (cx l (q / 4)).t else .bool (cx l (q / 4)).i
theorem ccell_0 (l : List Cnd) (j : Nat) : ccell l (j * 4) = .int .i64 (cx l j).p := by unfold ccell; rw [if_pos (by omega), show j * 4 / 4 = j by omega]
theorem ccell_1 (l : List Cnd) (j : Nat) : ccell l (j * 4 + 1) = .int .i64 (cx l j).o := by unfold ccell; rw [if_neg (by omega), if_pos (by omega), show (j * 4 + 1) / 4 = j by omega]
theorem ccell_2 (l : List Cnd) (j : Nat) : ccell l (j * 4 + 2) = .int .i64 (cx l j).t := by unfold ccell; rw [if_neg (by omega), if_neg (by omega), if_pos (by omega), show (j * 4 + 2) / 4 = j by omega]
theorem ccell_3 (l : List Cnd) (j : Nat) : ccell l (j * 4 + 3) = .bool (cx l j).i := by unfold ccell; rw [if_neg (by omega), if_neg (by omega), if_neg (by omega), show (j * 4 + 3) / 4 = j by omega]
/-- Block g is just the list. -/
def CAt (w : World) (g : Nat) (l : List Cnd) : Prop := Blk w g 86 (arr (4 * l.length) (ccell l))
theorem CAt.on {w w' : World} {g : Nat} {l : List Cnd} (h : CAt w g l) (hb : Below w.heap.size w w') : CAt w' g l := Blk.on h hb
theorem CAt.cells {w : World} {g : Nat} {l : List Cnd} (h : CAt w g l) {j : Nat} (hj : j < l.length) : w.cell? ⟨g, j * 4, none⟩ = some (.int .i64 (cx l j).p) ∧ w.cell? ⟨g, j * 4 + 1, none⟩ = some (.int .i64 (cx l j).o) ∧ w.cell? ⟨g, j * 4 + 2, none⟩ = some (.int .i64 (cx l j).t) ∧ w.cell? ⟨g, j * 4 + 3, none⟩ = some (.bool (cx l j).i) := by
  refine ⟨?_, ?_, ?_, ?_⟩
  · rw [h.cell (j * 4), arr_get _ (by omega), ccell_0]
  · rw [h.cell (j * 4 + 1), arr_get _ (by omega), ccell_1]
  · rw [h.cell (j * 4 + 2), arr_get _ (by omega), ccell_2]
  · rw [h.cell (j * 4 + 3), arr_get _ (by omega), ccell_3]
theorem CAt.cnds {w : World} {g : Nat} {l : List Cnd} (h : CAt w g l) : Cnds w w.heap.size (some ⟨g, 0, none⟩) l := fun _ =>
  ⟨g, 0, rfl, Blk.lt h, fun j hj => by rw [Nat.zero_add]; exact h.cells hj⟩
theorem cx_set (l : List Cnd) (k j : Nat) (c : Cnd) (h : k < l.length) : cx (l.set k c) j = if j = k then c else cx l j := by
  unfold cx
  rw [List.getElem?_set]
  by_cases e : k = j
  · subst e; rw [if_pos rfl, if_pos h, if_pos rfl]; rfl
  · rw [if_neg e, if_neg (fun e' => e e'.symm)]
theorem ccell_set (l : List Cnd) {k : Nat} (hk : k < l.length) (c : Cnd) (q : Nat) : ccell (l.set k c) q = if q = k * 4 + 3 then Value.bool c.i else if q = k * 4 + 2 then .int .i64 c.t else if q = k * 4 + 1 then .int .i64 c.o else if q = k * 4 then .int .i64 c.p else ccell l q := by
  simp only [ccell]
  rw [cx_set l k (q / 4) c hk]
  by_cases e : q / 4 = k
  · subst e
    rw [if_pos rfl]
    have h4 : q % 4 = 0 ∨ q % 4 = 1 ∨ q % 4 = 2 ∨ q % 4 = 3 := by omega
    rcases h4 with h4 | h4 | h4 | h4
    · rw [if_neg (c := q = q / 4 * 4 + 3) (by omega), if_neg (c := q = q / 4 * 4 + 2) (by omega), if_neg (c := q = q / 4 * 4 + 1) (by omega), if_pos (c := q = q / 4 * 4) (by omega), if_pos h4]
    · rw [if_neg (c := q = q / 4 * 4 + 3) (by omega), if_neg (c := q = q / 4 * 4 + 2) (by omega), if_pos (c := q = q / 4 * 4 + 1) (by omega), if_neg (c := q % 4 = 0) (by omega), if_pos h4]
    · rw [if_neg (c := q = q / 4 * 4 + 3) (by omega), if_pos (c := q = q / 4 * 4 + 2) (by omega), if_neg (c := q % 4 = 0) (by omega), if_neg (c := q % 4 = 1) (by omega), if_pos h4]
    · rw [if_pos (c := q = q / 4 * 4 + 3) (by omega), if_neg (c := q % 4 = 0) (by omega), if_neg (c := q % 4 = 1) (by omega), if_neg (c := q % 4 = 2) (by omega)]
  · rw [if_neg e, if_neg (c := q = k * 4 + 3) (by omega), if_neg (c := q = k * 4 + 2) (by omega), if_neg (c := q = k * 4 + 1) (by omega), if_neg (c := q = k * 4) (by omega)]
theorem CAt.set_ {w : World} {g : Nat} {l : List Cnd} (h : CAt w g l) {k : Nat} (hk : k < l.length) (c : Cnd) :
    CAt ((((w.setCell ⟨g, k * 4, none⟩ (.int .i64 c.p)).setCell ⟨g, k * 4 + 1, none⟩ (.int .i64 c.o)).setCell ⟨g, k * 4 + 2, none⟩ (.int .i64 c.t)).setCell ⟨g, k * 4 + 3, none⟩ (.bool c.i)) g (l.set k c) := by
  have B := (((Blk.set_ h (k * 4) (.int .i64 c.p)).set_ (k * 4 + 1) (.int .i64 c.o)).set_ (k * 4 + 2) (.int .i64 c.t)).set_ (k * 4 + 3) (.bool c.i)
  rw [arr_set, arr_set, arr_set, arr_set] at B
  unfold CAt
  rw [List.length_set, ← arr_congr (f := fun q => if q = k * 4 + 3 then Value.bool c.i else if q = k * 4 + 2 then .int .i64 c.t else if q = k * 4 + 1 then .int .i64 c.o else if q = k * 4 then .int .i64 c.p else ccell l q) (fun q _ => (ccell_set l hk c q).symm)]
  exact B
theorem bel_set4 {w w1 : World} {G : Nat} (h : Below w.heap.size w w1) (hG : w.heap.size ≤ G) (i j k m : Nat) (a b c d : Value) : Below w.heap.size w ((((w1.setCell ⟨G, i, none⟩ a).setCell ⟨G, j, none⟩ b).setCell ⟨G, k, none⟩ c).setCell ⟨G, m, none⟩ d) :=
  (((h.setCell (p := ⟨G, i, none⟩) hG _).setCell (p := ⟨G, j, none⟩) hG _).setCell (p := ⟨G, k, none⟩) hG _).setCell (p := ⟨G, m, none⟩) hG _
theorem grown_set4 (w : World) (g i j k m : Nat) (a b c d : Value) : w.grownBy ((((w.setCell ⟨g, i, none⟩ a).setCell ⟨g, j, none⟩ b).setCell ⟨g, k, none⟩ c).setCell ⟨g, m, none⟩ d) (some g) :=
  grown_trans (grown_trans (grown_trans (grown_setCell w g i a) (grown_setCell _ g j b)) (grown_setCell _ g k c)) (grown_setCell _ g m d)

theorem szCondS_any (A : Option Addr) (n c : Nat) (x : Int) (w : World) (hn : n ≤ maxLen) (h0 : 0 ≤ x) (h1 : x ≤ 1048576) :
    Calls Tryd.prog 28 #[.slice A n c, .int .i64 x] w fun e w' => e = .returned (.int .i64 (if x < n then -1 else x - n)) ∧ w = w' := by
  unfold maxLen at hn
  have hw : IntKind.i64.wrap (x - (n : Int)) = x - n := by rw [IntKind.wrap_i64]; omega
  by_cases h : x < n
  · have hd : x - (n : Int) < 0 := by omega
    rw [if_pos h]
    go_enter Tryd.func28, Tryd.ntmps28
    go_wp2
    go_ret
    exact ⟨rfl, rfl⟩
  · have hd : decide (x - (n : Int) < 0) = false := by simp; omega
    rw [if_neg h]
    go_enter Tryd.func28, Tryd.ntmps28
    go_wp2
    go_ret
    exact ⟨rfl, rfl⟩

set_option maxHeartbeats 1000000 in
theorem toCond_any (p o t : Int) (i : Bool) (w : World) :
    Calls Tryd.prog 53 #[.agg #[.int .i64 p, .int .i64 o, .int .i64 t, .bool i]] w fun e w' => e = .returned (.agg #[.int .i64 p, .int .i64 o, .int .i64 t, .bool i]) ∧ Below w.heap.size w w' := by
  go_enter Tryd.func53, Tryd.ntmps53
  go_wp2
  refine bodyPost_ret (v := .agg #[.int .i64 p, .int .i64 o, .int .i64 t, .bool i]) (by simp [results, Tryd.f53, go_sem, *]) rfl ?_
  refine ⟨rfl, ?_⟩
  exact (bel_two _ _).alloc (by simp; omega) _

theorem info_cond : (Tryd.prog.info? 86).map (fun i => (i.zero, i.size, i.bytes)) = some (some (.agg #[.int .i64 0, .int .i64 0, .int .i64 0, .bool false]), 4, 32) := by kernel_rfl
theorem make_cond (n : Nat) (hn : n ≤ 1099511627776) (w : World) : (Instr.makeSlice 48 (.int .i64 (n : Int)) (.int .i64 (n : Int))).run Tryd.prog w = .ok (.slice (some ⟨w.heap.size, 0, none⟩) n n) (w.alloc (.cells (madeCells #[.int .i64 0, .int .i64 0, .int .i64 0, .bool false] (n * 4)) 86)) := by
  obtain ⟨i, hi, hz, hs, hby⟩ := info_parts info_cond
  have := run_make (P := Tryd.prog) w 48 86 i (.agg #[.int .i64 0, .int .i64 0, .int .i64 0, .bool false]) Tryd.underlying48 hi hz .i64 .i64 (n : Int) (n : Int) (by omega) (by omega) (by rw [hby]; omega) (by omega)
  rw [hs] at this
  simpa [Value.cells] using this
theorem made_conds (n : Nat) : madeCells #[.int .i64 0, .int .i64 0, .int .i64 0, .bool false] (n * 4) = arr (4 * n) (ccell (List.replicate n zeroC)) := by
  apply Array.ext_getElem?
  intro q
  have hz : ∀ j, cx (List.replicate n zeroC) j = zeroC := fun j => by
    unfold cx
    rw [List.getElem?_replicate]
    split <;> rfl
  by_cases hq : q < 4 * n
  · have hq' : q < n * 4 := by omega
    rw [arr_get _ hq]
    unfold ccell
    rw [hz]
    have h : q % 4 = 0 ∨ q % 4 = 1 ∨ q % 4 = 2 ∨ q % 4 = 3 := by omega
    rcases h with h | h | h | h
    · simp [madeCells, hq', h, zeroC]
    · simp [madeCells, hq', h, zeroC]
    · simp [madeCells, hq', h, zeroC]
    · simp [madeCells, hq', h, zeroC]
  · rw [Array.getElem?_eq_none (by rw [size_madeCells]; omega), Array.getElem?_eq_none (by simp [arr]; omega)]
/-- Copied so far: the first k, then noughts. -/
def cpy (l : List Cnd) (k : Nat) : List Cnd := l.take k ++ List.replicate (l.length - k) zeroC
theorem cpy_length (l : List Cnd) {k : Nat} (h : k ≤ l.length) : (cpy l k).length = l.length := by simp [cpy]; omega
theorem cpy_zero (l : List Cnd) : cpy l 0 = List.replicate l.length zeroC := by simp [cpy]
theorem cpy_all (l : List Cnd) : cpy l l.length = l := by simp [cpy]
theorem cpy_step (l : List Cnd) {k : Nat} (h : k < l.length) : (cpy l k).set k (cx l k) = cpy l (k + 1) := by
  apply List.ext_getElem?
  intro j
  rw [List.getElem?_set, cpy_length l (by omega)]
  unfold cpy
  by_cases e : k = j
  · subst e
    rw [if_pos rfl, if_pos h, List.getElem?_append_left (by simp; omega), List.getElem?_take, if_pos (by omega), cx_eq l k h, List.getElem?_eq_getElem h]
  · rw [if_neg e]
    by_cases hj : j < k
    · rw [List.getElem?_append_left (by simp; omega), List.getElem?_append_left (by simp; omega), List.getElem?_take, List.getElem?_take, if_pos hj, if_pos (by omega)]
    · rw [List.getElem?_append_right (by simp; omega), List.getElem?_append_right (by simp; omega), List.getElem?_replicate, List.getElem?_replicate]
      simp only [List.length_take]
      congr 1
      rw [Nat.min_eq_left (by omega), Nat.min_eq_left (by omega)]
      exact propext ⟨fun h => by omega, fun h => by omega⟩

set_option maxRecDepth 100000 in
set_option maxHeartbeats 2000000 in
theorem toCondS_any (A : Option Addr) (c : Nat) (l : List Cnd) (w : World) (hC : Cnds w w.heap.size A l) (hl : l.length ≤ 1099511627776) :
    Calls Tryd.prog 36 #[.slice A l.length c] w fun e w' => e = .returned (.slice (some ⟨w.heap.size, 0, none⟩) l.length l.length) ∧ CAt w' w.heap.size l ∧ Below w.heap.size w w' := by
  have hmk := make_cond l.length hl w
  go_enter Tryd.func36, Tryd.ntmps36
  go_wp2
  go_loopw [4] (fun i wr => ∃ k : Nat, k ≤ l.length ∧ i = .int .i64 k ∧ CAt wr w.heap.size (cpy l k) ∧ Below w.heap.size w wr) (fun i _ => l.length - (intOf i).toNat)
  case atStart => exact ⟨0, Nat.zero_le _, rfl, by rw [cpy_zero]; unfold CAt; rw [List.length_replicate, ← made_conds]; exact Blk.new w _ _, (Below.refl _ _).alloc (Nat.le_refl _) _⟩
  case round =>
    obtain ⟨k, hk, rfl, hA, hW⟩ := hrel
    have hCr := hC.on hW
    clear hmk
    by_cases hlt : k < l.length
    · obtain ⟨b, off, rfl, _, h1, h2, h3, h4⟩ := hCr.here hlt
      have hLk := cpy_length l hk
      have hGl := Blk.lt hA
      have HLK := Lib.hid hLk
      clear hLk hC hCr
      go_wp2_with fail
      refine (toCond_any (cx l k).p (cx l k).o (cx l k).t (cx l k).i wr).mono ?_
      rintro e w1 ⟨rfl, hb1⟩
      have hA1 := hA.on hb1
      have hW1 : Below w.heap.size w w1 := hW.trans (hb1.mono hW.size)
      obtain ⟨d0, d1, d2, d3⟩ := hA1.cells (j := k) (by rw [HLK.out]; exact hlt)
      have f0 := Blk.frozen hA1 (k * 4)
      have f1 := Blk.frozen hA1 (k * 4 + 1)
      have f2 := Blk.frozen hA1 (k * 4 + 2)
      have f3 := Blk.frozen hA1 (k * 4 + 3)
      have hA2 := hA1.set_ (k := k) (by rw [HLK.out]; exact hlt) (cx l k)
      rw [cpy_step l hlt] at hA2
      have HA2 := Lib.hid hA2
      clear hA2 hA1 hA h1 h2 h3 h4 hb1 hW
      go_wp2
      go_roundw
      case rel => exact ⟨k + 1, by omega, by go_num, HA2.out, bel_set4 hW1 (Nat.le_refl _) _ _ _ _ _ _ _ _⟩
      case measure => simp [intOf]; omega
    · have hd : decide (k < l.length) = false := by simpa using hlt
      obtain rfl : k = l.length := by omega
      rw [cpy_all] at hA
      go_wp2
      go_ret
      exact ⟨rfl, hA, hW⟩

theorem cnd_ext {a b : Cnd} : a = b ↔ a.p = b.p ∧ a.o = b.o ∧ a.t = b.t ∧ a.i = b.i := by
  cases a; cases b; simp
set_option maxHeartbeats 2000000 in
theorem eqCond_any (p o t p' o' t' : Int) (i i' : Bool) (w : World) :
    Calls Tryd.prog 62 #[.agg #[.int .i64 p, .int .i64 o, .int .i64 t, .bool i], .agg #[.int .i64 p', .int .i64 o', .int .i64 t', .bool i']] w fun e w' => e = .returned (.bool (decide ((⟨p, o, t, i⟩ : Cnd) = ⟨p', o', t', i'⟩))) ∧ Below w.heap.size w w' := by
  obtain ⟨R, hR⟩ : ∃ R, decide ((⟨p, o, t, i⟩ : Cnd) = ⟨p', o', t', i'⟩) = R := ⟨_, rfl⟩
  have HQ := Lib.hid hR
  rw [hR]
  clear hR
  have hb2 := bel_two (w := w) (.cells #[.int .i64 p, .int .i64 o, .int .i64 t, .bool i] 86) (.cells #[.int .i64 p', .int .i64 o', .int .i64 t', .bool i'] 86)
  by_cases h1 : p = p'
  · have b1 : (p != p') = false := by simp [h1]
    by_cases h2 : o = o'
    · have b2 : (o != o') = false := by simp [h2]
      by_cases h3 : t = t'
      · have b3 : (t != t') = false := by simp [h3]
        have HD := Lib.hid (show R = decide (i = i') from by rw [← HQ.out, h1, h2, h3]; simp)
        clear h1 h2 h3
        cases i <;> cases i'
        all_goals
          go_enter Tryd.func62, Tryd.ntmps62
          go_wp2
          go_ret
          exact ⟨ret_bool (by rw [HD.out]; rfl), hb2⟩
      · have b3 : (t != t') = true := by simp [h3]
        have HD := Lib.hid (show R = false from by rw [← HQ.out]; exact decide_eq_false (fun e => h3 (cnd_ext.1 e).2.2.1))
        clear h1 h2 h3
        go_enter Tryd.func62, Tryd.ntmps62
        go_wp2
        go_ret
        exact ⟨ret_bool HD.out.symm, hb2⟩
    · have b2 : (o != o') = true := by simp [h2]
      have HD := Lib.hid (show R = false from by rw [← HQ.out]; exact decide_eq_false (fun e => h2 (cnd_ext.1 e).2.1))
      clear h1 h2
      go_enter Tryd.func62, Tryd.ntmps62
      go_wp2
      go_ret
      exact ⟨ret_bool HD.out.symm, hb2⟩
  · have b1 : (p != p') = true := by simp [h1]
    have HD := Lib.hid (show R = false from by rw [← HQ.out]; exact decide_eq_false (fun e => h1 (cnd_ext.1 e).1))
    clear h1
    go_enter Tryd.func62, Tryd.ntmps62
    go_wp2
    go_ret
    exact ⟨ret_bool HD.out.symm, hb2⟩
theorem cnd_eta (c : Cnd) : (⟨c.p, c.o, c.t, c.i⟩ : Cnd) = c := rfl
theorem cx_take_ext {l1 l2 : List Cnd} {k : Nat} (h : k < l1.length) (h' : k < l2.length) (ht : l1.take k = l2.take k) (e : cx l1 k = cx l2 k) : l1.take (k + 1) = l2.take (k + 1) := by
  rw [List.take_succ_eq_append_getElem h, List.take_succ_eq_append_getElem h', ht, ← cx_eq l1 k h, ← cx_eq l2 k h', e]

set_option maxRecDepth 100000 in
set_option maxHeartbeats 2000000 in
theorem eqCondS_any (A A' : Option Addr) (c c' : Nat) (l1 l2 : List Cnd) (w : World) (hB : Cnds w w.heap.size A l1) (hB' : Cnds w w.heap.size A' l2) (hl : l1.length ≤ 1099511627776) (hl' : l2.length ≤ 1099511627776) :
    Calls Tryd.prog 45 #[.slice A l1.length c, .slice A' l2.length c'] w fun e w' => e = .returned (.bool (decide (l1 = l2))) ∧ Below w.heap.size w w' := by
  by_cases hne : l1.length = l2.length
  · have hb : ((l1.length : Int) != (l2.length : Int)) = false := by simp [hne]
    have HN := Lib.hid hne
    clear hne
    go_enter Tryd.func45, Tryd.ntmps45
    go_wp2
    go_loopw [5] (fun i wr => ∃ k : Nat, k ≤ l1.length ∧ i = .int .i64 k ∧ l1.take k = l2.take k ∧ Below w.heap.size w wr) (fun i _ => l1.length - (intOf i).toNat)
    case atStart => exact ⟨0, Nat.zero_le _, rfl, by simp, Below.refl _ _⟩
    case round =>
      obtain ⟨k, hk, rfl, ht, hW⟩ := hrel
      have hBr := hB.on hW
      have hBr' := hB'.on hW
      have HT := Lib.hid ht
      clear hB hB' ht hb
      by_cases hlt : k < l1.length
      · have hlt' : k < l2.length := by have := HN.out; omega
        obtain ⟨b, off, rfl, _, h1, h2, h3, h4⟩ := hBr.here hlt
        obtain ⟨b', off', rfl, _, h1', h2', h3', h4'⟩ := hBr'.here hlt'
        go_wp2_with fail
        go_still_tail 8, (by kernel_rfl)
        change wpList _ _ _ _ _ wr.drew
        have hW2 : Below w.heap.size w wr.drew := bel_drewN hW 1
        clear h1 h2 h1' h2' h3 h3' h4 h4' hW hBr hBr'
        generalize wr.drew = wd at *
        go_wp2_with fail
        refine (eqCond_any (cx l1 k).p (cx l1 k).o (cx l1 k).t (cx l2 k).p (cx l2 k).o (cx l2 k).t (cx l1 k).i (cx l2 k).i wd).mono ?_
        rintro e w1 ⟨rfl, hb1⟩
        rw [cnd_eta, cnd_eta]
        have hW3 : Below w.heap.size w w1 := hW2.trans (hb1.mono hW2.size)
        by_cases he : cx l1 k = cx l2 k
        · rw [decide_eq_true he]
          have HE := Lib.hid he
          clear he
          go_wp2
          go_roundw
          case rel => exact ⟨k + 1, by omega, by go_num, cx_take_ext hlt hlt' HT.out HE.out, hW3⟩
          case measure => simp [intOf]; omega
        · rw [decide_eq_false he]
          have HE := Lib.hid he
          clear he
          go_wp2
          go_ret
          exact ⟨ret_bool (by rw [decide_eq_false]; intro h; subst h; exact HE.out rfl), hW3⟩
      · have hd : decide (k < l1.length) = false := by simpa using hlt
        go_wp2
        go_ret
        refine ⟨ret_bool ?_, hW⟩
        have h1 := HT.out
        rw [List.take_of_length_le (by omega), List.take_of_length_le (by have := HN.out; omega)] at h1
        rw [decide_eq_true h1]
  · have hb : ((l1.length : Int) != (l2.length : Int)) = true := by simp; omega
    have HN := Lib.hid hne
    clear hne
    go_enter Tryd.func45, Tryd.ntmps45
    go_wp2
    go_ret
    exact ⟨ret_bool (by rw [decide_eq_false]; intro h; subst h; exact HN.out rfl), Below.refl _ _⟩

/-- The slice at A of the list begins block g, none of whose cells is frozen. -/
def CRow (w : World) (A : Option Addr) (g : Nat) (l : List Cnd) : Prop :=
  0 < l.length → A = some ⟨g, 0, none⟩ ∧ ∃ cur : Array Value, Blk w g 86 cur ∧ ∀ q, q < 4 * l.length → cur[q]? = some (ccell l q)
theorem CAt.row {w : World} {g : Nat} {l : List Cnd} (h : CAt w g l) : CRow w (some ⟨g, 0, none⟩) g l := fun _ => ⟨rfl, _, h, fun _ hq => arr_get _ hq⟩
theorem CRow.on {w w' : World} {A : Option Addr} {g : Nat} {l : List Cnd} (h : CRow w A g l) (hb : Below w.heap.size w w') : CRow w' A g l := fun hn => by
  obtain ⟨hA, cur, hB, hc⟩ := h hn
  exact ⟨hA, cur, hB.on hb, hc⟩
theorem CRow.lt {w : World} {A : Option Addr} {g : Nat} {l : List Cnd} (h : CRow w A g l) (hn : 0 < l.length) : g < w.heap.size := by
  obtain ⟨_, cur, hB, _⟩ := h hn
  exact hB.lt
theorem CRow.kept {w w' : World} {A : Option Addr} {g : Nat} {l : List Cnd} {row : Option Nat} (h : CRow w A g l) (hg : w.grownBy w' row) (hne : 0 < l.length → some g ≠ row) : CRow w' A g l := fun hn => by
  obtain ⟨hA, cur, hB, hc⟩ := h hn
  exact ⟨hA, cur, hB.grown hg (hne hn), hc⟩
theorem CRow.cells {w : World} {A : Option Addr} {g : Nat} {l : List Cnd} (h : CRow w A g l) {j : Nat} (hj : j < l.length) : w.cell? ⟨g, j * 4, none⟩ = some (.int .i64 (cx l j).p) ∧ w.cell? ⟨g, j * 4 + 1, none⟩ = some (.int .i64 (cx l j).o) ∧ w.cell? ⟨g, j * 4 + 2, none⟩ = some (.int .i64 (cx l j).t) ∧ w.cell? ⟨g, j * 4 + 3, none⟩ = some (.bool (cx l j).i) := by
  obtain ⟨_, cur, hB, hc⟩ := h (by omega)
  refine ⟨?_, ?_, ?_, ?_⟩
  · rw [hB.cell (j * 4), hc _ (by omega), ccell_0]
  · rw [hB.cell (j * 4 + 1), hc _ (by omega), ccell_1]
  · rw [hB.cell (j * 4 + 2), hc _ (by omega), ccell_2]
  · rw [hB.cell (j * 4 + 3), hc _ (by omega), ccell_3]
theorem CRow.frozen {w : World} {A : Option Addr} {g : Nat} {l : List Cnd} (h : CRow w A g l) (hn : 0 < l.length) (i : Nat) : w.frozen? ⟨g, i, none⟩ = false := by
  obtain ⟨_, cur, hB, _⟩ := h hn
  exact hB.frozen i
theorem CRow.cnds {w : World} {A : Option Addr} {g : Nat} {l : List Cnd} (h : CRow w A g l) : Cnds w w.heap.size A l := fun hn => by
  refine ⟨g, 0, (h hn).1, h.lt hn, fun j hj => ?_⟩
  rw [Nat.zero_add]
  exact h.cells hj
theorem CRow.set_ {w : World} {A : Option Addr} {g : Nat} {l : List Cnd} (h : CRow w A g l) {k : Nat} (hk : k < l.length) (c : Cnd) :
    CRow ((((w.setCell ⟨g, k * 4, none⟩ (.int .i64 c.p)).setCell ⟨g, k * 4 + 1, none⟩ (.int .i64 c.o)).setCell ⟨g, k * 4 + 2, none⟩ (.int .i64 c.t)).setCell ⟨g, k * 4 + 3, none⟩ (.bool c.i)) A g (l.set k c) := fun hn => by
  obtain ⟨hA, cur, hB, hc⟩ := h (by omega)
  refine ⟨hA, _, (((hB.set_ (k * 4) (.int .i64 c.p)).set_ (k * 4 + 1) (.int .i64 c.o)).set_ (k * 4 + 2) (.int .i64 c.t)).set_ (k * 4 + 3) (.bool c.i), fun q hq => ?_⟩
  rw [List.length_set] at hq
  have hcq := hc q hq
  have hs : q < cur.size := (Array.getElem?_eq_some_iff.1 hcq).1
  rw [ccell_set l hk, Array.getElem?_setIfInBounds, Array.getElem?_setIfInBounds, Array.getElem?_setIfInBounds, Array.getElem?_setIfInBounds]
  by_cases e3 : q = k * 4 + 3
  · rw [if_pos e3.symm, if_pos e3, if_pos (by simp; omega)]
  rw [if_neg (fun e => e3 e.symm), if_neg e3]
  by_cases e2 : q = k * 4 + 2
  · rw [if_pos e2.symm, if_pos e2, if_pos (by simp; omega)]
  rw [if_neg (fun e => e2 e.symm), if_neg e2]
  by_cases e1 : q = k * 4 + 1
  · rw [if_pos e1.symm, if_pos e1, if_pos (by simp; omega)]
  rw [if_neg (fun e => e1 e.symm), if_neg e1]
  by_cases e0 : q = k * 4
  · rw [if_pos e0.symm, if_pos e0, if_pos (by omega)]
  rw [if_neg (fun e => e0 e.symm), if_neg e0, hcq]

/-- The marks of a cond, and of a list. -/
def mkC (a : Int) : Cnd := ⟨a, a + 1, a + 1 + 1, (a + 1 + 1 + 1) % 3 == 0⟩
def mks (m n : Nat) : List Cnd := (List.range n).map fun (j : Nat) => mkC ((m + 4 * j : Nat) : Int)
theorem mks_length (m n : Nat) : (mks m n).length = n := by simp [mks]
theorem mks_at {m n j : Nat} (h : j < n) : cx (mks m n) j = mkC ((m + 4 * j : Nat) : Int) := by simp [cx, mks, h]
def mking (l : List Cnd) (m j : Nat) : List Cnd := mks m j ++ l.drop j
theorem mking_zero (l : List Cnd) (m : Nat) : mking l m 0 = l := by simp [mking, mks]
theorem mking_all (l : List Cnd) (m : Nat) : mking l m l.length = mks m l.length := by simp [mking]
theorem mking_length (l : List Cnd) (m : Nat) {j : Nat} (h : j ≤ l.length) : (mking l m j).length = l.length := by simp [mking, mks_length]; omega
theorem mking_step (l : List Cnd) (m : Nat) {j : Nat} (h : j < l.length) : (mking l m j).set j (mkC ((m + 4 * j : Nat) : Int)) = mking l m (j + 1) := by
  apply List.ext_getElem?
  intro i
  rw [List.getElem?_set, mking_length l m (by omega)]
  unfold mking
  by_cases e : j = i
  · subst e
    rw [if_pos rfl, if_pos h, List.getElem?_append_left (by rw [mks_length]; omega)]
    simp [mks]
  · rw [if_neg e]
    by_cases hi : i < j
    · rw [List.getElem?_append_left (by rw [mks_length]; omega), List.getElem?_append_left (by rw [mks_length]; omega)]
      simp [mks, hi, show i < j + 1 by omega]
    · rw [List.getElem?_append_right (by rw [mks_length]; omega), List.getElem?_append_right (by rw [mks_length]; omega), mks_length, mks_length, List.getElem?_drop, List.getElem?_drop]
      congr 1; omega
end Go.Proofs.YtejgofhpjkebbaaDoor
