/- Contracts of the drawing of tables (l4Draw, l4DrawAny, and the Draw functions of chapter 4): what is drawn is a table in new memory; the cursor goes on; nothing else that lay has turned. -/
import Derived.Test.YtedbjjhkjkpnkaaDraw2
import Derived.Test.YtedbjjhkjkpnkaaDrawBag1
import Derived.Test.YtedbjjhkjkpnkaaTab7
import Derived.Test.YtedbjjhkjkpnkaaJC
namespace Go.Proofs.Ytedbjjhkjkpnkaa
open Go.RowKit

/-- What a drawing of so many numbers leaves. -/
def DrawnL (c n : Nat) (w : World) (e : Ending) (w' : World) : Prop :=
  ∃ v zs, e = .returned v ∧ zs.length = n ∧ w'.ownsRow w.heap.size 2 1 v zs.length (i64l zs) ∧ Cur w' c ∧ w.grownBy w' (some c)

set_option maxRecDepth 100000 in
set_option maxHeartbeats 2000000 in
theorem l1DrawRow_len (c : Nat) (n : Nat) (w : World) (hC : Cur w c) (hn : n ≤ 1000) :
    Calls Try.prog 59 #[.pointer (some ⟨c, 0, none⟩), .int .i64 n] w (DrawnL c n w) := by
  obtain ⟨i0, hi0, hz0, hz1, hz2⟩ := info_parts info_i64
  have hcl := hC.lt
  have hE := ownsRow_empty w 2 w.heap.size (Nat.le_refl _)
  have hC0 : Cur (w.alloc (.cells #[] 2)) c := hC.below ((Below.refl _ _).alloc (Nat.le_refl _) _)
  have hG0 : w.grownBy (w.alloc (.cells #[] 2)) (some c) := World.grownBy_alloc w _ _
  go_enter Try.func59, Try.ntmps59
  go_wp2
  go_loopw [1, 5] (fun k v wr => ∃ (j : Nat) (zs : List Int), j ≤ n ∧ zs.length + j = n ∧ k = .int .i64 j ∧ wr.ownsRow w.heap.size 2 1 v zs.length (i64l zs) ∧ Cur wr c ∧ w.grownBy wr (some c)) (fun k _ _ => (intOf k).toNat)
  case atStart => exact ⟨n, [], Nat.le_refl _, by simp, rfl, hE, hC0, hG0⟩
  case round =>
    obtain ⟨j, zs, hj, hjl, rfl, hown, hCr, hGr⟩ := hrel
    clear hE hC0 hG0
    by_cases h0 : 0 < j
    · go_wp2_with fail
      refine (l1Below_any c 4 _ hCr (by omega) (by omega)).mono ?_
      rintro e w1 ⟨x, rfl, hx0, hx1, _, hC1, hg1⟩
      have hx2 := hx1 (by omega)
      have hown1 := own_keep hown hg1 hcl
      have hG1 : w.grownBy w1 (some c) := grown_trans hGr hg1
      clear hx1 hown hg1 hGr hCr
      go_wp2_with (at_builtin; refine wpList_append_own _ rfl _ _ 45 rfl w.heap.size 2 i0 (.int .i64 0) 1 8 Try.underlying45 hi0 hz0 hz1 hz2 rfl (by decide) _ _ _ rfl (hown1.alloc _) ⟨w1.heap.size, 0, none⟩ 1 1 [.int .i64 (x - 1)] rfl rfl (cell_one_new _ _ _) (by simp [Value.oneCell']) (by simp only [maxLen]; omega) (by omega) (by have := hG1.size; simp; omega) ?_; intro v' w2 hown2 hgrow2 _)
      have hG2 : w.grownBy w2 (some c) := grown_own (grown_own hG1 (World.grownBy_alloc w1 _ none) (fun r e => by cases e)) hgrow2 (fun r e => (hown1.lt r e).1)
      have hC2 : Cur w2 c := (hC1.below ((Below.refl _ _).alloc (Nat.le_refl _) _)).grown hgrow2 (fun r e => by have := (hown1.lt r e).1; omega)
      clear hgrow2 hown1 hC1 hG1
      go_roundw
      case rel => exact ⟨j - 1, zs ++ [x - 1], by omega, by simp; omega, by go_num, by simpa [i64l] using hown2, hC2, hG2⟩
      case measure => simp [intOf]; omega
    · have hd : decide (0 < j) = false := by simpa using h0
      go_wp2
      go_ret
      exact ⟨_, zs, rfl, by omega, hown, hCr, hGr⟩


theorem Blk.set3 {w : World} {T : Nat} {t : TypeId} {a b c a' b' c' : Value} (h : Blk w T t #[a, b, c]) : Blk (((w.setCell ⟨T, 0, none⟩ a').setCell ⟨T, 1, none⟩ b').setCell ⟨T, 2, none⟩ c') T t #[a', b', c'] := by
  have := ((h.set_ 0 a').set_ 1 b').set_ 2 c'
  simpa using this
theorem set3_grown (w : World) (T : Nat) (a b c : Value) : w.grownBy (((w.setCell ⟨T, 0, none⟩ a).setCell ⟨T, 1, none⟩ b).setCell ⟨T, 2, none⟩ c) (some T) :=
  grown_trans (grown_trans (grown_setCell w T 0 a) (grown_setCell _ T 1 b)) (grown_setCell _ T 2 c)
theorem ORows.grownC {w w' : World} {lo c : Nat} {v : Value} {es : List Ent} (h : ORows w lo v es) (hg : w.grownBy w' (some c)) (hc : c < lo) : ORows w' lo v es :=
  h.keep h.inside fun b h1 h2 => hg.block b h2 (fun e => by injection e with e; omega)
/-- A row whose first number is written anew. -/
theorem Row.set0 {w : World} {t : TypeId} {A : Option Addr} {zs : List Int} {g : Nat} (h : Row w t A zs g) (hn : 0 < zs.length) (y : Int) : Row (w.setCell ⟨g, 0, none⟩ (.int .i64 y)) t A (zs.set 0 y) g := fun _ => by
  obtain ⟨hA, cur, hc, hj⟩ := h hn
  refine ⟨hA, cur.setIfInBounds 0 (.int .i64 y), Blk.set_ (t := t) hc 0 _, fun j hjl => ?_⟩
  rw [List.length_set] at hjl
  have h1 := hj j hjl
  have hsz : j < cur.size := (Array.getElem?_eq_some_iff.1 h1).1
  rw [Array.getElem?_setIfInBounds]
  by_cases e : 0 = j
  · subst e
    rw [if_pos rfl, if_pos hsz]
    simp [ix, hn]
  · rw [if_neg e, h1]
    simp [ix, e]
theorem tabB_pl {s : ByteArray} {wd : Int} {rows : List (List Int)} {row : List Int} (h : tabB s wd rows = true) : tabB s wd (plR rows row (plB s wd rows row)) = true := by
  unfold plR
  split
  · rename_i hp
    unfold plB at hp
    simp only [Bool.and_eq_true, decide_eq_true_eq] at hp
    unfold tabB at h ⊢
    rw [Bool.and_eq_true] at h ⊢
    exact ⟨h.1, placed_ok h.2 hp.1.1.2 (by have := idx_le rows (ky row); have := hp.1.2; omega) hp.2⟩
  · exact h
theorem plR_len {rows : List (List Int)} {row : List Int} {b : Bool} : (plR rows row b).length ≤ rows.length + 1 := by
  unfold plR
  split
  · rw [idx_placed.2]; exact Nat.le_refl _
  · omega
theorem tab_short {s : ByteArray} {wd : Int} {rows : List (List Int)} (h : tabB s wd rows = true) : ∀ r ∈ rows, r.length ≤ 4 := fun r hr => by
  unfold tabB at h
  rw [Bool.and_eq_true] at h
  obtain ⟨⟨h1, _⟩, _, h4⟩ := rowsOk_iff.1 h.2
  have := fit_len (h4 r hr)
  unfold inB at h1
  rw [Bool.and_eq_true, decide_eq_true_eq, decide_eq_true_eq] at h1
  omega
/-- What a drawing of a table leaves: its own rows, so many at most; the cursor c; nothing else has turned. -/
def DrawnT (c most : Nat) (w : World) (e : Ending) (w' : World) : Prop :=
  ∃ (s : ByteArray) (wd : Int) (A : Option Addr) (cap : Nat) (es : List Ent), e = .returned (.agg #[.string s, .int .i64 wd, .slice A es.length cap]) ∧ ORows w' w.heap.size (.slice A es.length cap) es ∧ es.length ≤ most ∧ (∀ e ∈ es, e.r.length ≤ 1000) ∧ s.size ≤ 7 ∧ 0 ≤ wd ∧ wd ≤ 1000 ∧ Cur w' c ∧ w.grownBy w' (some c)
set_option maxRecDepth 100000 in
set_option maxHeartbeats 8000000 in
theorem l4Draw_any (c : Nat) (s : ByteArray) (w : World) (hC : Cur w c) (hn : nameB s = true) (hss : s.size ≤ 6) :
    Calls Try.prog 85 #[.pointer (some ⟨c, 0, none⟩), .string s] w (DrawnT c 6 w) := by
  have hcl := hC.lt
  have HNB := Lib.hid hn
  clear hn
  have b0 := (Below.refl w.heap.size w).alloc (Nat.le_refl _) (.cells #[.string ⟨#[]⟩, .int .i64 0, .slice none 0 0] 28)
  have BR0 := Blk.new w 28 #[.string ⟨#[]⟩, .int .i64 0, .slice none 0 0]
  have hC0 := hC.below b0
  have hG0 : w.grownBy (w.alloc (.cells #[.string ⟨#[]⟩, .int .i64 0, .slice none 0 0] 28)) (some c) := World.grownBy_alloc w _ _
  go_enter Try.func85, Try.ntmps85
  go_wp2_with fail
  refine (l1Below_any c 3 _ hC0 (by omega) (by omega)).mono ?_
  rintro e w1 ⟨x, rfl, hx0, hx1, _, hC1, hg1⟩
  obtain ⟨m0, rfl⟩ := Int.eq_ofNat_of_zero_le hx0
  have hm3 : m0 < 3 := by have := hx1 (by omega); omega
  have BR1 := BR0.grown hg1 (fun e => by have e' : w.heap.size = c := Option.some.inj e; omega)
  have hG1 := grown_trans hG0 hg1
  have hs1 := BR1.lt
  clear hx0 hx1 BR0 hC0 hG0 hg1 b0
  obtain ⟨m, hm⟩ : ∃ m : Nat, (1 : Int) + (m0 : Int) = (m : Int) := ⟨1 + m0, by omega⟩
  have hm1 : 1 ≤ m := by omega
  have hm4 : m ≤ 3 := by omega
  have hwm : IntKind.i64.wrap ((1 : Int) + (m0 : Int)) = (m : Int) := by rw [IntKind.wrap_i64]; omega
  have b1 := (Below.refl w1.heap.size w1).alloc (Nat.le_refl _) (.cells #[.string s, .int .i64 (m : Int), .slice none 0 0] 28)
  have BT1 := Blk.new w1 28 #[.string s, .int .i64 (m : Int), .slice none 0 0]
  have BR2 := BR1.alloc (.cells #[.string s, .int .i64 (m : Int), .slice none 0 0] 28)
  have hC2 := hC1.below b1
  have hG2 : w.grownBy (w1.alloc (.cells #[.string s, .int .i64 (m : Int), .slice none 0 0] 28)) (some c) := grown_own hG1 (World.grownBy_alloc w1 _ none) (fun r e => by cases e)
  go_wp2_with fail
  generalize hww : w1.alloc (.cells #[.string s, .int .i64 (m : Int), .slice none 0 0] 28) = w2 at *
  have hs2 : w2.heap.size = w1.heap.size + 1 := by rw [← hww]; simp
  clear hww
  generalize hTT : w1.heap.size = T at *
  clear hTT
  refine (l1Below_any c 7 _ hC2 (by omega) (by omega)).mono ?_
  rintro e w3 ⟨y, rfl, hy0, hy1, _, hC3, hg3⟩
  obtain ⟨n, rfl⟩ := Int.eq_ofNat_of_zero_le hy0
  have hn7 : n < 7 := by have := hy1 (by omega); omega
  have BR3 := BR2.grown hg3 (fun e => by have e' : w.heap.size = c := Option.some.inj e; omega)
  have BT3 := BT1.grown hg3 (fun e => by have e' : T = c := Option.some.inj e; omega)
  have hG3 := grown_trans hG2 hg3
  have hs3 : T + 1 ≤ w3.heap.size := by have := hg3.size; omega
  clear hy0 hy1 hC1 BR1 hG1 b1 BT1 BR2 hC2 hG2 hg3 hm hwm hs2
  have HT0 := Lib.hid (show tabB s (m : Int) [] = true by
    unfold tabB rowsOkB
    rw [HNB.out]
    unfold inB
    rw [decide_eq_true (by omega : (1 : Int) ≤ (m : Int)), decide_eq_true (by omega : (m : Int) ≤ 4)]; rfl)
  go_wp2
  go_loopw [6] (fun i wr => ∃ (j : Nat) (A : Option Addr) (cap : Nat) (es : List Ent), j + es.length ≤ 6 ∧ i = .int .i64 j ∧ Blk wr w.heap.size 28 #[.string ⟨#[]⟩, .int .i64 0, .slice none 0 0] ∧ Blk wr T 28 #[.string s, .int .i64 (m : Int), .slice A es.length cap] ∧ ORows wr (T + 1) (.slice A es.length cap) es ∧ tabB s (m : Int) (es.map Ent.r) = true ∧ Cur wr c ∧ w.grownBy wr (some c)) (fun i _ => (intOf i).toNat)
  case atStart => exact ⟨n, none, 0, [], by simp; omega, rfl, BR3, BT3, ORows.none_ _ _, HT0.out, hC3, hG3⟩
  case round =>
    clear BR3 BT3 hC3 hG3 hs3
    obtain ⟨j, A, cap, es, hjl, rfl, BR, BT, hO, ht, hCr, hGr⟩ := hrel
    have HT := Lib.hid ht
    clear ht
    obtain ⟨t0, t1, t2⟩ : wr.cell? ⟨T, 0, none⟩ = some (.string s) ∧ wr.cell? ⟨T, 1, none⟩ = some (.int .i64 (m : Int)) ∧ wr.cell? ⟨T, 2, none⟩ = some (.slice A es.length cap) := ⟨by simpa using BT.cell 0, by simpa using BT.cell 1, by simpa using BT.cell 2⟩
    have hTl := BT.lt
    have HIN := Lib.hid hO.inside
    by_cases h0 : 0 < j
    · go_wp2_with fail
      refine (l1DrawRow_len c m wr hCr (by omega)).mono ?_
      rintro e w4 ⟨v4, zs, rfl, hzl, hown4, hC4, hg4⟩
      obtain ⟨A4, c4, g4, rfl, hg4', hR4⟩ := Row.of_own hown4
      have hz0 : 0 < zs.length := by omega
      obtain ⟨hA4, cur4, hcu4, hcj4⟩ := hR4 hz0
      subst hA4
      have hg4l := hR4.lt hz0
      have BR4 := BR.grown hg4 (fun e => by have e' : w.heap.size = c := Option.some.inj e; omega)
      have BT4 := BT.grown hg4 (fun e => by have e' : T = c := Option.some.inj e; omega)
      have hO4 := hO.grownC hg4 (by omega)
      have hG4 := grown_trans hGr hg4
      have HZL := Lib.hid hzl
      clear BR BT hO hCr hGr t0 t1 t2 hown4 hg4 hzl hcu4 hcj4
      go_wp2_with fail
      refine (l1Below_any c 9 _ hC4 (by omega) (by omega)).mono ?_
      rintro e w5 ⟨y5, rfl, hy50, hy51, _, hC5, hg5⟩
      have hy5 := hy51 (by omega)
      have BR5 := BR4.grown hg5 (fun e => by have e' : w.heap.size = c := Option.some.inj e; omega)
      have BT5 := BT4.grown hg5 (fun e => by have e' : T = c := Option.some.inj e; omega)
      have hO5 := hO4.grownC hg5 (by omega)
      have hG5 := grown_trans hG4 hg5
      have hR5 := hR4.kept hg5 (fun _ e => by have e' : g4 = c := Option.some.inj e; omega)
      obtain ⟨_, cur5, hcu5, hcj5⟩ := hR5 hz0
      have k5 : w5.cell? ⟨g4, 0, none⟩ = some (.int .i64 (ix zs 0)) := by rw [Blk.cell (t := 2) (cs := cur5) hcu5]; exact hcj5 0 hz0
      have f5 : w5.frozen? ⟨g4, 0, none⟩ = false := Blk.frozen (t := 2) (cs := cur5) hcu5 0
      have hR6 := hR5.set0 hz0 (y5 - 1)
      have BR6 := BR5.far (p := ⟨g4, 0, none⟩) (by show w.heap.size ≠ g4; omega) (.int .i64 (y5 - 1))
      have BT6 := BT5.far (p := ⟨g4, 0, none⟩) (by show T ≠ g4; omega) (.int .i64 (y5 - 1))
      have hC6 := hC5.grown (grown_setCell w5 g4 0 (.int .i64 (y5 - 1))) (fun r e => by have e' : g4 = r := Option.some.inj e; omega)
      have hG6 := grown_own hG5 (grown_setCell w5 g4 0 (.int .i64 (y5 - 1))) (fun r e => by have e' : g4 = r := Option.some.inj e; omega)
      have hO6 : ORows (w5.setCell ⟨g4, 0, none⟩ (.int .i64 (y5 - 1))) (T + 1) (.slice A es.length cap) es := by
        refine hO5.keep (hi := wr.heap.size) ?_ (fun b _ hb => Below.heap_setCell w5 ⟨g4, 0, none⟩ _ b (by show b ≠ g4; omega))
        exact HIN.out
      have hs6 : T + 1 ≤ (w5.setCell ⟨g4, 0, none⟩ (.int .i64 (y5 - 1))).heap.size := BT6.lt
      clear BR4 BT4 hO4 hG4 hC4 hR4 BR5 BT5 hO5 hG5 hC5 hR5 hcu5 hcj5 hg5 hy51
      obtain ⟨u0, u1, u2⟩ := BT6.c3
      go_wp2_with fail
      generalize w5.setCell ⟨g4, 0, none⟩ (.int .i64 (y5 - 1)) = w6 at *
      have hP := specPlaced_any s (m : Int) A (some ⟨g4, 0, none⟩) cap c4 (es.map Ent.r) (zs.set 0 (y5 - 1)) w6 (hO6.rws (fun e he => by have := tab_short HT.out e.r (List.mem_map_of_mem he); omega)) hR6.ints (by omega) (by rw [List.length_map]; omega) (by rw [List.length_set, HZL.out]; omega)
      have ht7 := tabB_pl (row := zs.set 0 (y5 - 1)) HT.out
      have hl7 := plR_len (rows := es.map Ent.r) (row := zs.set 0 (y5 - 1)) (b := plB s (m : Int) (es.map Ent.r) (zs.set 0 (y5 - 1)))
      rw [List.length_map] at hl7
      rw [HT.out, show tkS s true = s from if_pos rfl, show tkW (m : Int) true = (m : Int) from if_pos rfl, show ∀ R, tkR R true = R from fun R => if_pos rfl, List.length_map, List.length_set] at hP
      generalize plB s (m : Int) (es.map Ent.r) (zs.set 0 (y5 - 1)) = pb at *
      have HP := Lib.hid hP
      have HT7 := Lib.hid ht7
      have HL7 := Lib.hid hl7
      clear hP ht7 hl7
      refine HP.out.mono ?_
      rintro e w7 ⟨v7, rfl, ⟨u7, es7, rfl, hO7, he7⟩, hb7⟩
      obtain ⟨A7, c7, rfl⟩ := hO7.form
      have HE7 := Lib.hid he7
      have BR7 := BR6.on hb7
      have BT7 := BT6.on hb7
      have hC7 := hC6.below hb7
      have hG7 := grown_below hG6 hb7 (by have := hG6.size; omega)
      have hO7' := hO7.lower hs6
      have hel7 : es7.length ≤ es.length + 1 := by
        have h1 := congrArg List.length HE7.out
        rw [List.length_map] at h1
        have := HL7.out
        omega
      have HTE := Lib.hid (show tabB s (m : Int) (es7.map Ent.r) = true by rw [HE7.out]; exact HT7.out)
      obtain ⟨s0, s1, s2⟩ := BT7.c3
      have fs0 := BT7.frozen 0
      have fs1 := BT7.frozen 1
      have fs2 := BT7.frozen 2
      have BT8 := BT7.set3 (a' := .string s) (b' := .int .i64 (m : Int)) (c' := .slice A7 es7.length c7)
      have hgs := set3_grown w7 T (.string s) (.int .i64 (m : Int)) (.slice A7 es7.length c7)
      have BR8 := BR7.grown hgs (fun e => by have e' : w.heap.size = T := Option.some.inj e; omega)
      have hO8 := hO7'.grownC hgs (by omega)
      have hC8 := hC7.grown hgs (fun r e => by have e' : T = r := Option.some.inj e; omega)
      have hG8 := grown_own hG7 hgs (fun r e => by have e' : T = r := Option.some.inj e; omega)
      clear he7 BR6 BT6 hC6 hG6 hO6 hO7 hO7' hb7 hR6 u0 u1 u2 BT7 BR7 hC7 hG7 hgs HP HT7 HL7
      have HBT := Lib.hid BT8
      have HBR := Lib.hid BR8
      have HO8 := Lib.hid hO8
      have HC8 := Lib.hid hC8
      have HG8 := Lib.hid hG8
      clear BT8 BR8 hO8 hC8 hG8
      go_wp2
      go_roundw
      case rel => exact ⟨j - 1, A7, c7, es7, by omega, by go_num, HBR.out, HBT.out, HO8.out, HTE.out, HC8.out, HG8.out⟩
      case measure => simp [intOf]; omega
    · have hd : decide (0 < j) = false := by simpa using h0
      have HR4 := Lib.hid (show ∀ e ∈ es, e.r.length ≤ 1000 from fun e he => by have := tab_short HT.out e.r (List.mem_map_of_mem he); omega)
      obtain ⟨s0, s1, s2⟩ := BR.c3
      have fs0 := BR.frozen 0
      have fs1 := BR.frozen 1
      have fs2 := BR.frozen 2
      have hgs := set3_grown wr w.heap.size (.string s) (.int .i64 (m : Int)) (.slice A es.length cap)
      have hO8 := (hO.grownC hgs (by omega)).lower (show w.heap.size ≤ T + 1 by omega)
      have hC8 := hCr.grown hgs (fun r e => by have e' : w.heap.size = r := Option.some.inj e; omega)
      have hG8 := grown_own hGr hgs (fun r e => by have e' : w.heap.size = r := Option.some.inj e; omega)
      clear hO hCr hGr BT BR hgs
      go_wp2
      refine bodyPost_ret (v := .agg #[.string s, .int .i64 (m : Int), .slice A es.length cap]) (by simp [results, Try.f85, go_sem, *]) rfl ?_
      exact ⟨s, (m : Int), A, cap, es, rfl, hO8, by omega, HR4.out, by omega, by omega, by omega, hC8, hG8⟩
end Go.Proofs.Ytedbjjhkjkpnkaa
