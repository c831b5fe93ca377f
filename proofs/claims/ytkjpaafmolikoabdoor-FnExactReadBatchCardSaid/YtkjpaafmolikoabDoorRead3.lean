/- ReadRow, the model's and the program's: what each answers; both read alike (read_same). For texts of at most 2^30 bytes; the program's reads variables of the library's, which lie as its text lays them. -/
import Derived.Test.YtkjpaafmolikoabDoorRead2
import Derived.Test.YtkjpaafmolikoabDoorShelfR
import Derived.WalkSmall
namespace Go.Proofs.YtkjpaafmolikoabDoor
open Go.RowKit

theorem mapM_take_succ {α β : Type} (f : α → Option β) (l : List α) (k : Nat) (r : List β) (x : β) (hk : k < l.length) (hr : (l.take k).mapM f = some r) (hx : f l[k] = some x) : (l.take (k + 1)).mapM f = some (r ++ [x]) := by
  rw [List.take_succ_eq_append_getElem hk, List.mapM_append, hr]
  simp [hx]
theorem mapM_stop {α β : Type} (f : α → Option β) (l : List α) (k : Nat) (hk : k < l.length) (hx : f l[k] = none) : l.mapM f = none := by
  cases h : l.mapM f with
  | none => rfl
  | some r =>
    exfalso
    obtain ⟨h1, h2⟩ := mapM_some h
    have := h2 k l[k] (r[k]'(by omega)) (List.getElem?_eq_getElem hk) (List.getElem?_eq_getElem (by omega))
    rw [hx] at this; cases this
theorem mapM_len {α β : Type} {f : α → Option β} {l : List α} {r : List β} (h : l.mapM f = some r) : l.length = r.length := (mapM_some h).1
theorem cat_mem_le (by_ : List UInt8) : ∀ (ws : List (List UInt8)) (w : List UInt8), w ∈ ws → w.length ≤ (cat by_ ws).length
  | [], w, h => by cases h
  | [v], w, h => by have : w = v := by simpa using h
                    subst this; simp [cat]
  | v :: u :: r, w, h => by
    rw [cat]
    rcases List.mem_cons.1 h with rfl | h
    · simp
    · have := cat_mem_le by_ (u :: r) w h
      simp only [List.length_append]; omega
theorem word_le {s : ByteArray} {ts : List ByteArray} {c : UInt8} (h : ts.map bl = spl c (bl s)) {k : Nat} (hk : k < ts.length) : (sx ts k).size ≤ s.size := by
  rw [← bl_length, ← bl_length]
  have hm : bl (sx ts k) ∈ spl c (bl s) := by rw [← h, sx_eq ts k hk]; exact List.mem_map_of_mem (List.getElem_mem hk)
  have := cat_mem_le [c] _ _ hm
  rwa [cat_spl] at this
theorem word_at (ts : List ByteArray) {k : Nat} (hk : k < ts.length) (h2 : k < (ts.map bl).length) : (ts.map bl)[k] = bl (sx ts k) := by rw [sx_eq ts k hk]; simp

/-- The answer of a reader of rows, in memory. -/
def RowAns (p : List Int × Bool) (w : World) (e : Ending) (w' : World) : Prop :=
  ∃ v, e = .returned (.tuple #[v, .bool p.2]) ∧ w'.ownsRow w.heap.size 2 1 v p.1.length (i64l p.1) ∧ Below w.heap.size w w'

theorem own_ne {w : World} {b b' : Nat} {e e' : TypeId} {sz sz' : Nat} {v v' : Value} {n n' : Nat} {xs xs' : List Value} (h : w.ownsRow b e sz v n xs) (h' : w.ownsRow b' e' sz' v' n' xs') (hne : e ≠ e') : v.ownBlock = none ∨ v.ownBlock ≠ v'.ownBlock := by
  rcases h.2 with ⟨rfl, _⟩ | ⟨g, cap, cur, rfl, _, hh, _⟩
  · exact .inl rfl
  · right
    rcases h'.2 with ⟨rfl, _⟩ | ⟨g', cap', cur', rfl, _, hh', _⟩
    · simp [Value.ownBlock]
    · intro he
      have : g = g' := by simpa [Value.ownBlock] using he
      subst this
      rw [hh] at hh'
      injection hh' with hh'
      injection hh' with _ ht
      exact hne ht
theorem strs_at {w : World} {base : Nat} {A : Option Addr} {cap : Nat} {ts : List ByteArray} (h : w.ownsRow base 9 1 (.slice A ts.length cap) ts.length (strl ts)) : Strs w w.heap.size A ts := by
  obtain ⟨A', cap', e, hS⟩ := strs_of_own h
  injection e with e1 _ _
  subst e1
  exact hS

theorem specRead_none {s : List UInt8} (h : s ≠ [45]) (h2 : (spl 32 s).mapM (readNum 10) = none) : specRead s = ([], false) := by unfold specRead; rw [if_neg h, h2]
theorem specRead_yes {s : List UInt8} {r : List Int} (h : s ≠ [45]) (h2 : (spl 32 s).mapM (readNum 10) = some r) (h3 : rowOkB r = true) : specRead s = (r, true) := by unfold specRead; rw [if_neg h, h2]; simp only; rw [if_pos h3]
theorem specRead_no {s : List UInt8} {r : List Int} (h : s ≠ [45]) (h2 : (spl 32 s).mapM (readNum 10) = some r) (h3 : ¬ rowOkB r = true) : specRead s = ([], false) := by unfold specRead; rw [if_neg h, h2]; simp only; rw [if_neg h3]
theorem specRead_len (s : List UInt8) : (specRead s).1.length ≤ 6 := by
  unfold specRead
  split
  · simp
  · split
    · simp
    · rename_i r h
      split
      · rename_i hok; exact (rowOkB_all hok).2
      · simp
theorem toList_bl (s : ByteArray) : s.toList = bl s := ByteArray.toList_eq s

set_option maxRecDepth 100000 in
set_option maxHeartbeats 2000000 in
theorem specReadRow_any (s : ByteArray) (w : World) (hs : s.size ≤ 1073741824) :
    Calls Tryd.prog 15 #[.string s] w (RowAns (specRead (bl s)) w) := by
  obtain ⟨i0, hi0, hz0, hz1, hz2⟩ := info_parts info_i64
  have hB0 : Below w.heap.size w (w.alloc (.cells #[] 2)) := (Below.refl _ _).alloc (Nat.le_refl _) _
  have hE0 := ownsRow_empty w 2 w.heap.size (Nat.le_refl _)
  by_cases h45 : bl s = [45]
  · obtain rfl : s = ⟨#[45]⟩ := bl_eta s [45] h45
    have HR : Hid (specRead (bl ⟨#[45]⟩) = ([], true)) := rfl
    clear h45
    go_enter Tryd.func15, Tryd.ntmps15
    go_wp2
    go_ret2
    unfold RowAns
    rw [HR.out]
    exact ⟨_, rfl, hE0, hB0⟩
  · have hb : (s.toList == [45]) = false := by rw [toList_bl]; simpa using h45
    have H45 := Lib.hid h45
    clear h45
    go_enter Tryd.func15, Tryd.ntmps15
    go_wp2_with fail
    refine (l1Split_any s 32 _ hs).mono ?_
    rintro e w1 ⟨v1, ts, rfl, hts, hown1, hb1⟩
    obtain ⟨A1, cap1, rfl, hS1⟩ := strs_of_own hown1
    have HTS := Lib.hid hts
    have hE1 := hE0.kept (grown_of_below hb1) (by simp [Value.ownBlock])
    have hb01 : Below w.heap.size w w1 := hB0.trans (hb1.mono hB0.size)
    have hlen : ts.length ≤ 1073741825 := by
      have h1 := spl_length 32 (bl s)
      have h2 : (bl s).count 32 ≤ (bl s).length := List.count_le_length
      rw [← hts, List.length_map] at h1
      rw [bl_length] at h2
      omega
    have hown1' : w1.ownsRow w.heap.size 9 1 (.slice A1 ts.length cap1) ts.length (strl ts) := by
      rcases hown1 with ⟨h1, h2⟩
      refine ⟨h1, ?_⟩
      rcases h2 with h2 | ⟨g, cap, cur, h3, h4, h5⟩
      · exact .inl h2
      · exact .inr ⟨g, cap, cur, h3, by simp at h4; omega, h5⟩
    clear hts hown1 hE0 hB0 hb1 hS1
    go_wp2
    go_loopw [4, 6, 7, 8] (fun v i _ _ wr => ∃ (k : Nat) (r : List Int), k ≤ ts.length ∧ i = .int .i64 k ∧ r.length = k ∧ ((ts.map bl).take k).mapM (readNum 10) = some r ∧ wr.ownsRow w.heap.size 2 1 v k (i64l r) ∧ wr.ownsRow w.heap.size 9 1 (.slice A1 ts.length cap1) ts.length (strl ts) ∧ Below w.heap.size w wr) (fun _ i _ _ _ => ts.length - (intOf i).toNat)
    case atStart => exact ⟨0, [], Nat.zero_le _, rfl, rfl, rfl, hE1, hown1', hb01⟩
    case round =>
      obtain ⟨k, r, hk, rfl, hrk, hr, hown, hstr, hbel⟩ := hrel
      have HRK := Lib.hid hrk
      have HR := Lib.hid hr
      have hlm : (ts.map bl).length = ts.length := List.length_map _
      have HLM := Lib.hid hlm
      clear hrk hr hE1 hown1' hb01 hlm
      by_cases hlt : k < ts.length
      · have hk2 : k < (ts.map bl).length := by rw [HLM.out]; exact hlt
        have hsz : (sx ts k).size ≤ 1099511627776 := by have := word_le HTS.out hlt; omega
        obtain ⟨b, off, rfl, hb, hc⟩ := strs_at hstr (by omega)
        have hck := hc k hlt
        clear hc
        cases hx : readNum 10 (bl (sx ts k)) with
        | none =>
          have HN := Lib.hid (specRead_none H45.out (by rw [← HTS.out]; exact mapM_stop _ _ k hk2 (by rw [word_at ts hlt hk2]; exact hx)))
          have HX := Lib.hid hx
          clear hx
          go_wp2_with (go_at_call 50; refine (l1ReadMost_no _ 10 _ (by omega) hsz HX.out).mono ?_; rintro e w' ⟨rfl, rfl⟩)
          go_ret2
          unfold RowAns
          rw [HN.out]
          exact ⟨_, rfl, ownsRow_empty wr 2 w.heap.size hbel.size, hbel.alloc hbel.size _⟩
        | some x =>
          have HN := Lib.hid (mapM_take_succ (readNum 10) (ts.map bl) k r x hk2 HR.out (by rw [word_at ts hlt hk2]; exact hx))
          have HX := Lib.hid hx
          clear hx
          go_wp2_with (first | (go_at_call 50; refine (l1ReadMost_yes _ 10 x _ (by omega) hsz HX.out).mono ?_; rintro e w' ⟨rfl, rfl⟩) | (at_builtin; refine wpList_append_own _ rfl _ _ 24 rfl w.heap.size 2 i0 (.int .i64 0) 1 8 Tryd.underlying24 hi0 hz0 hz1 hz2 rfl (by decide) _ _ _ rfl (hown.alloc _) ⟨wr.heap.size, 0, none⟩ 1 1 [.int .i64 x] rfl rfl (cell_one_new _ _ _) (by simp [Value.oneCell']) (by simp only [maxLen]; omega) (by omega) (by have := hbel.size; simp; omega) ?_; intro v' w2 hown2 hgrow2 _))
          have hb2 : Below w.heap.size w w2 := (hbel.alloc hbel.size _).grown hgrow2 (by have := hbel.size; simp; omega) (fun g hg => (hown.lt g hg).1)
          have hstr2 := (hstr.alloc _).kept hgrow2 (own_ne hstr hown (by decide))
          clear hgrow2 hown hstr
          go_roundw
          case rel => exact ⟨k + 1, r ++ [x], by omega, by go_num, by simp [HRK.out], HN.out, by simpa [i64l] using hown2, hstr2, hb2⟩
          case measure => simp [intOf]; omega
      · obtain rfl : k = ts.length := by omega
        have hr2 : (spl 32 (bl s)).mapM (readNum 10) = some r := by
          have := HR.out
          rw [List.take_of_length_le (by rw [HLM.out]; exact Nat.le_refl _), HTS.out] at this
          exact this
        have hrl : r.length ≤ 1073741825 := by rw [HRK.out]; exact hlen
        rw [← HRK.out] at hown
        obtain ⟨A2, cap2, g2, rfl, hg2, hrow⟩ := Row.of_own hown
        by_cases hok : rowOkB r = true
        · have HN := Lib.hid (specRead_yes H45.out hr2 hok)
          have HOK := Lib.hid hok
          clear hok hr2
          go_wp2_with (go_at_call 19; refine (specRowOk_yes _ _ r _ _ hrow.ints (by omega) HOK.out).mono ?_; rintro e w' ⟨rfl, rfl⟩)
          go_ret2
          unfold RowAns
          rw [HN.out]
          exact ⟨_, rfl, hown, hbel⟩
        · have HN := Lib.hid (specRead_no H45.out hr2 hok)
          have hok' : rowOkB r = false := by simpa using hok
          have HOK := Lib.hid hok'
          clear hok hok' hr2
          go_wp2_with (go_at_call 19; refine (specRowOk_no _ _ r _ _ hrow.ints (by omega) HOK.out).mono ?_; rintro e w' ⟨rfl, rfl⟩)
          go_ret2
          unfold RowAns
          rw [HN.out]
          exact ⟨_, rfl, ownsRow_empty wr 2 w.heap.size hbel.size, hbel.alloc hbel.size _⟩
end Go.Proofs.YtkjpaafmolikoabDoor
