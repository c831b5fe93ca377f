/- The program's ReadRow answers as the model's does. For texts of at most 2^30 bytes; the variables of the library that it reads lie as its text lays them. -/
import Derived.Test.YtkjpaafmolikoabDoorRead3
import Derived.Lib.AtoiErrMem
namespace Go.Proofs.YtkjpaafmolikoabDoor
open Go.RowKit

theorem splitC_words (c : UInt8) : ∀ (k : Nat) (s : ByteArray), (spl c (bl s)).length ≤ k + 1 → (Lib.splitB ⟨#[c]⟩ 0 k s).map bl = spl c (bl s)
  | 0, s, h => by
    rw [Lib.splitB_zero]
    rw [spl_length] at h
    have h0 : c ∉ bl s := by rw [← List.count_eq_zero]; omega
    rw [spl_whole c _ h0]; rfl
  | k + 1, s, h => by
    have hidx : Lib.indexB s ⟨#[c]⟩ = Lib.indexByte (bl s) c := Lib.index_one (bl s) c
    rcases Lib.indexB_cases s ⟨#[c]⟩ with hm | ⟨o, ho, _⟩
    · rw [Lib.splitB_miss _ _ _ _ hm]
      rw [hidx] at hm
      have h0 : c ∉ bl s := by
        intro hx
        obtain ⟨j, hj⟩ := List.mem_iff_getElem?.1 hx
        exact Lib.indexByte_none hm j hj
      rw [spl_whole c _ h0]; rfl
    · have ho2 : Lib.indexByte (bl s) c = (o : Int) := hidx.symm.trans ho
      obtain ⟨h1, h2⟩ := Lib.indexByte_some ho2
      have hlt : o < (bl s).length := (List.getElem?_eq_some_iff.1 h1).1
      have hne : (Lib.indexB s ⟨#[c]⟩ == -1) = false := by rw [ho, beq_eq_false_iff_ne]; omega
      have e0 : bl s = (bl s).take o ++ c :: (bl s).drop (o + 1) := by
        have h3 : (bl s).drop o = c :: (bl s).drop (o + 1) := by
          rw [List.drop_eq_getElem_cons hlt]
          congr 1
          rw [List.getElem?_eq_getElem hlt] at h1
          exact Option.some.inj h1
        rw [← h3, List.take_append_drop]
      have hno : c ∉ (bl s).take o := by
        intro hx
        obtain ⟨j, hj⟩ := List.mem_iff_getElem?.1 hx
        have hjo : j < o := by
          have := (List.getElem?_eq_some_iff.1 hj).1
          rw [List.length_take] at this; omega
        rw [List.getElem?_take, if_pos hjo] at hj
        exact h2 j hjo hj
      have e1 : bl (s.extract 0 (o + 0)) = (bl s).take o := by have := piece_bl s 0 o; unfold piece at this; rw [Nat.add_zero, this]; simp
      have e2 : bl (s.extract (o + 1) s.size) = (bl s).drop (o + 1) := by
        have := piece_bl s (o + 1) s.size
        unfold piece at this
        rw [this, List.take_of_length_le (by rw [List.length_drop, bl_length]; exact Nat.le_refl _)]
      have e3 : spl c (bl s) = (bl s).take o :: spl c ((bl s).drop (o + 1)) := by
        have := spl_cut c _ ((bl s).drop (o + 1)) hno
        rwa [← e0] at this
      have ih := splitC_words c k (s.extract (o + 1) s.size) (by rw [e2]; rw [e3] at h; simp at h; omega)
      have hunf : Lib.splitB ⟨#[c]⟩ 0 (k + 1) s = s.extract 0 (o + 0) :: Lib.splitB ⟨#[c]⟩ 0 k (s.extract (o + 1) s.size) := by
        rw [Lib.splitB, hne, ho]
        rfl
      rw [hunf, List.map_cons, ih, e1, e2, e3]
theorem splitB_words (k : Nat) (s : ByteArray) (h : (spl 32 (bl s)).length ≤ k + 1) : (Lib.splitB ⟨#[32]⟩ 0 k s).map bl = spl 32 (bl s) := splitC_words 32 k s h

/-- What the walk takes of the library's variables, now and as long as nothing that lies now turns. -/
def LaidAll (w : World) : Prop := ∀ w', Below w.heap.size w w' → (∃ m, w'.cell? ⟨3, 0, none⟩ = some (.int .i64 m)) ∧ Lib.TabIs Tryd.prog w' "internal/strconv.uint64pow10" .u64 Lib.pow10Tab ∧
  (∃ tp p, w'.var? Tryd.prog "strconv.ErrSyntax" = some #[.iface tp p]) ∧ (∃ tp p, w'.var? Tryd.prog "strconv.ErrRange" = some #[.iface tp p])
theorem LaidAll.on {w w1 : World} (h : LaidAll w) (hb : Below w.heap.size w w1) : LaidAll w1 := fun w' h' => h w' (hb.trans (h'.mono hb.size))
theorem LaidAll.tab {w : World} (h : LaidAll w) : Lib.TabBelow Tryd.prog w.heap.size w "internal/strconv.uint64pow10" .u64 Lib.pow10Tab := fun w' h' => (h w' h').2.1

theorem parse_ok (s : ByteArray) (n : Int) (w : World) (hs : s.size ≤ 1099511627776) (h : parseI (bl s) = some n) :
    Calls Tryd.prog 46 #[.string s, .int .i64 10, .int .i64 64] w fun e w' => e = .returned (.tuple #[.int .i64 n, .nilIface]) ∧ Below w.heap.size w w' := by
  have h' : Lib.parseIntB 64 s.data.toList = .ok n := by
    unfold parseI at h
    cases hx : Lib.parseIntB 64 (bl s) with
    | ok v => rw [hx] at h; simp only at h; injection h with h; rw [h] at hx; exact hx
    | range => rw [hx] at h; cases h
    | _ => rw [hx] at h; cases h
  refine (Tryd.strconv_ParseInt_10_at64_ok s (by omega) n h' w).mono ?_
  rintro e w' ⟨rfl, rfl | ⟨t, rfl⟩⟩
  · exact ⟨rfl, Below.refl _ _⟩
  · exact ⟨rfl, Lib.bytesWorld_below _ _ _⟩
theorem parse_err (s : ByteArray) (w : World) (hs : s.size ≤ 1099511627776) (h : parseI (bl s) = none) (hL : LaidAll w) :
    Calls Tryd.prog 46 #[.string s, .int .i64 10, .int .i64 64] w fun e w' => ∃ n N, e = .returned (.tuple #[.int .i64 n, .iface 119 (.pointer (some ⟨N, 0, none⟩))]) ∧ Below w.heap.size w w' := by
  obtain ⟨_, _, ⟨tp, p, hS⟩, ⟨tp', p', hR⟩⟩ := hL w (Below.refl _ _)
  cases hx : Lib.parseIntB 64 (bl s) with
  | ok v => unfold parseI at h; rw [hx] at h; cases h
  | range =>
    refine (Tryd.strconv_ParseInt_10_at64_range_var s (by omega) hx tp' p' w hR).mono ?_
    rintro e w' ⟨N, rfl, _, _, hb⟩
    exact ⟨_, N, rfl, hb⟩
  | _ =>
    refine (Any.strconv_ParseInt_10_at64_syntax_var Tryd.laysC174 s (by omega) hx tp p w hS).mono ?_
    rintro e w' ⟨N, rfl, _, _, hb⟩
    exact ⟨_, N, rfl, hb⟩

theorem implRead_none {s : List UInt8} {ws : List (List UInt8)} (h : s ≠ [45]) (h2 : ws.mapM parseI = none) : implRead s ws = ([], false) := by unfold implRead; rw [if_neg h, h2]
theorem implRead_yes {s : List UInt8} {ws : List (List UInt8)} {r : List Int} (h : s ≠ [45]) (h2 : ws.mapM parseI = some r) (h3 : showL r = s) : implRead s ws = (r, true) := by unfold implRead; rw [if_neg h, h2]; simp only; rw [if_pos h3]
theorem implRead_no {s : List UInt8} {ws : List (List UInt8)} {r : List Int} (h : s ≠ [45]) (h2 : ws.mapM parseI = some r) (h3 : ¬ showL r = s) : implRead s ws = ([], false) := by unfold implRead; rw [if_neg h, h2]; simp only; rw [if_neg h3]

theorem splitC_le (c : UInt8) : ∀ (k : Nat) (s : ByteArray), (Lib.splitB ⟨#[c]⟩ 0 k s).length ≤ k + 1 ∧ ∀ t ∈ Lib.splitB ⟨#[c]⟩ 0 k s, t.size ≤ s.size
  | 0, s => by rw [Lib.splitB_zero]; simp
  | k + 1, s => by
    rcases Lib.indexB_cases s ⟨#[c]⟩ with hm | ⟨o, ho, _⟩
    · rw [Lib.splitB_miss _ _ _ _ hm]; simp
    · have hne : (Lib.indexB s ⟨#[c]⟩ == -1) = false := by rw [ho, beq_eq_false_iff_ne]; omega
      have hunf : Lib.splitB ⟨#[c]⟩ 0 (k + 1) s = s.extract 0 (o + 0) :: Lib.splitB ⟨#[c]⟩ 0 k (s.extract (o + 1) s.size) := by
        rw [Lib.splitB, hne, ho]
        rfl
      obtain ⟨h1, h2⟩ := splitC_le c k (s.extract (o + 1) s.size)
      rw [hunf]
      refine ⟨by simp; omega, fun t ht => ?_⟩
      have hsub (a b : Nat) : (s.extract a b).size ≤ s.size := by
        have := piece_bl s a b
        unfold piece at this
        rw [← bl_length, this, ← bl_length s]
        rw [List.length_take, List.length_drop]; omega
      rcases List.mem_cons.1 ht with rfl | ht
      · exact hsub _ _
      · exact Nat.le_trans (h2 t ht) (hsub _ _)
theorem splitB_le (k : Nat) (s : ByteArray) : (Lib.splitB ⟨#[32]⟩ 0 k s).length ≤ k + 1 ∧ ∀ t ∈ Lib.splitB ⟨#[32]⟩ 0 k s, t.size ≤ s.size := splitC_le 32 k s
theorem strs_cells {w : World} {ws : List ByteArray} {N : Nat} : Strs (w.alloc (.cells (Lib.cellsOf ws N) 9)) (w.heap.size + 1) (some ⟨w.heap.size, 0, none⟩) ws := fun _ =>
  ⟨w.heap.size, 0, rfl, by omega, fun j hj => by
    rw [Nat.zero_add, Blk.cell (Blk.new w 9 (Lib.cellsOf ws N)) j]
    unfold Lib.cellsOf
    rw [List.getElem?_toArray, List.getElem?_append_left (by simpa using hj)]
    simp [sx, hj]⟩

set_option maxRecDepth 100000 in
set_option maxHeartbeats 4000000 in
theorem implReadRow_any (s : ByteArray) (w : World) (hs : s.size ≤ 1073741824) (hL : LaidAll w) :
    Calls Tryd.prog 11 #[.string s] w (RowAns (specRead (bl s)) w) := by
  obtain ⟨i0, hi0, hz0, hz1, hz2⟩ := info_parts info_i64
  by_cases h45 : bl s = [45]
  · obtain rfl : s = ⟨#[45]⟩ := bl_eta s [45] h45
    have HR : Hid (specRead (bl ⟨#[45]⟩) = ([], true)) := rfl
    clear h45
    go_enter Tryd.func11, Tryd.ntmps11
    go_wp2
    go_ret2
    unfold RowAns
    rw [HR.out]
    exact ⟨_, rfl, ownsRow_empty w 2 w.heap.size (Nat.le_refl _), (Below.refl _ _).alloc (Nat.le_refl _) _⟩
  · have hb : (s.toList == [45]) = false := by rw [toList_bl]; simpa using h45
    have H45 := Lib.hid h45
    clear h45
    obtain ⟨⟨m, hm⟩, _⟩ := hL w (Below.refl _ _)
    obtain ⟨ws, hws⟩ : ∃ ws, ws = Lib.splitB ⟨#[32]⟩ 0 (min 7 (s.size + 1) - 1) s := ⟨_, rfl⟩
    have hsame : implRead (bl s) (ws.map bl) = specRead (bl s) := by
      refine read_same _ _ (fun h7 => ?_)
      rw [hws]
      refine splitB_words _ s ?_
      have h1 := spl_length 32 (bl s)
      have h2 : (bl s).count 32 ≤ (bl s).length := List.count_le_length
      rw [bl_length] at h2
      omega
    obtain ⟨hl1, hl2⟩ := splitB_le (min 7 (s.size + 1) - 1) s
    rw [← hws] at hl1 hl2
    have hwl : ws.length ≤ 7 := by omega
    have HSAME := Lib.hid hsame
    have HL2 := Lib.hid hl2
    have HSPL := Lib.hid (Tryd.strings_SplitN s ⟨#[32]⟩ 7 m w (by omega) hm (by decide) (by omega) (by omega))
    rw [← hws] at HSPL
    clear hsame hl1 hl2 hws hm
    go_enter Tryd.func11, Tryd.ntmps11
    go_wp2_with (go_at_call 45; refine HSPL.out.mono ?_; rintro e w' ⟨rfl, rfl⟩)
    have hS1 : Strs (w.alloc (.cells (Lib.cellsOf ws (min 7 (s.size + 1))) 9)) (w.heap.size + 1) (some ⟨w.heap.size, 0, none⟩) ws := strs_cells
    have hb1 : Below w.heap.size w (w.alloc (.cells (Lib.cellsOf ws (min 7 (s.size + 1))) 9)) := (Below.refl _ _).alloc (Nat.le_refl _) _
    have hsz1 : (w.alloc (.cells (Lib.cellsOf ws (min 7 (s.size + 1))) 9)).heap.size = w.heap.size + 1 := by simp
    generalize w.alloc (.cells (Lib.cellsOf ws (min 7 (s.size + 1))) 9) = w1 at *
    have HSZ := Lib.hid hsz1
    clear hsz1 HSPL
    go_loopw [4, 15] (fun v i wr => ∃ (k : Nat) (r : List Int), k ≤ ws.length ∧ i = .int .i64 k ∧ r.length = k ∧ ((ws.map bl).take k).mapM parseI = some r ∧ wr.ownsRow w1.heap.size 2 1 v k (i64l r) ∧ Below w1.heap.size w1 wr) (fun _ i _ => ws.length - (intOf i).toNat)
    case atStart => exact ⟨0, [], Nat.zero_le _, rfl, rfl, rfl, World.ownsRow_nil _ _ _ _, Below.refl _ _⟩
    case round =>
      obtain ⟨k, r, hk, rfl, hrk, hr, hown, hbel⟩ := hrel
      have HRK := Lib.hid hrk
      have HR := Lib.hid hr
      have hlm : (ws.map bl).length = ws.length := List.length_map _
      have HLM := Lib.hid hlm
      have hb0r : Below w.heap.size w wr := hb1.trans (hbel.mono hb1.size)
      clear hrk hr hlm
      by_cases hlt : k < ws.length
      · have hk2 : k < (ws.map bl).length := by rw [HLM.out]; exact hlt
        have hsz : (sx ws k).size ≤ 1099511627776 := by
          have := HL2.out (sx ws k) (by rw [sx_eq ws k hlt]; exact List.getElem_mem hlt)
          omega
        obtain ⟨b, off, e, hbb, hc⟩ := hS1 (by omega)
        obtain ⟨rfl, rfl⟩ : w.heap.size = b ∧ 0 = off := by injection e with e; injection e with e1 e2 _; exact ⟨e1, e2⟩
        have hck : wr.cell? ⟨w.heap.size, k, none⟩ = some (.string (sx ws k)) := by
          have h3 := hc k hlt
          rw [Nat.zero_add] at h3
          exact (hbel.cell (p := ⟨w.heap.size, k, none⟩) (by rw [HSZ.out]; exact Nat.lt_succ_self _)).trans h3
        clear hc e hbb
        cases hx : parseI (bl (sx ws k)) with
        | none =>
          have HN := Lib.hid (implRead_none H45.out (mapM_stop _ _ k hk2 (by rw [word_at ws hlt hk2]; exact hx)))
          have HX := Lib.hid hx
          clear hx
          go_wp2_with (go_at_call 46; refine (parse_err _ _ hsz HX.out (hL.on hb0r)).mono ?_; rintro e w2 ⟨n2, N2, rfl, hb2⟩)
          go_ret2
          unfold RowAns
          rw [← HSAME.out, HN.out]
          have hb3 : Below w.heap.size w w2 := hb0r.trans (hb2.mono hb0r.size)
          exact ⟨_, rfl, ownsRow_empty w2 2 w.heap.size hb3.size, hb3.alloc hb3.size _⟩
        | some x =>
          have HN := Lib.hid (mapM_take_succ parseI (ws.map bl) k r x hk2 HR.out (by rw [word_at ws hlt hk2]; exact hx))
          have HX := Lib.hid hx
          clear hx
          go_wp2_with fail
          refine (parse_ok _ x _ hsz HX.out).mono ?_
          rintro e w2 ⟨rfl, hb2⟩
          have hown2 := hown.kept (grown_of_below hb2) (by cases h : u4.ownBlock <;> simp)
          have hbel2 : Below w1.heap.size w1 w2 := hbel.trans (hb2.mono hbel.size)
          clear hown hck hb0r
          go_wp2_with (at_builtin; refine wpList_append_own _ rfl _ _ 24 rfl w1.heap.size 2 i0 (.int .i64 0) 1 8 Tryd.underlying24 hi0 hz0 hz1 hz2 rfl (by decide) _ _ _ rfl (hown2.alloc _) ⟨w2.heap.size, 0, none⟩ 1 1 [.int .i64 x] rfl rfl (cell_one_new _ _ _) (by simp [Value.oneCell']) (by simp only [maxLen]; omega) (by omega) (by have := hbel2.size; simp; omega) ?_; intro v' w3 hown3 hgrow3 _)
          have hb3 : Below w1.heap.size w1 w3 := (hbel2.alloc hbel2.size _).grown hgrow3 (by have := hbel2.size; simp; omega) (fun g hg => (hown2.lt g hg).1)
          clear hgrow3 hown2
          go_roundw
          case rel => exact ⟨k + 1, r ++ [x], by omega, by go_num, by simp [HRK.out], HN.out, by simpa [i64l] using hown3, hb3⟩
          case measure => simp [intOf]; omega
      · obtain rfl : k = ws.length := by omega
        have hr2 : (ws.map bl).mapM parseI = some r := by
          have := HR.out
          rwa [List.take_of_length_le (by rw [HLM.out]; exact Nat.le_refl _)] at this
        have hrl : r.length ≤ 7 := by rw [HRK.out]; exact hwl
        rw [← HRK.out] at hown
        obtain ⟨A2, cap2, g2, rfl, hg2, hrow⟩ := Row.of_own hown
        have hown0 : wr.ownsRow w.heap.size 2 1 (.slice A2 r.length cap2) r.length (i64l r) := by
          rcases hown with ⟨h1, h2⟩
          refine ⟨h1, ?_⟩
          rcases h2 with h2 | ⟨g, cap, cur, h3, h4, h5⟩
          · exact .inl h2
          · exact .inr ⟨g, cap, cur, h3, by rw [HSZ.out] at h4; omega, h5⟩
        by_cases hok : showL r = bl s
        · have HN := Lib.hid (implRead_yes H45.out hr2 hok)
          have HE := Lib.hid (bl_eta s _ hok.symm)
          clear hok hr2
          go_wp2_with fail
          refine (implShowRow_any _ _ r _ hrow.ints (by omega) (hL.on hb0r).tab).mono ?_
          rintro e w2 ⟨rfl, hb2⟩
          rw [← HE.out]
          have hownF := hown0.kept (grown_of_below hb2) (by cases h : (Value.slice A2 r.length cap2).ownBlock <;> simp)
          go_wp2
          go_ret2
          unfold RowAns
          rw [← HSAME.out, HN.out]
          exact ⟨_, rfl, hownF, hb0r.trans (hb2.mono hb0r.size)⟩
        · have HN := Lib.hid (implRead_no H45.out hr2 hok)
          have hne : ((showL r) == s.toList) = false := by rw [toList_bl]; simpa using hok
          have hne2 : ((showL r) != s.toList) = true := by rw [bne, hne]; rfl
          clear hok hr2
          go_wp2_with fail
          refine (implShowRow_any _ _ r _ hrow.ints (by omega) (hL.on hb0r).tab).mono ?_
          rintro e w2 ⟨rfl, hb2⟩
          have hb3 : Below w.heap.size w w2 := hb0r.trans (hb2.mono hb0r.size)
          go_wp2
          go_ret2
          unfold RowAns
          rw [← HSAME.out, HN.out]
          exact ⟨_, rfl, ownsRow_empty w2 2 w.heap.size hb3.size, hb3.alloc hb3.size _⟩
end Go.Proofs.YtkjpaafmolikoabDoor
