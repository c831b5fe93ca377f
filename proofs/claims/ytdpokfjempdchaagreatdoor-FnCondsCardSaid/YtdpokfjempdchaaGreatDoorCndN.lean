/- Conds read from their text: the program's ReadConds answers as the model's does; for texts of at most 2^30 bytes; it reads variables of the library's, which lie as its text lays them. -/
import Derived.Test.YtdpokfjempdchaaGreatDoorCndQ
import Derived.Test.YtdpokfjempdchaaGreatDoorCndC
import Derived.Test.YtdpokfjempdchaaGreatDoorCndY
namespace Go.Proofs.YtdpokfjempdchaaGreatDoor
open Go.RowKit

theorem cflat_get : ∀ (l : List Cnd) {q : Nat}, q < 4 * l.length → (cflat l)[q]? = some (ccell l q)
  | [], q, h => absurd h (by simp)
  | c :: l, q, h => by
    by_cases h4 : q < 4
    · rw [cflat, List.getElem?_append_left (by show q < 4; exact h4)]
      have : q = 0 ∨ q = 1 ∨ q = 2 ∨ q = 3 := by omega
      rcases this with rfl | rfl | rfl | rfl <;> rfl
    · rw [cflat, List.getElem?_append_right (by show 4 ≤ q; omega)]
      rw [show (ccl c).length = 4 from rfl, cflat_get l (by simp at h; omega)]
      have e : ∀ j, cx (c :: l) (j + 1) = cx l j := fun j => by simp [cx]
      unfold ccell
      rw [show (q - 4) % 4 = q % 4 by omega, show q / 4 = (q - 4) / 4 + 1 by omega, e]
theorem crow_of_own {w : World} {lo : Nat} {v : Value} {l : List Cnd} (h : w.ownsRow lo 44 4 v l.length (cflat l)) :
    ∃ A c g, v = .slice A l.length c ∧ lo ≤ g ∧ CRow w A g l := by
  rcases h.2 with ⟨rfl, h0⟩ | ⟨g, cap, cur, rfl, hg, hh, hnc, _, hs, ht⟩
  · rw [h0]; exact ⟨none, 0, lo, rfl, Nat.le_refl _, fun hn => absurd hn (by omega)⟩
  · refine ⟨_, cap, g, rfl, hg, fun _ => ⟨rfl, cur, hh, fun q hq => ?_⟩⟩
    have e : (cur.toList.take (l.length * 4))[q]? = (cflat l)[q]? := by rw [ht]
    rw [List.getElem?_take, if_pos (by omega), Array.getElem?_toList] at e
    rw [e, cflat_get l hq]
theorem implCs_none {s : List UInt8} {ws : List (List UInt8)} (h : s ≠ [45]) (h2 : ws.mapM implC = none) : implReadCs s ws = ([], false) := by unfold implReadCs; rw [if_neg h, h2]
theorem implCs_yes {s : List UInt8} {ws : List (List UInt8)} {r : List Cnd} (h : s ≠ [45]) (h2 : ws.mapM implC = some r) (h3 : showCs r = s) : implReadCs s ws = (r, true) := by unfold implReadCs; rw [if_neg h, h2]; simp only; rw [if_pos h3]
theorem implCs_no {s : List UInt8} {ws : List (List UInt8)} {r : List Cnd} (h : s ≠ [45]) (h2 : ws.mapM implC = some r) (h3 : ¬ showCs r = s) : implReadCs s ws = ([], false) := by unfold implReadCs; rw [if_neg h, h2]; simp only; rw [if_neg h3]

set_option maxRecDepth 100000 in
set_option maxHeartbeats 4000000 in
theorem implReadConds_any (s : ByteArray) (w : World) (hs : s.size ≤ 1073741824) (hL : LaidAll w) :
    Calls Tryz.prog 8 #[.string s] w (CAns (specReadCs (bl s)) w) := by
  obtain ⟨i0, hi0, hz0, hz1, hz2⟩ := info_parts info_cond
  have hB0 : Below w.heap.size w (w.alloc (.cells #[] 44)) := (Below.refl _ _).alloc (Nat.le_refl _) _
  have hE0 := own_cond0 w w.heap.size (Nat.le_refl _)
  by_cases h45 : bl s = [45]
  · obtain rfl : s = ⟨#[45]⟩ := bl_eta s [45] h45
    have HR : Hid (specReadCs (bl ⟨#[45]⟩) = ([], true)) := rfl
    clear h45
    go_enter Tryz.func8, Tryz.ntmps8
    go_wp2
    go_ret2
    unfold CAns
    rw [HR.out]
    exact ⟨_, rfl, hE0, hB0⟩
  · have hb : (s.toList == [45]) = false := by rw [toList_bl]; simpa using h45
    have H45 := Lib.hid h45
    clear h45 hE0 hB0
    obtain ⟨⟨m, hm⟩, _⟩ := hL w (Below.refl _ _)
    obtain ⟨ws, hws⟩ : ∃ ws, ws = Lib.splitB ⟨#[44]⟩ 0 (min 4 (s.size + 1) - 1) s := ⟨_, rfl⟩
    have hsame : implReadCs (bl s) (ws.map bl) = specReadCs (bl s) := by
      refine readCs_same _ _ (fun h7 => ?_)
      rw [hws]
      refine splitC_words 44 _ s ?_
      have h1 := spl_length 44 (bl s)
      have h2 : (bl s).count 44 ≤ (bl s).length := List.count_le_length
      rw [bl_length] at h2
      omega
    obtain ⟨hl1, hl2⟩ := splitC_le 44 (min 4 (s.size + 1) - 1) s
    rw [← hws] at hl1 hl2
    have hwl : ws.length ≤ 4 := by omega
    have HSAME := Lib.hid hsame
    have HL2 := Lib.hid hl2
    have HSPL := Lib.hid (Tryz.strings_SplitN s ⟨#[44]⟩ 4 m w (by omega) hm (by decide) (by omega) (by omega))
    rw [← hws] at HSPL
    clear hsame hl1 hl2 hws hm
    go_enter Tryz.func8, Tryz.ntmps8
    go_wp2_with (go_at_call 26; refine HSPL.out.mono ?_; rintro e w' ⟨rfl, rfl⟩)
    have hS1 : Strs (w.alloc (.cells (Lib.cellsOf ws (min 4 (s.size + 1))) 9)) (w.heap.size + 1) (some ⟨w.heap.size, 0, none⟩) ws := strs_cells
    have hb1 : Below w.heap.size w (w.alloc (.cells (Lib.cellsOf ws (min 4 (s.size + 1))) 9)) := (Below.refl _ _).alloc (Nat.le_refl _) _
    have hsz1 : (w.alloc (.cells (Lib.cellsOf ws (min 4 (s.size + 1))) 9)).heap.size = w.heap.size + 1 := by simp
    generalize w.alloc (.cells (Lib.cellsOf ws (min 4 (s.size + 1))) 9) = w1 at *
    have HSZ := Lib.hid hsz1
    clear hsz1 HSPL
    go_loopw [4, 15] (fun v i wr => ∃ (k : Nat) (r : List Cnd), k ≤ ws.length ∧ i = .int .i64 k ∧ r.length = k ∧ ((ws.map bl).take k).mapM implC = some r ∧ wr.ownsRow w1.heap.size 44 4 v k (cflat r) ∧ Below w1.heap.size w1 wr) (fun _ i _ => ws.length - (intOf i).toNat)
    case atStart => exact ⟨0, [], Nat.zero_le _, rfl, rfl, rfl, World.ownsRow_nil _ _ _ _, Below.refl _ _⟩
    case round =>
      obtain ⟨k, r, hk, rfl, hrk, hr, hown, hbel⟩ := hrel
      have HRK := Lib.hid hrk
      have HR := Lib.hid hr
      have hlm : (ws.map bl).length = ws.length := List.length_map _
      have HLM := Lib.hid hlm
      have hb0r : Below w.heap.size w wr := hb1.trans (hbel.mono hb1.size)
      clear hrk hr hlm
      by_cases hlt : k < ws.length
      · have hk2 : k < (ws.map bl).length := by rw [HLM.out]; exact hlt
        have hsz : (sx ws k).size ≤ 1073741824 := by
          have := HL2.out (sx ws k) (by rw [sx_eq ws k hlt]; exact List.getElem_mem hlt)
          omega
        obtain ⟨b, off, e, hbb, hc⟩ := hS1 (by omega)
        obtain ⟨rfl, rfl⟩ : w.heap.size = b ∧ 0 = off := by injection e with e; injection e with e1 e2 _; exact ⟨e1, e2⟩
        have hck : wr.cell? ⟨w.heap.size, k, none⟩ = some (.string (sx ws k)) := by
          have h3 := hc k hlt
          rw [Nat.zero_add] at h3
          exact (hbel.cell (p := ⟨w.heap.size, k, none⟩) (by rw [HSZ.out]; exact Nat.lt_succ_self _)).trans h3
        have HRC := Lib.hid (readCond_any (sx ws k) wr hsz (hL.on hb0r))
        clear hc e hbb
        obtain ⟨A4, c4, hv4⟩ : ∃ A c, u4 = .slice A k c := by
          rcases hown.2 with ⟨h1, h2⟩ | ⟨g, cap, cur, h1, _⟩
          · exact ⟨none, 0, by rw [h1, h2]⟩
          · exact ⟨_, cap, h1⟩
        subst hv4
        cases hx : implC (bl (sx ws k)) with
        | none =>
          have HN := Lib.hid (implCs_none H45.out (mapM_stop _ _ k hk2 (by rw [word_at ws hlt hk2]; exact hx)))
          have HC2 : Hid (∀ w', Below wr.heap.size wr w' → True) := fun _ _ => trivial
          go_wp2_with fail
          refine HRC.out.mono ?_
          rintro e w2 ⟨rfl, hb2⟩
          rw [hx]
          clear hx
          have hb3 : Below w.heap.size w w2 := hb0r.trans (hb2.mono hb0r.size)
          have hba := hb3.alloc hb3.size (.cells #[.int .i64 0, .int .i64 0, .int .i64 0, .bool false] 44)
          unfold cndAns
          simp only [cndV, zeroC]
          go_wp2
          go_ret2
          unfold CAns
          rw [← HSAME.out, HN.out]
          exact ⟨_, rfl, (by have := own_cond0 (w2.alloc (.cells #[.int .i64 0, .int .i64 0, .int .i64 0, .bool false] 44)) w.heap.size hba.size; rw [World.size_alloc] at this; exact this), hba.alloc hba.size _⟩
        | some x =>
          have HN := Lib.hid (mapM_take_succ implC (ws.map bl) k r x hk2 HR.out (by rw [word_at ws hlt hk2]; exact hx))
          go_wp2_with fail
          refine HRC.out.mono ?_
          rintro e w2 ⟨rfl, hb2⟩
          rw [hx]
          clear hx
          have hbel2 : Below w1.heap.size w1 w2 := hbel.trans (hb2.mono hbel.size)
          have hba := hbel2.alloc hbel2.size (.cells #[.int .i64 x.p, .int .i64 x.o, .int .i64 x.t, .bool x.i] 44)
          have hba2 := hba.alloc hba.size (.cells #[.int .i64 x.p, .int .i64 x.o, .int .i64 x.t, .bool x.i] 44)
          have howna2 := ((hown.kept (grown_of_below hb2) (by cases h : (Value.slice A4 k c4).ownBlock <;> simp)).alloc (.cells #[.int .i64 x.p, .int .i64 x.o, .int .i64 x.t, .bool x.i] 44)).alloc (.cells #[.int .i64 x.p, .int .i64 x.o, .int .i64 x.t, .bool x.i] 44)
          unfold cndAns
          simp only [cndV]
          have hX2 := reads_cond (c := x) (Blk.new (w2.alloc (.cells #[.int .i64 x.p, .int .i64 x.o, .int .i64 x.t, .bool x.i] 44)) 44 #[.int .i64 x.p, .int .i64 x.o, .int .i64 x.t, .bool x.i])
          simp only [World.size_alloc] at hX2
          have HX := Lib.hid (And.intro howna2 (And.intro hba2 hX2))
          clear hown howna2 hba hba2 hX2 hck hb0r
          have hone : ∀ u ∈ ccl x, u.oneCell' = true := by simp [ccl, Value.oneCell']
          have h63 : k + 1 ≤ maxLen := by simp only [maxLen]; omega
          have h64 : (k + 1) * 32 ≤ 140737488355328 := by omega
          have HO1 := Lib.hid hone
          have H63 := Lib.hid h63
          clear hone h63
          go_wp2_with (at_builtin; refine wpList_append_any _ (by rfl) (.tmp 27) (.tmp 29) 24 (by rfl) w1.heap.size 44 i0 _ 4 32 Tryz.underlying24 hi0 hz0 hz1 hz2 rfl (by decide) (.slice A4 k c4) k (cflat r) (by rfl) HX.out.1 _ (some ⟨w2.heap.size + 1, 0, none⟩) 1 1 (ccl x) (by rfl) HX.out.2.2 HO1.out H63.out h64 HX.out.2.1.size ?_; intro v3 w3 hown3 hgrow3 hat3)
          have hb3 : Below w1.heap.size w1 w3 := HX.out.2.1.grown hgrow3 HX.out.2.1.size (fun g hg => (HX.out.1.lt g hg).1)
          rw [← cflat_snoc] at hown3
          clear hgrow3 hat3
          go_roundw
          case rel => exact ⟨k + 1, r ++ [x], by omega, by go_num, by simp [HRK.out], HN.out, hown3, hb3⟩
          case measure => simp [intOf]; omega
      · obtain rfl : k = ws.length := by omega
        have hr2 : (ws.map bl).mapM implC = some r := by
          have := HR.out
          rwa [List.take_of_length_le (by rw [HLM.out]; exact Nat.le_refl _)] at this
        have hrl : r.length ≤ 4 := by rw [HRK.out]; exact hwl
        rw [← HRK.out] at hown
        obtain ⟨A2, cap2, g2, rfl, hg2, hrow⟩ := crow_of_own hown
        have hown0 : wr.ownsRow w.heap.size 44 4 (.slice A2 r.length cap2) r.length (cflat r) := by
          rcases hown with ⟨h1, h2⟩
          refine ⟨h1, ?_⟩
          rcases h2 with h2 | ⟨g, cap, cur, h3, h4, h5⟩
          · exact .inl h2
          · exact .inr ⟨g, cap, cur, h3, by rw [HSZ.out] at h4; omega, h5⟩
        by_cases hok : showCs r = bl s
        · have HN := Lib.hid (implCs_yes H45.out hr2 hok)
          have HE := Lib.hid (bl_eta s _ hok.symm)
          clear hok hr2
          go_wp2_with fail
          refine (implShowConds_any _ _ r _ hrow.cnds (by omega) (hL.on hb0r).tab).mono ?_
          rintro e w2 ⟨rfl, hb2⟩
          have hownF := hown0.kept (grown_of_below hb2) (by cases h : (Value.slice A2 r.length cap2).ownBlock <;> simp)
          rw [show mkB (showCs r) = s from HE.out.symm]
          go_wp2
          go_ret2
          unfold CAns
          rw [← HSAME.out, HN.out]
          exact ⟨_, rfl, hownF, hb0r.trans (hb2.mono hb0r.size)⟩
        · have HN := Lib.hid (implCs_no H45.out hr2 hok)
          obtain ⟨S, hS⟩ : ∃ S, mkB (showCs r) = S := ⟨_, rfl⟩
          have hne2 : (S.toList == s.toList) = false := by rw [← hS, toList_bl, toList_bl, bl_mkB]; simpa using hok
          clear hok hr2
          go_wp2_with fail
          refine (implShowConds_any _ _ r _ hrow.cnds (by omega) (hL.on hb0r).tab).mono ?_
          rintro e w2 ⟨rfl, hb2⟩
          rw [hS]
          clear hS
          have hb3 : Below w.heap.size w w2 := hb0r.trans (hb2.mono hb0r.size)
          go_wp2
          go_ret2
          unfold CAns
          rw [← HSAME.out, HN.out]
          exact ⟨_, rfl, own_cond0 w2 w.heap.size hb3.size, hb3.alloc hb3.size _⟩
end Go.Proofs.YtdpokfjempdchaaGreatDoor
