/- Slices of rows: words; contracts of the laws' toInt64SS, szInt64SS, eqInt64SS, markInt64SS; a slice of rows that came in. For slices and rows of at most 2^40 (marks: 2^21). -/
import Derived.Test.YtoncfodlffofdaaBagMark2
import Derived.Test.YtoncfodlffofdaaBagOpen
import Derived.Test.YtoncfodlffofdaaRowsRws
namespace Go.Proofs.Ytoncfodlffofdaa
open Go.ChangeShapes Go.WideShapes Go.ChangeAt Go.RowKit Go.Deep

theorem rawRows_of {H : Type} {enc : TypeId × Value → H} {W : World} {base : Nat} {held : Bool} {fuel : Nat} {a : Option Addr} {len cap : Nat} {x : DataW H × List MemPlace}
    (h : DataW.trod enc Try.prog W base (fun _ => true) held fuel 42 [.slice a len cap] = some x) : ∃ rows : List (List Int), rows.length = len ∧ RawRows W W.heap.size a rows ∧ len ≤ maxLen := by
  rcases open_slice1 Try.underlying42 (by kernel_rfl) h with ⟨hcs, _⟩ | ⟨ad, l, c, m, n, V, D, Pl, hcs, _, hl, hm, hmm, _, hat⟩
  · simp at hcs
    obtain ⟨rfl, rfl, rfl⟩ := hcs
    exact ⟨[], rfl, fun h => absurd h (by simp), by decide⟩
  · simp at hcs
    obtain ⟨rfl, rfl, rfl⟩ := hcs
    simp at hmm
    subst hmm
    have hkey : ∀ i, i < len → ∃ y : List Int, ∃ Ar cp, W.cell? (ad.add i) = some (.slice Ar y.length cp) ∧ Ints W W.heap.size Ar y ∧ y.length ≤ maxLen := by
      intro i hi
      obtain ⟨c0, t0⟩ := hat i (by omega)
      obtain ⟨Ar, l, cp, zs, hV, hR⟩ : ∃ Ar l cp zs, V i = .slice Ar l cp ∧ IsRow .i64 W Ar l cp zs := by
        rcases open_ints Try.underlying25 Try.underlying2 (by kernel_rfl) t0 with ⟨hcs, _⟩ | ⟨x, l, c, zs, hcs, _, hl, hm, hz, _, hcell, hwz⟩
        · exact ⟨none, 0, 0, [], by simpa using hcs, .inl ⟨rfl, rfl, rfl, rfl⟩⟩
        · exact ⟨some x, l, c, zs, by simpa using hcs, .inr ⟨_, rfl, hl, hm, by simpa using hz, hcell, hwz⟩⟩
      obtain ⟨ys, rfl, hI, hlm, _⟩ := isRow_ints hR
      exact ⟨ys, Ar, cp, by rw [c0, hV], hI, hlm⟩
    obtain ⟨f, hf⟩ := choose_lt (α := List Int) hkey
    have hlen : ((List.range len).map f).length = len := by simp
    have hr : ∀ j, j < len → rr ((List.range len).map f) j = f j := by
      intro j hj
      simp [rr, hj]
    refine ⟨(List.range len).map f, hlen, fun hn => ?_, by omega⟩
    have hn' : 0 < len := by rw [hlen] at hn; exact hn
    obtain ⟨b, off, spot⟩ := ad
    obtain ⟨Ar, cp, k0, _⟩ := hf 0 hn'
    have hspot : spot = none := by simpa [Addr.add] using World.cell?_spot k0
    subst hspot
    refine ⟨b, off, rfl, by simpa [Addr.add] using cell_lt k0, fun j hj => ?_⟩
    rw [hlen] at hj
    obtain ⟨Ar, cp, h1, h3, h4⟩ := hf j hj
    rw [add_plain] at h1
    rw [hr j hj]
    exact ⟨Ar, cp, h1, h3, h4⟩

theorem info_row : (Try.prog.info? 25).map (fun i => (i.zero, i.size, i.bytes)) = some (some (.slice none 0 0), 1, 24) := by kernel_rfl
theorem make_rows (n : Nat) (hn : n ≤ 1099511627776) (w : World) : (Instr.makeSlice 42 (.int .i64 (n : Int)) (.int .i64 (n : Int))).run Try.prog w = .ok (.slice (some ⟨w.heap.size, 0, none⟩) n n) (w.alloc (.cells (madeCells #[.slice none 0 0] n) 25)) := by
  obtain ⟨i, hi, hz, hs, hby⟩ := info_parts info_row
  have := run_make (P := Try.prog) w 42 25 i (.slice none 0 0) Try.underlying42 hi hz .i64 .i64 (n : Int) (n : Int) (by omega) (by omega) (by rw [hby]; omega) (by omega)
  rw [hs] at this
  simpa [Value.cells] using this
/-- Rows copied so far: block G holds their slices, each row begins a block of its own behind it. -/
def RCop (G : Nat) (gs : Nat → Nat) (rows : List (List Int)) (k : Nat) (w : World) : Prop :=
  ∃ cells : Array Value, Blk w G 25 cells ∧ cells.size = rows.length ∧
    (∀ j, j < k → cells[j]? = some (.slice (some ⟨gs j, 0, none⟩) (rr rows j).length (rr rows j).length) ∧ Blk w (gs j) 2 (i64s (rr rows j)) ∧ G < gs j) ∧
    ∀ i j, i < j → j < k → gs i ≠ gs j
theorem RCop.rws {G : Nat} {gs : Nat → Nat} {rows : List (List Int)} {w : World} (h : RCop G gs rows rows.length w) (hl : ∀ j, j < rows.length → (rr rows j).length ≤ 1099511627776) : Rws w w.heap.size (some ⟨G, 0, none⟩) rows := fun hn => by
  obtain ⟨cells, hB, _, hc, _⟩ := h
  refine ⟨G, 0, rfl, hB.lt, fun j hj => ?_⟩
  obtain ⟨h1, h2, _⟩ := hc j hj
  exact ⟨_, _, by rw [Nat.zero_add, hB.cell j]; exact h1, h2.ints, hl j hj⟩
theorem RCop.keep {G lo hi : Nat} {gs : Nat → Nat} {rows : List (List Int)} {w w' : World} (h : RCop G gs rows rows.length w) (hG : lo ≤ G ∧ G < hi) (hgs : ∀ j, j < rows.length → gs j < hi) (hk : ∀ b, lo ≤ b → b < hi → w'.heap[b]? = w.heap[b]?) : RCop G gs rows rows.length w' := by
  obtain ⟨cells, hB, h1, hc, h2⟩ := h
  refine ⟨cells, (hk G hG.1 hG.2).trans hB, h1, fun j hj => ?_, h2⟩
  obtain ⟨c1, c2, c3⟩ := hc j hj
  exact ⟨c1, (hk _ (by omega) (hgs j hj)).trans c2, c3⟩
set_option maxRecDepth 100000 in
set_option maxHeartbeats 2000000 in
theorem toInt64SS_any (A : Option Addr) (c : Nat) (rows : List (List Int)) (w : World) (hB : Rws w w.heap.size A rows) (hl : rows.length ≤ 1099511627776) :
    Calls Try.prog 82 #[.slice A rows.length c] w fun e w' => ∃ gs, e = .returned (.slice (some ⟨w.heap.size, 0, none⟩) rows.length rows.length) ∧ RCop w.heap.size gs rows rows.length w' ∧ (∀ j, j < rows.length → gs j < w'.heap.size) ∧ Below w.heap.size w w' := by
  have hmk := make_rows rows.length hl w
  go_enter Try.func82, Try.ntmps82
  go_wp2
  go_loopw [4] (fun i wr => ∃ (k : Nat) (gs : Nat → Nat), k ≤ rows.length ∧ i = .int .i64 k ∧ RCop w.heap.size gs rows k wr ∧ Below w.heap.size w wr) (fun i _ => rows.length - (intOf i).toNat)
  case atStart => exact ⟨0, fun _ => 0, Nat.zero_le _, rfl, ⟨_, Blk.new w _ _, size_madeCells _ _, fun j hj => absurd hj (by omega), fun i j _ hj => absurd hj (by omega)⟩, (Below.refl _ _).alloc (Nat.le_refl _) _⟩
  case round =>
    obtain ⟨k, gs, hk, rfl, ⟨cells, hBk, hcs, hrows, hne⟩, hW⟩ := hrel
    have HC := Lib.hid hrows
    have HN := Lib.hid hne
    have HS := Lib.hid hcs
    clear hrows hne hcs hmk
    by_cases hlt : k < rows.length
    · obtain ⟨b, off, rfl, _, hc⟩ := hB.on hW (by omega)
      obtain ⟨Ar, cap, h1, h3, h4⟩ := hc k hlt
      clear hc
      go_wp2_with fail
      refine (toInt64S_any Ar cap (rr rows k) wr h3 h4).mono ?_
      rintro e w1 ⟨rfl, hRk, hb1, _⟩
      have hGl := hBk.lt
      have hB1 := hBk.below hb1 hGl
      have hs0 : k < cells.size := by rw [HS.out]; exact hlt
      have d0 : w1.cell? ⟨w.heap.size, k, none⟩ = some cells[k] := by rw [hB1.cell, Array.getElem?_eq_getElem hs0]
      have f0 := hB1.frozen k
      have hW1 : Below w.heap.size w w1 := hW.trans (hb1.mono hW.size)
      have hC2 : RCop w.heap.size (fun j => if j = k then wr.heap.size else gs j) rows (k + 1) (w1.setCell ⟨w.heap.size, k, none⟩ (.slice (some ⟨wr.heap.size, 0, none⟩) (rr rows k).length (rr rows k).length)) := by
        refine ⟨_, hB1.set_ k _, by simpa using HS.out, fun j hj => ?_, fun i j hij hj => ?_⟩
        · by_cases e : j = k
          · subst e
            simp only [if_true]
            refine ⟨by rw [Array.getElem?_setIfInBounds, if_pos rfl, if_pos hs0], hRk.far (p := ⟨w.heap.size, _, none⟩) (by simp; omega) _, hGl⟩
          · simp only [if_neg e]
            obtain ⟨r1, r2, r3⟩ := HC.out j (by omega)
            refine ⟨by rw [Array.getElem?_setIfInBounds, if_neg (Ne.symm e)]; exact r1, (r2.below hb1 r2.lt).far (p := ⟨w.heap.size, _, none⟩) (by simp; omega) _, r3⟩
        · by_cases e : j = k
          · subst e
            have hi : ¬ i = j := by omega
            simp only [if_neg hi, if_true]
            have := (HC.out i (by omega)).2.1.lt; omega
          · have hi : ¬ i = k := by omega
            simp only [if_neg hi, if_neg e]; exact HN.out i j hij (by omega)
      have hW2 : Below w.heap.size w (w1.setCell ⟨w.heap.size, k, none⟩ (.slice (some ⟨wr.heap.size, 0, none⟩) (rr rows k).length (rr rows k).length)) := hW1.setCell (p := ⟨w.heap.size, k, none⟩) (Nat.le_refl _) _
      have HC2 := Lib.hid hC2
      clear hC2 hB1 hBk hRk hW hb1 h1 h3 hW1
      go_wp2
      go_roundw
      case rel => exact ⟨k + 1, _, by omega, by go_num, HC2.out, hW2⟩
      case measure => simp [intOf]; omega
    · have hd : decide (k < rows.length) = false := by simpa using hlt
      have hkl : k = rows.length := by omega
      have HK := Lib.hid hkl
      clear hkl
      go_wp2
      go_ret
      have hk2 := HK.out
      subst hk2
      exact ⟨gs, rfl, ⟨cells, hBk, HS.out, HC.out, HN.out⟩, fun j hj => (HC.out j hj).2.1.lt, hW⟩

set_option maxRecDepth 100000 in
set_option maxHeartbeats 2000000 in
theorem szInt64SS_any (A : Option Addr) (c : Nat) (rows : List (List Int)) (w : World) (hB : RawRows w w.heap.size A rows) (hl : rows.length ≤ maxLen) :
    Calls Try.prog 80 #[.slice A rows.length c, .int .i64 1048576] w fun e w' => ∃ x, e = .returned (.int .i64 x) ∧ (0 ≤ x → rows.length ≤ 1048576 ∧ ∀ j, j < rows.length → (rr rows j).length ≤ 1048576) ∧ w = w' := by
  unfold maxLen at hl
  by_cases hbig : 1048576 < rows.length
  · go_enter Try.func80, Try.ntmps80
    go_wp2
    go_ret
    exact ⟨-1, rfl, fun h => absurd h (by omega), rfl⟩
  have hl2 : rows.length ≤ 1048576 := by omega
  clear hbig hl
  go_enter Try.func80, Try.ntmps80
  go_wp2
  go_loop [1, 5] (fun l i => ∃ (k : Nat) (x : Int), k ≤ rows.length ∧ i = .int .i64 k ∧ l = .int .i64 x ∧ 0 ≤ x ∧ x ≤ 1048576 ∧ (∀ j, j < k → (rr rows j).length ≤ 1048576)) (fun _ i => rows.length - (intOf i).toNat)
  case atStart => exact ⟨0, _, Nat.zero_le _, rfl, rfl, by omega, by omega, fun j hj => absurd hj (by omega)⟩
  case round =>
    obtain ⟨k, x, hk, rfl, rfl, hx0, hx1, hrows⟩ := hrel
    have HR := Lib.hid hrows
    clear hrows
    by_cases hlt : k < rows.length
    · obtain ⟨b, off, rfl, _, hc⟩ := hB (by omega)
      obtain ⟨Ar, cap, h1, h3, h4⟩ := hc k hlt
      clear hc
      go_wp2_with fail
      refine (szInt64S_any Ar (rr rows k).length cap x w h4 hx0 hx1).mono ?_
      rintro e w1 ⟨rfl, rfl⟩
      clear h1 h3
      by_cases hs : szI (rr rows k).length x < 0
      · rw [szI_no hs]
        clear hs
        go_wp2
        go_ret
        exact ⟨-1, rfl, fun h => absurd h (by omega), rfl⟩
      · have hle := szI_le (n := (rr rows k).length) (left := x) (by omega)
        have hs0 : 0 ≤ szI (rr rows k).length x := by omega
        generalize szI (rr rows k).length x = y at *
        go_wp2
        go_round
        case rel =>
          refine ⟨k + 1, y, by omega, by go_num, rfl, hs0, by omega, fun j hj => ?_⟩
          by_cases e : j = k
          · subst e; omega
          · exact HR.out j (by omega)
        case measure => simp [intOf]; omega
    · have hd : decide (k < rows.length) = false := by simpa using hlt
      go_wp2
      go_ret
      exact ⟨x, rfl, fun _ j hj => HR.out j (by omega), rfl⟩

theorem eqInt64S_yes (A A' : Option Addr) (c c' : Nat) (zs ys : List Int) (w : World) (B B' : Nat) (hI : Ints w B A zs) (hI' : Ints w B' A' ys) (hl : zs.length ≤ 1099511627776) (hl' : ys.length ≤ 1099511627776) (h : zs = ys) :
    Calls Try.prog 68 #[.slice A zs.length c, .slice A' ys.length c'] w fun e w' => e = .returned (.bool true) ∧ ∃ n, w' = w.drewN n := by rw [← decide_eq_true h]; exact eqInt64S_any A A' c c' zs ys w B B' hI hI' hl hl'
set_option maxRecDepth 100000 in
set_option maxHeartbeats 2000000 in
/-- The same rows, twice. -/
theorem eqInt64SS_same (A A' : Option Addr) (c c' : Nat) (rows : List (List Int)) (w : World) (hB : Rws w w.heap.size A rows) (hB' : Rws w w.heap.size A' rows) (hl : rows.length ≤ 1099511627776) :
    Calls Try.prog 84 #[.slice A rows.length c, .slice A' rows.length c'] w fun e w' => e = .returned (.bool true) ∧ ∃ n, w' = w.drewN n := by
  go_enter Try.func84, Try.ntmps84
  go_wp2
  go_loopw [5] (fun i wr => ∃ k : Nat, k ≤ rows.length ∧ i = .int .i64 k ∧ ∃ n, wr = w.drewN n) (fun i _ => rows.length - (intOf i).toNat)
  case atStart => exact ⟨0, Nat.zero_le _, rfl, 0, rfl⟩
  case round =>
    obtain ⟨k, hk, rfl, hW⟩ := hrel
    have hBr : Rws wr wr.heap.size A rows := by obtain ⟨n, rfl⟩ := hW; exact hB
    have hBr' : Rws wr wr.heap.size A' rows := by obtain ⟨n, rfl⟩ := hW; exact hB'
    have HW := Lib.hid hW
    clear hB hB' hW
    by_cases hlt : k < rows.length
    · obtain ⟨b, off, rfl, _, hc⟩ := hBr (by omega)
      obtain ⟨b', off', rfl, _, hc'⟩ := hBr' (by omega)
      obtain ⟨Ar, cap, h1, h3, h4⟩ := hc k hlt
      obtain ⟨Ar', cap', h1', h3', h4'⟩ := hc' k hlt
      clear hc hc'
      go_wp2_with fail
      go_quiet (first | (go_at_call 68; exact Calls.quiet_of (eqInt64S_yes Ar Ar' cap cap' (rr rows k) (rr rows k) _ _ _ (by exact h3) (by exact h3') h4 h4' rfl)))
      go_wp2
      go_roundw
      case rel => exact ⟨k + 1, by omega, by go_num, drew_more HW.out _⟩
      case measure => simp [intOf]; omega
    · have hd : decide (k < rows.length) = false := by simpa using hlt
      go_wp2
      go_ret
      exact ⟨rfl, HW.out⟩

set_option maxRecDepth 100000 in
set_option maxHeartbeats 2000000 in
theorem markInt64SS_any (lo hi G c : Nat) (gs : Nat → Nat) (rows : List (List Int)) (w : World) (hC : RCop G gs rows rows.length w) (hG : lo ≤ G ∧ G < hi) (hgs : ∀ j, j < rows.length → gs j < hi) (hl : rows.length ≤ 1048576) (hm : ∀ j, j < rows.length → (rr rows j).length ≤ 1048576) :
    Calls Try.prog 85 #[.slice (some ⟨G, 0, none⟩) rows.length c, .int .i64 1] w fun e w' => ∃ x, e = .returned (.int .i64 x) ∧ 0 ≤ x ∧ Within lo hi w w' := by
  obtain ⟨cells, hBk, hcs, hrows, hne⟩ := hC
  have HC := Lib.hid hrows
  have HN := Lib.hid hne
  have HM := Lib.hid hm
  have HG := Lib.hid hgs
  clear hrows hne hcs hm hgs
  go_enter Try.func85, Try.ntmps85
  go_wp2
  go_loopw [1, 5] (fun q s wr => ∃ (i : Nat) (x : Int), i ≤ rows.length ∧ s = .int .i64 i ∧ q = .int .i64 x ∧ 0 ≤ x ∧ x ≤ 1 + (i : Int) * 1048576 ∧ Blk wr G 25 cells ∧ (∀ j, i ≤ j → j < rows.length → Blk wr (gs j) 2 (i64s (rr rows j))) ∧ Within lo hi w wr) (fun _ s _ => rows.length - (intOf s).toNat)
  case atStart => exact ⟨0, 1, Nat.zero_le _, rfl, rfl, by omega, by omega, hBk, fun j _ hj => (HC.out j hj).2.1, Within.refl _ _ _⟩
  case round =>
    obtain ⟨i, x, hi, rfl, rfl, hx0, hx1, hBr, hrr, hW⟩ := hrel
    have HRR := Lib.hid hrr
    clear hrr hBk
    by_cases hlt : i < rows.length
    · obtain ⟨c1, _, c3⟩ := HC.out i hlt
      have hc : wr.cell? ⟨G, i, none⟩ = some (.slice (some ⟨gs i, 0, none⟩) (rr rows i).length (rr rows i).length) := by rw [hBr.cell i]; exact c1
      have hR : Row wr 2 (some ⟨gs i, 0, none⟩) (rr rows i) (gs i) := Row.of_blk (HRR.out i (Nat.le_refl _) hlt)
      have hml := HM.out i hlt
      have hgi := HG.out i hlt
      clear c1
      go_wp2_with fail
      refine (markInt64S_any (some ⟨gs i, 0, none⟩) _ (gs i) (rr rows i) x wr hR (by omega) hx0 (by omega)).mono ?_
      rintro e w1 ⟨rfl, _, hg1⟩
      have hB1 := hBr.grown hg1 (fun e => by have := Option.some.inj e; omega)
      have hW1 := hW.trans (Within.of_grown hg1 (.inl ⟨by omega, hgi⟩))
      have HR1 := Lib.hid (show ∀ j, i + 1 ≤ j → j < rows.length → Blk w1 (gs j) 2 (i64s (rr rows j)) from fun j h1 h2 => (HRR.out j (by omega) h2).grown hg1 (fun e => HN.out i j (by omega) h2 (Option.some.inj e).symm))
      clear hc hR hg1 hBr hW
      go_wp2
      go_roundw
      case rel => exact ⟨i + 1, _, by omega, by go_num, rfl, by omega, by omega, hB1, HR1.out, hW1⟩
      case measure => simp [intOf]; omega
    · have hd : decide (i < rows.length) = false := by simpa using hlt
      go_wp2
      go_ret
      exact ⟨x, rfl, hx0, hW⟩
end Go.Proofs.Ytoncfodlffofdaa
