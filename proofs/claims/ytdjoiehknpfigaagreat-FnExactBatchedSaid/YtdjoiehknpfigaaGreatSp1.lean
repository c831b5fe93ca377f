/- The model's l6Put; nothing that lay has turned. -/
import Derived.Test.YtdjoiehknpfigaaGreatSp0
import Derived.Test.YtdjoiehknpfigaaGreatTab7
import Derived.Test.YtdjoiehknpfigaaGreatQuietB
namespace Go.Proofs.YtdjoiehknpfigaaGreat
open Go.RowKit

theorem ORows.keepT {w w' : World} {lo g : Nat} {v : Value} {es : List Ent} {cs : Array Value} {fr : Nat × Nat} (h : ORows w lo v es) (hB : w.heap[g]? = some (.cells cs 55 fr)) (hk : ∀ b, b < w.heap.size → b ≠ g → w'.heap[b]? = w.heap[b]?) : ORows w' lo v es := by
  refine ⟨own_keepB h.1 fun b hb => hk b (h.1.lt b hb).2 (fun e => ?_), h.2.keepB fun e he hn => hk _ (h.2.lt e he hn) (fun e1 => ?_)⟩
  · subst e
    rcases h.1.2 with ⟨rfl, _⟩ | ⟨g', cap, cur, rfl, _, hh, _⟩
    · cases hb
    · have e2 : g' = b := Option.some.inj hb
      subst e2
      rw [hh] at hB
      injection hB with hB
      injection hB with _ h2 _
      exact tab_ne.1 h2.symm
  · obtain ⟨_, cur, hc, _⟩ := (h.2.1 e he).1 hn
    rw [e1, hB] at hc
    injection hc with hc
    injection hc with _ h2 _
    exact tab_ne.2 h2
theorem heap_set3 (w : World) (g : Nat) (i j k : Nat) (a b c : Value) (q : Nat) (h : q ≠ g) : (((w.setCell ⟨g, i, none⟩ a).setCell ⟨g, j, none⟩ b).setCell ⟨g, k, none⟩ c).heap[q]? = w.heap[q]? := by
  rw [Below.heap_setCell _ _ _ _ h, Below.heap_setCell _ _ _ _ h, Below.heap_setCell _ _ _ _ h]
theorem ORows.set3 {w : World} {lo g : Nat} {v : Value} {es : List Ent} {cs : Array Value} (h : ORows w lo v es) (hB : Blk w g 55 cs) (i j k : Nat) (a b c : Value) : ORows (((w.setCell ⟨g, i, none⟩ a).setCell ⟨g, j, none⟩ b).setCell ⟨g, k, none⟩ c) lo v es := h.keepT hB fun q _ hq => heap_set3 w g i j k a b c q hq
def PutAns (lo : Nat) (nm : ByteArray) (wd : Int) (P : TB × Int) (w : World) (e : Ending) (w' : World) : Prop :=
  ∃ u es, e = .returned (.tuple #[.agg #[.string nm, .int .i64 wd, u], .int .i64 P.2]) ∧ ORows w' lo u es ∧ es.map Ent.r = P.1.rows ∧ Below w.heap.size w w'
theorem set3_belT {w w1 : World} {g : Nat} (h : Below w.heap.size w w1) (hg : w.heap.size ≤ g) (i j k : Nat) (a b c : Value) : Below w.heap.size w (((w1.setCell ⟨g, i, none⟩ a).setCell ⟨g, j, none⟩ b).setCell ⟨g, k, none⟩ c) :=
  ((h.setCell (p := ⟨g, i, none⟩) hg a).setCell (p := ⟨g, j, none⟩) hg b).setCell (p := ⟨g, k, none⟩) hg c
theorem findK_yes {rows : List (List Int)} {q : Int} (h : idxK rows q < rows.length) : findK rows q = (idxK rows q : Int) := if_pos h
theorem findK_no {rows : List (List Int)} {q : Int} (h : ¬ idxK rows q < rows.length) : findK rows q = -1 := if_neg h
set_option maxRecDepth 100000 in
set_option maxHeartbeats 4000000 in
theorem l6Put_any (lo : Nat) (nm : ByteArray) (wd : Int) (rows : List (List Int)) (Au : Option Addr) (cu : Nat) (es : List Ent) (Az : Option Addr) (cz : Nat) (z : List Int) (w : World) (hlo : lo ≤ w.heap.size) (hO : ORows w lo (.slice Au rows.length cu) es) (he : es.map Ent.r = rows) (hok : tabB nm wd rows = true) (hr : ∀ j, j < rows.length → (rr rows j).length ≤ 1048576) (hn : nm.size ≤ 1048576) (hI : Ints w w.heap.size Az z) (hz0 : 0 < z.length) (hz : z.length ≤ 1048576) :
    Calls Tryz.prog 47 #[.agg #[.string nm, .int .i64 wd, .slice Au rows.length cu], .slice Az z.length cz] w (PutAns lo nm wd (putT ⟨nm, wd, rows⟩ z) w) := by
  obtain ⟨P, hP⟩ : ∃ P, putT ⟨nm, wd, rows⟩ z = P := ⟨_, rfl⟩
  have HPQ := Lib.hid hP
  rw [hP]
  have hl30 := tab_len hok
  have HPOS := Lib.hid (tab_pos hok)
  have HOK := Lib.hid hok
  have HE := Lib.hid he
  have HR := Lib.hid (show ∀ j, j < rows.length → (rr rows j).length ≤ 1099511627776 from fun j hj => by have := hr j hj; omega)
  have bc := bel_two (w := w) (.cells #[.string nm, .int .i64 wd, .slice Au rows.length cu] 55) (.cells #[.string ⟨#[]⟩, .int .i64 0, .slice none 0 0] 55)
  have BG := (Blk.new w 55 #[.string nm, .int .i64 wd, .slice Au rows.length cu]).alloc (.cells #[.string ⟨#[]⟩, .int .i64 0, .slice none 0 0] 55)
  have BR := Blk.new (w.alloc (.cells #[.string nm, .int .i64 wd, .slice Au rows.length cu] 55)) 55 #[.string ⟨#[]⟩, .int .i64 0, .slice none 0 0]
  have e2 : (w.alloc (.cells #[.string nm, .int .i64 wd, .slice Au rows.length cu] 55)).heap.size = w.heap.size + 1 := by simp
  rw [e2] at BR
  have hOb := hO.on bc
  have hIb := hI.on bc
  have hzi : (0 : Int) < (z.length : Int) := by omega
  clear hO hI he hok hP e2 hr
  obtain ⟨bz, oz, rfl, hbz, cz0⟩ := hIb.first hz0
  go_enter Tryz.func47, Tryz.ntmps47
  go_wp2_with fail
  generalize (w.alloc (.cells #[.string nm, .int .i64 wd, .slice Au rows.length cu] 55)).alloc (.cells #[.string ⟨#[]⟩, .int .i64 0, .slice none 0 0] 55) = wb at *
  refine (specPlaced_any nm wd Au (some ⟨bz, oz, none⟩) cu cz rows z wb (hOb.rwsW HE.out HR.out) hIb (by omega) (by omega) (by omega)).mono ?_
  rintro e w1 ⟨v1, rfl, hT1, hb1⟩
  rw [HOK.out, show tkS nm true = nm from rfl, show tkW wd true = wd from rfl, show ∀ R, tkR R true = R from fun _ => rfl] at hT1
  obtain ⟨u1, es1, rfl, hO1, he1⟩ := hT1
  obtain ⟨Ax, cx, rfl⟩ := hO1.form
  have b2 := (Below.refl w1.heap.size w1).alloc (Nat.le_refl _) (.cells #[.string nm, .int .i64 wd, .slice Ax es1.length cx] 55)
  have BX := Blk.new w1 55 #[.string nm, .int .i64 wd, .slice Ax es1.length cx]
  have bb := bel_step hb1 b2
  have BG2 := BG.on bb
  have BR2 := BR.on bb
  have hO2 := hOb.on bb
  have hI2 := hIb.on bb
  have hW2 := bel_step bc bb
  have hO12 : ORows _ lo _ es1 := (hO1.on b2).lower (by have := bc.size; omega)
  clear cz0
  obtain ⟨g0, g1, g2⟩ := BG2.c3
  obtain ⟨r0, r1, r2⟩ := BR2.c3
  obtain ⟨x0, x1, x2⟩ := BX.c3
  have fr0 := BR2.frozen 0
  have fr1 := BR2.frozen 1
  have fr2 := BR2.frozen 2
  have HE1 := Lib.hid he1
  clear BG BR hOb hIb bc hb1 b2 bb hO1 he1
  cases hpl : plB nm wd rows z with
  | true =>
    have HPE := Lib.hid (show P = (⟨nm, wd, placedL rows z⟩, 0) by rw [← HPQ.out]; unfold putT; rw [if_pos hpl])
    have HE3 := Lib.hid (show es1.map Ent.r = placedL rows z by rw [HE1.out, hpl]; rfl)
    clear hpl
    go_wp2
    refine bodyPost_ret (v := .tuple #[.agg #[.string nm, .int .i64 wd, .slice Ax es1.length cx], .int .i64 0]) (by simp [results, Tryz.f47, go_sem, *]) rfl ?_
    rw [HPE.out]
    exact ⟨_, es1, rfl, hO12.set3 BR2 0 1 2 _ _ _, HE3.out, set3_belT hW2 (by omega) 0 1 2 _ _ _⟩
  | false =>
    have HPL := Lib.hid hpl
    clear hpl x0 x1 x2 r0 r1 r2 fr0 fr1 fr2 BX hO12 HE1
    go_wp2_with fail
    generalize w1.alloc (.cells #[.string nm, .int .i64 wd, .slice Ax es1.length cx] 55) = wx at *
    obtain ⟨bz', oz', ebz, hbz2, cz1⟩ := hI2.first hz0
    injection ebz with ebz
    injection ebz with eb1 eb2 _
    subst eb1 eb2
    have HC := Lib.hid (show ∀ p : BelW wx, Calls Tryz.prog 62 #[.agg #[.string nm, .int .i64 wd, .slice Au rows.length cu], .int .i64 (ky z)] p.v fun e w' => e = .returned (.int .i64 (findK rows (ky z))) ∧ Below p.v.heap.size p.v w' from fun p => l4Find_any nm wd Au cu rows (ky z) p.v ((hO2.on p.bel).rwsW HE.out HR.out) (by omega) HPOS.out)
    have hgl := BG2.lt
    have b0 := cell_bel hgl g0
    have b1 := cell_bel hgl g1
    have b2 := cell_bel hgl g2
    have b3 := cell_bel hbz2 cz1
    clear g0 g1 g2 cz1
    refine wp_quiet_bel (by kernel_rfl) (by kernel_rfl) ?_
    repeat (go_big_quiet_step (first | (go_at_call 62; exact bel_of (HC.out _))))
    refine wpQuiet_nil ?_
    rintro w4 ⟨⟨_, hk4⟩, rfl⟩
    have BG4 := BG2.on hk4
    have BR4 := BR2.on hk4
    have hO4 := hO2.on hk4
    have hI4 := hI2.on hk4
    have hW4 := bel_step hW2 hk4
    obtain ⟨g0, g1, g2⟩ := BG4.c3
    obtain ⟨r0, r1, r2⟩ := BR4.c3
    have fr0 := BR4.frozen 0
    have fr1 := BR4.frozen 1
    have fr2 := BR4.frozen 2
    clear b0 b1 b2 b3 HC BG2 BR2 hO2 hI2 hW2 hk4 hbz2 hgl
    by_cases hi : idxK rows (ky z) < rows.length
    · rw [findK_yes hi]
      have HPE := Lib.hid (show P = (⟨nm, wd, rows⟩, 2) by rw [← HPQ.out]; unfold putT; rw [if_neg (by rw [HPL.out]; simp), if_pos hi])
      generalize idxK rows (ky z) = ik at *
      have hik : decide ((0 : Int) ≤ (ik : Int)) = true := by simp
      clear hi
      go_wp2
      refine bodyPost_ret (v := .tuple #[.agg #[.string nm, .int .i64 wd, .slice Au rows.length cu], .int .i64 2]) (by simp [results, Tryz.f47, go_sem, *]) rfl ?_
      rw [HPE.out]
      exact ⟨_, es, rfl, hO4.set3 BR4 0 1 2 _ _ _, HE.out, set3_belT hW4 (by omega) 0 1 2 _ _ _⟩
    · rw [findK_no hi]
      have HI := Lib.hid hi
      clear hi
      go_wp2_with fail
      cases hfit : rowFit wd z with
      | false =>
        refine (l4Row_no (some ⟨bz, oz, none⟩) cz z wd w4 w4.heap.size hI4 (by omega) hfit).mono ?_
        rintro e w5 ⟨rfl, hw5⟩
        subst hw5
        have HPE := Lib.hid (show P = (⟨nm, wd, rows⟩, 4) by rw [← HPQ.out]; unfold putT; rw [if_neg (by rw [HPL.out]; simp), if_neg HI.out, if_pos hfit])
        clear hfit
        go_wp2
        refine bodyPost_ret (v := .tuple #[.agg #[.string nm, .int .i64 wd, .slice Au rows.length cu], .int .i64 4]) (by simp [results, Tryz.f47, go_sem, *]) rfl ?_
        rw [HPE.out]
        exact ⟨_, es, rfl, hO4.set3 BR4 0 1 2 _ _ _, HE.out, set3_belT hW4 (by omega) 0 1 2 _ _ _⟩
      | true =>
        refine (l4Row_yes (some ⟨bz, oz, none⟩) cz z wd w4 w4.heap.size hI4 (by omega) hfit).mono ?_
        rintro e w5 ⟨rfl, hw5⟩
        subst hw5
        have HPE := Lib.hid (show P = (⟨nm, wd, rows⟩, 5) by rw [← HPQ.out]; unfold putT; rw [if_neg (by rw [HPL.out]; simp), if_neg HI.out, if_neg (by rw [hfit]; simp)])
        clear hfit
        go_wp2
        refine bodyPost_ret (v := .tuple #[.agg #[.string nm, .int .i64 wd, .slice Au rows.length cu], .int .i64 5]) (by simp [results, Tryz.f47, go_sem, *]) rfl ?_
        rw [HPE.out]
        exact ⟨_, es, rfl, hO4.set3 BR4 0 1 2 _ _ _, HE.out, set3_belT hW4 (by omega) 0 1 2 _ _ _⟩
end Go.Proofs.YtdjoiehknpfigaaGreat
