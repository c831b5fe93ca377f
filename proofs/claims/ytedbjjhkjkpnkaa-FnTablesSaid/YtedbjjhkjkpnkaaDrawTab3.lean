/- Contracts of the drawing of tables with a key, two numbers or a row (DrawRowAt, DrawTaken, DrawBagIn, DrawPlaced): new memory; nothing that lay has turned. The laws' likeTable of two tables alike. -/
import Derived.Test.YtedbjjhkjkpnkaaDrawTab2
import Derived.Test.YtedbjjhkjkpnkaaLike1
namespace Go.Proofs.Ytedbjjhkjkpnkaa
open Go.RowKit

theorem ORows.capw {w : World} {lo n cap : Nat} {A : Option Addr} {es : List Ent} (h : ORows w lo (.slice A n cap) es) : es.length ≤ cap := by
  rcases h.1.2 with ⟨hv, h0⟩ | ⟨g, cap', cur, hv, _, _, h4, _⟩
  · omega
  · injection hv with _ _ h3
    omega
/-- A table that was drawn. -/
def DrT (w' : World) (s : ByteArray) (A : Option Addr) (rows : List (List Int)) (cap : Nat) : Prop :=
  Rws w' w'.heap.size A rows ∧ rows.length ≤ 31 ∧ (∀ j, j < rows.length → (rr rows j).length ≤ 1000) ∧ s.size ≤ 7 ∧ rows.length ≤ cap
theorem DrT.on {w w' : World} {s : ByteArray} {A : Option Addr} {rows : List (List Int)} {cap : Nat} (h : DrT w s A rows cap) (hb : Below w.heap.size w w') : DrT w' s A rows cap := ⟨h.1.on hb, h.2⟩
theorem DrT.of {w' : World} {lo : Nat} {s : ByteArray} {A : Option Addr} {cap : Nat} {es : List Ent} (hO : ORows w' lo (.slice A es.length cap) es) (hl : es.length ≤ 31) (hr : ∀ e ∈ es, e.r.length ≤ 1000) (hs : s.size ≤ 7) : DrT w' s A (es.map Ent.r) cap := by
  refine ⟨hO.rws (fun e he => by have := hr e he; omega), by rw [List.length_map]; exact hl, fun j hj => ?_, hs, by rw [List.length_map]; exact hO.capw⟩
  rw [List.length_map] at hj
  rw [rr_map hj]
  exact hr _ (List.getElem_mem hj)
def DrTK (w : World) (e : Ending) (w' : World) : Prop :=
  ∃ (s : ByteArray) (wd : Int) (A : Option Addr) (cap : Nat) (es : List Ent) (q : Int), e = .returned (.tuple #[.agg #[.string s, .int .i64 wd, .slice A es.length cap], .int .i64 q]) ∧ ORows w' w.heap.size (.slice A es.length cap) es ∧ es.length ≤ 31 ∧ (∀ e ∈ es, e.r.length ≤ 1000) ∧ s.size ≤ 7 ∧ -1000 ≤ q ∧ q ≤ 1000 ∧ Below w.heap.size w w'
set_option maxRecDepth 100000 in
set_option maxHeartbeats 4000000 in
theorem drawRowAt_any (A : Option Addr) (cap : Nat) (zs : List Int) (w : World) (hU : U8s w w.heap.size A zs) (hl : zs.length ≤ 1048576) :
    Calls Try.prog 26 #[.slice A zs.length cap] w (DrTK w) := by
  have b0 := (Below.refl w.heap.size w).alloc (Nat.le_refl _) (.cells #[.string ⟨#[]⟩, .int .i64 0, .slice none 0 0] 28)
  have BR0 := Blk.new w 28 #[.string ⟨#[]⟩, .int .i64 0, .slice none 0 0]
  have hU0 : U8s (w.alloc (.cells #[.string ⟨#[]⟩, .int .i64 0, .slice none 0 0] 28)) (w.alloc (.cells #[.string ⟨#[]⟩, .int .i64 0, .slice none 0 0] 28)).heap.size A zs := hU.on b0
  go_enter Try.func26, Try.ntmps26
  go_wp2_with fail
  generalize w.alloc (.cells #[.string ⟨#[]⟩, .int .i64 0, .slice none 0 0] 28) = w0 at *
  refine (l1New_any A cap zs w0 hU0 hl).mono ?_
  rintro e w1 ⟨rfl, hC1, hb1⟩
  have BR1 := BR0.on hb1
  have hW1 := bel_step b0 hb1
  have hc0 : w.heap.size ≤ w0.heap.size := b0.size
  have hcl : w.heap.size < w0.heap.size := BR0.lt
  clear b0 hb1 BR0 hU0
  generalize w0.heap.size = c at *
  go_wp2_with fail
  refine (l4DrawAny_any c w1 hC1).mono ?_
  rintro e w2 ⟨s, wd, A2, cap2, es, rfl, hO2, hel, hes, hss, hw0, hw1, hC2, hg2⟩
  have HES := Lib.hid hes
  have BR2 := BR1.grown hg2 (fun e => by have e' : w.heap.size = c := Option.some.inj e; omega)
  have hW2 := hW1.grown hg2 hW1.size (fun k e => by have e' : c = k := Option.some.inj e; omega)
  have b2 := (Below.refl w2.heap.size w2).alloc (Nat.le_refl _) (.cells #[.string s, .int .i64 wd, .slice A2 es.length cap2] 28)
  have BT3 := Blk.new w2 28 #[.string s, .int .i64 wd, .slice A2 es.length cap2]
  have BR3 := BR2.on b2
  have hO3 := hO2.on b2
  have hC3 := hC2.below b2
  have hW3 := bel_step hW2 b2
  have hs1 : w.heap.size < w1.heap.size := BR1.lt
  have hcw : c < w1.heap.size := hC1.lt
  have hs2 : w1.heap.size ≤ w2.heap.size := hg2.size
  obtain ⟨t0, t1, t2⟩ := BT3.c3
  obtain ⟨s0, s1, s2⟩ := BR3.c3
  have fs0 := BR3.frozen 0
  have fs1 := BR3.frozen 1
  have fs2 := BR3.frozen 2
  clear hes hC1 hW1 BR1 hg2 BR2 hO2 hC2 hW2 b2
  go_wp2_with fail
  generalize w2.alloc (.cells #[.string s, .int .i64 wd, .slice A2 es.length cap2] 28) = w3 at *
  generalize hTT : w2.heap.size = T at *
  clear hTT
  have HX := Lib.hid (And.intro BT3 (And.intro BR3 hO3))
  go_region_law (first | (go_simp; refine (l1Below_any c 10 _ (by exact hC3) (by omega) (by omega)).mono ?_; rintro e w4 ⟨x, rfl, hx0, hx1, _, hC4, hg4⟩; have hx10 := hx1 (by omega); have hwx : IntKind.i64.wrap (x - 1) = x - 1 := (by rw [IntKind.wrap_i64]; omega); have hg4' : w3.grownBy w4 (some c) := grown_trans (grown_drewN w3 1 _) hg4; have BT4 := HX.out.1.grown hg4' (fun e => by have e' : T = c := Option.some.inj e; omega); have BR4 := HX.out.2.1.grown hg4' (fun e => by have e' : w.heap.size = c := Option.some.inj e; omega); obtain ⟨p0, p1, p2⟩ := BT4.c3; obtain ⟨r0, r1, r2⟩ := BR4.c3; have fr0 := BR4.frozen 0; have fr1 := BR4.frozen 1; have fr2 := BR4.frozen 2))
  all_goals
    have hO4 := HX.out.2.2.grownC hg4' (by omega)
    have hgs := set3_grown w4 w.heap.size (.string s) (.int .i64 wd) (.slice A2 es.length cap2)
    have hO5 := hO4.grownC hgs (by omega)
    have hW4 := hW3.grown hg4' hW3.size (fun k e => by have e' : c = k := Option.some.inj e; omega)
    have hW5 := hW4.grown hgs hW4.size (fun k e => by have e' : w.heap.size = k := Option.some.inj e; omega)
    go_wp2
    refine bodyPost_ret (v := .tuple #[.agg #[.string s, .int .i64 wd, .slice A2 es.length cap2], .int .i64 (x - 1)]) (by simp [results, Try.f26, go_sem, *]) rfl ?_
    exact ⟨s, wd, A2, cap2, es, x - 1, rfl, hO5.lower (by omega), hel, HES.out, hss, by omega, by omega, hW5⟩
def DrTF (w : World) (e : Ending) (w' : World) : Prop :=
  ∃ (s : ByteArray) (wd : Int) (A : Option Addr) (rows : List (List Int)) (cap : Nat) (f t : Int), e = .returned (.tuple #[.agg #[.string s, .int .i64 wd, .slice A rows.length cap], .int .i64 f, .int .i64 t]) ∧ DrT w' s A rows cap ∧ -1000 ≤ f ∧ f ≤ 1000 ∧ -1000 ≤ t ∧ t ≤ 1000 ∧ Below w.heap.size w w'
set_option maxRecDepth 100000 in
set_option maxHeartbeats 4000000 in
theorem drawBagIn_any (A : Option Addr) (cap : Nat) (zs : List Int) (w : World) (hU : U8s w w.heap.size A zs) (hl : zs.length ≤ 1048576) :
    Calls Try.prog 28 #[.slice A zs.length cap] w (DrTF w) := by
  have b0 := (Below.refl w.heap.size w).alloc (Nat.le_refl _) (.cells #[.string ⟨#[]⟩, .int .i64 0, .slice none 0 0] 28)
  have BR0 := Blk.new w 28 #[.string ⟨#[]⟩, .int .i64 0, .slice none 0 0]
  have hU0 : U8s (w.alloc (.cells #[.string ⟨#[]⟩, .int .i64 0, .slice none 0 0] 28)) (w.alloc (.cells #[.string ⟨#[]⟩, .int .i64 0, .slice none 0 0] 28)).heap.size A zs := hU.on b0
  go_enter Try.func28, Try.ntmps28
  go_wp2_with fail
  generalize w.alloc (.cells #[.string ⟨#[]⟩, .int .i64 0, .slice none 0 0] 28) = w0 at *
  refine (l1New_any A cap zs w0 hU0 hl).mono ?_
  rintro e w1 ⟨rfl, hC1, hb1⟩
  have BR1 := BR0.on hb1
  have hW1 := bel_step b0 hb1
  have hc0 : w.heap.size ≤ w0.heap.size := b0.size
  have hcl : w.heap.size < w0.heap.size := BR0.lt
  clear b0 hb1 BR0 hU0
  generalize w0.heap.size = c at *
  go_wp2_with fail
  refine (l4DrawAny_any c w1 hC1).mono ?_
  rintro e w2 ⟨s, wd, A2, cap2, es, rfl, hO2, hel, hes, hss, hw0, hw1, hC2, hg2⟩
  have HES := Lib.hid hes
  have BR2 := BR1.grown hg2 (fun e => by have e' : w.heap.size = c := Option.some.inj e; omega)
  have hW2 := hW1.grown hg2 hW1.size (fun k e => by have e' : c = k := Option.some.inj e; omega)
  have b2 := (Below.refl w2.heap.size w2).alloc (Nat.le_refl _) (.cells #[.string s, .int .i64 wd, .slice A2 es.length cap2] 28)
  have BT3 := Blk.new w2 28 #[.string s, .int .i64 wd, .slice A2 es.length cap2]
  have BR3 := BR2.on b2
  have hO3 := hO2.on b2
  have hC3 := hC2.below b2
  have hW3 := bel_step hW2 b2
  have hs1 : w.heap.size < w1.heap.size := BR1.lt
  have hcw : c < w1.heap.size := hC1.lt
  have hs2 : w1.heap.size ≤ w2.heap.size := hg2.size
  obtain ⟨t0, t1, t2⟩ := BT3.c3
  obtain ⟨s0, s1, s2⟩ := BR3.c3
  have fs0 := BR3.frozen 0
  have fs1 := BR3.frozen 1
  have fs2 := BR3.frozen 2
  clear hes hC1 hW1 BR1 hg2 BR2 hO2 hC2 hW2 b2
  go_wp2_with fail
  generalize w2.alloc (.cells #[.string s, .int .i64 wd, .slice A2 es.length cap2] 28) = w3 at *
  generalize hTT : w2.heap.size = T at *
  clear hTT
  clear t0 t1 t2 s0 s1 s2 fs0 fs1 fs2
  refine (l1From_any c (-3) 8 w3 hC3 (by omega) (by omega) (by omega)).mono ?_
  rintro e wf ⟨f, rfl, hf0, hf1, hCf, hgf⟩
  replace BT3 := BT3.grown hgf (fun e => by have e' : T = c := Option.some.inj e; omega)
  replace BR3 := BR3.grown hgf (fun e => by have e' : w.heap.size = c := Option.some.inj e; omega)
  replace hO3 := hO3.grownC hgf (by omega)
  replace hW3 := hW3.grown hgf hW3.size (fun k e => by have e' : c = k := Option.some.inj e; omega)
  clear hC3 hgf
  obtain ⟨t0, t1, t2⟩ := BT3.c3
  obtain ⟨s0, s1, s2⟩ := BR3.c3
  have fs0 := BR3.frozen 0
  have fs1 := BR3.frozen 1
  have fs2 := BR3.frozen 2
  have HX := Lib.hid (And.intro BT3 (And.intro BR3 hO3))
  go_wp2_with fail
  go_region_law (first | (go_simp; refine (l1From_any c (-1) 6 _ (by exact hCf) (by omega) (by omega) (by omega)).mono ?_; rintro e w4 ⟨x, rfl, hx0, hx1, hC4, hg4⟩; have hwx : IntKind.i64.wrap (f + x) = f + x := (by rw [IntKind.wrap_i64]; omega); have hg4' : wf.grownBy w4 (some c) := grown_trans (grown_drewN wf 1 _) hg4; have BT4 := HX.out.1.grown hg4' (fun e => by have e' : T = c := Option.some.inj e; omega); have BR4 := HX.out.2.1.grown hg4' (fun e => by have e' : w.heap.size = c := Option.some.inj e; omega); obtain ⟨p0, p1, p2⟩ := BT4.c3; obtain ⟨r0, r1, r2⟩ := BR4.c3; have fr0 := BR4.frozen 0; have fr1 := BR4.frozen 1; have fr2 := BR4.frozen 2))
  all_goals
    have hO4 := HX.out.2.2.grownC hg4' (by omega)
    have hgs := set3_grown w4 w.heap.size (.string s) (.int .i64 wd) (.slice A2 es.length cap2)
    have hO5 := hO4.grownC hgs (by omega)
    have hW4 := hW3.grown hg4' hW3.size (fun k e => by have e' : c = k := Option.some.inj e; omega)
    have hW5 := hW4.grown hgs hW4.size (fun k e => by have e' : w.heap.size = k := Option.some.inj e; omega)
    go_wp2
    refine bodyPost_ret (v := .tuple #[.agg #[.string s, .int .i64 wd, .slice A2 es.length cap2], .int .i64 f, .int .i64 (f + x)]) (by simp [results, Try.f28, go_sem, *]) rfl ?_
    exact ⟨s, wd, A2, es.map Ent.r, cap2, f, f + x, by rw [List.length_map], DrT.of hO5 hel HES.out hss, by omega, by omega, by omega, by omega, hW5⟩
set_option maxRecDepth 100000 in
set_option maxHeartbeats 4000000 in
theorem drawTaken_any (A : Option Addr) (cap : Nat) (zs : List Int) (w : World) (hU : U8s w w.heap.size A zs) (hl : zs.length ≤ 1048576) :
    Calls Try.prog 24 #[.slice A zs.length cap] w (DrTK w) := by
  have b0 := (Below.refl w.heap.size w).alloc (Nat.le_refl _) (.cells #[.string ⟨#[]⟩, .int .i64 0, .slice none 0 0] 28)
  have BR0 := Blk.new w 28 #[.string ⟨#[]⟩, .int .i64 0, .slice none 0 0]
  have hU0 := hU.on b0
  go_enter Try.func24, Try.ntmps24
  go_wp2_with fail
  generalize w.alloc (.cells #[.string ⟨#[]⟩, .int .i64 0, .slice none 0 0] 28) = w0 at *
  have hR0 := BR0.lt
  refine (drawRowAt_any A cap zs w0 hU0 hl).mono ?_
  rintro e w1 ⟨s, wd, A1, cap1, es, q, rfl, hO1, hel, hes, hss, hq0, hq1, hb1⟩
  have HES := Lib.hid hes
  have BR1 := BR0.on hb1
  have hW1 := bel_step b0 hb1
  obtain ⟨s0, s1, s2⟩ := BR1.c3
  have fs0 := BR1.frozen 0
  have fs1 := BR1.frozen 1
  have fs2 := BR1.frozen 2
  have hgs := set3_grown w1 w.heap.size (.string s) (.int .i64 wd) (.slice A1 es.length cap1)
  have hO2 := hO1.grownC hgs hR0
  have hW2 := hW1.grown hgs hW1.size (fun k e => by have e' : w.heap.size = k := Option.some.inj e; omega)
  clear hes BR1 hW1 hb1 hO1 BR0 b0 hU0 hgs
  go_wp2
  refine bodyPost_ret (v := .tuple #[.agg #[.string s, .int .i64 wd, .slice A1 es.length cap1], .int .i64 q]) (by simp [results, Try.f24, go_sem, *]) rfl ?_
  exact ⟨s, wd, A1, cap1, es, q, rfl, hO2.lower (by omega), hel, HES.out, hss, hq0, hq1, hW2⟩
/-- A table and a row that were drawn. -/
def DrTR (w : World) (e : Ending) (w' : World) : Prop :=
  ∃ (s : ByteArray) (wd : Int) (A : Option Addr) (rows : List (List Int)) (cap : Nat) (A' : Option Addr) (row : List Int) (cap' : Nat), e = .returned (.tuple #[.agg #[.string s, .int .i64 wd, .slice A rows.length cap], .slice A' row.length cap']) ∧ DrT w' s A rows cap ∧ Ints w' w'.heap.size A' row ∧ row.length ≤ 1001 ∧ Below w.heap.size w w'
set_option maxRecDepth 100000 in
set_option maxHeartbeats 4000000 in
theorem likeTable_same (s : ByteArray) (wd : Int) (A A' : Option Addr) (c c' : Nat) (rows : List (List Int)) (w : World) (hR : Rws w w.heap.size A rows) (hR' : Rws w w.heap.size A' rows) (hl : rows.length ≤ 1099511627776) :
    Calls Try.prog 30 #[.agg #[.string s, .int .i64 wd, .slice A rows.length c], .agg #[.string s, .int .i64 wd, .slice A' rows.length c']] w fun e w' => e = .returned (.bool true) ∧ Below w.heap.size w w' := by
  have bc := bel_two (w := w) (.cells #[.string s, .int .i64 wd, .slice A rows.length c] 28) (.cells #[.string s, .int .i64 wd, .slice A' rows.length c'] 28)
  have B1 := (Blk.new w 28 #[.string s, .int .i64 wd, .slice A rows.length c]).alloc (.cells #[.string s, .int .i64 wd, .slice A' rows.length c'] 28)
  have B2 := Blk.new (w.alloc (.cells #[.string s, .int .i64 wd, .slice A rows.length c] 28)) 28 #[.string s, .int .i64 wd, .slice A' rows.length c']
  rw [World.size_alloc] at B2
  have hRb := hR.on bc
  have hRb' := hR'.on bc
  have hwb : (wd != wd) = false := by simp
  have hnb : ((rows.length : Int) != (rows.length : Int)) = false := by simp
  go_enter Try.func30, Try.ntmps30
  go_wp2
  generalize (w.alloc (.cells #[.string s, .int .i64 wd, .slice A rows.length c] 28)).alloc (.cells #[.string s, .int .i64 wd, .slice A' rows.length c'] 28) = wb at *
  obtain ⟨_, _, d2⟩ := B1.c3
  obtain ⟨_, _, e2⟩ := B2.c3
  clear hwb hnb B1 B2 hR hR'
  generalize hGG : w.heap.size = G at *
  have HGG := Lib.hid hGG
  clear hGG
  go_loopw [5] (fun i wr => ∃ k : Nat, k ≤ rows.length ∧ i = .int .i64 k ∧ ∃ n, wr = wb.drewN n) (fun i _ => rows.length - (intOf i).toNat)
  case atStart => exact ⟨0, Nat.zero_le _, rfl, 0, rfl⟩
  case round =>
    obtain ⟨k, hk, rfl, hWn⟩ := hrel
    have hBr : Rws wr wr.heap.size A rows := by obtain ⟨n, rfl⟩ := hWn; exact hRb
    have hBr' : Rws wr wr.heap.size A' rows := by obtain ⟨n, rfl⟩ := hWn; exact hRb'
    have x2 : wr.cell? ⟨G, 2, none⟩ = some (.slice A rows.length c) := by obtain ⟨n, rfl⟩ := hWn; exact d2
    have y2 : wr.cell? ⟨G + 1, 2, none⟩ = some (.slice A' rows.length c') := by obtain ⟨n, rfl⟩ := hWn; exact e2
    have hbr : Below G w wr := by obtain ⟨n, rfl⟩ := hWn; exact bel_drewN bc n
    have HW := Lib.hid hWn
    clear hWn hRb hRb' d2 e2
    by_cases hlt : k < rows.length
    · obtain ⟨b, off, rfl, _, hc⟩ := hBr (by omega)
      obtain ⟨b', off', rfl, _, hc'⟩ := hBr' (by omega)
      obtain ⟨Ar, cap, h1, h3, h4⟩ := hc k hlt
      obtain ⟨Ar', cap', h1', h3', h4'⟩ := hc' k hlt
      clear hc hc'
      go_wp2_with fail
      go_quiet (first | (go_at_call 36; exact Calls.quiet_of (likeRow_yes Ar Ar' cap cap' (rr rows k) (rr rows k) _ _ _ (by exact h3) (by exact h3') h4 h4' rfl)))
      go_wp2
      go_roundw
      case rel => exact ⟨k + 1, by omega, by go_num, drew_more HW.out _⟩
      case measure => simp [intOf]; omega
    · have hd : decide (k < rows.length) = false := by simpa using hlt
      go_wp2
      go_ret
      exact ⟨rfl, by rw [HGG.out]; exact hbr⟩
end Go.Proofs.Ytedbjjhkjkpnkaa
