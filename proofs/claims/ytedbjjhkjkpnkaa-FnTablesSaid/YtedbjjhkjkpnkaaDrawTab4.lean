/- The contract of the model's DrawPlaced: a table and a row in new memory; nothing that lay has turned. -/
import Derived.Test.YtedbjjhkjkpnkaaDrawTab3
namespace Go.Proofs.Ytedbjjhkjkpnkaa
open Go.RowKit

theorem Row.setI {w : World} {t : TypeId} {A : Option Addr} {zs : List Int} {g i : Nat} (h : Row w t A zs g) (hi : i < zs.length) (y : Int) : Row (w.setCell ⟨g, i, none⟩ (.int .i64 y)) t A (zs.set i y) g := fun _ => by
  obtain ⟨hA, cur, hc, hj⟩ := h (by omega)
  refine ⟨hA, cur.setIfInBounds i (.int .i64 y), Blk.set_ (t := t) hc i _, fun j hjl => ?_⟩
  rw [List.length_set] at hjl
  have h1 := hj j hjl
  have hsz : j < cur.size := (Array.getElem?_eq_some_iff.1 h1).1
  rw [Array.getElem?_setIfInBounds]
  by_cases e : i = j
  · subst e
    rw [if_pos rfl, if_pos hsz]
    simp [ix, hi]
  · rw [if_neg e, h1]
    simp [ix, e]
theorem Row.at_ {w : World} {t : TypeId} {A : Option Addr} {zs : List Int} {g i : Nat} (h : Row w t A zs g) (hi : i < zs.length) : A = some ⟨g, 0, none⟩ ∧ w.cell? ⟨g, i, none⟩ = some (.int .i64 (ix zs i)) ∧ w.frozen? ⟨g, i, none⟩ = false := by
  obtain ⟨hA, cur, hc, hj⟩ := h (by omega)
  exact ⟨hA, by rw [Blk.cell (t := t) (cs := cur) hc]; exact hj i hi, Blk.frozen (t := t) (cs := cur) hc i⟩
/-- The end of a drawing of a table and a row. -/
theorem drtr_end {w wX : World} {lo : Nat} {s : ByteArray} {wd : Int} {A : Option Addr} {cap : Nat} {es : List Ent} {A' : Option Addr} {zs : List Int} {g cap' : Nat} (hO : ORows wX lo (.slice A es.length cap) es) (hlo : w.heap.size < lo) (hl : es.length ≤ 31) (hr : ∀ e ∈ es, e.r.length ≤ 1000) (hs : s.size ≤ 7) (hR : Row wX 2 A' zs g) (hg : 0 < zs.length → g ≠ w.heap.size) (hz : zs.length ≤ 1001) (hW : Below w.heap.size w wX) :
    DrTR w (.returned (.tuple #[.agg #[.string s, .int .i64 wd, .slice A es.length cap], .slice A' zs.length cap'])) (((wX.setCell ⟨w.heap.size, 0, none⟩ (.string s)).setCell ⟨w.heap.size, 1, none⟩ (.int .i64 wd)).setCell ⟨w.heap.size, 2, none⟩ (.slice A es.length cap)) := by
  have hgs := set3_grown wX w.heap.size (.string s) (.int .i64 wd) (.slice A es.length cap)
  exact ⟨s, wd, A, es.map Ent.r, cap, A', zs, cap', by rw [List.length_map], DrT.of (hO.grownC hgs hlo) hl hr hs, (hR.kept hgs (fun hn e => hg hn (Option.some.inj e))).ints, hz, hW.grown hgs hW.size (fun k e => by have e' : w.heap.size = k := Option.some.inj e; omega)⟩
set_option maxRecDepth 100000 in
set_option maxHeartbeats 8000000 in
theorem drawPlaced_any (A : Option Addr) (cap : Nat) (zs0 : List Int) (w : World) (hU : U8s w w.heap.size A zs0) (hl : zs0.length ≤ 1048576) :
    Calls Try.prog 22 #[.slice A zs0.length cap] w (DrTR w) := by
  have b0 := (Below.refl w.heap.size w).alloc (Nat.le_refl _) (.cells #[.string ⟨#[]⟩, .int .i64 0, .slice none 0 0] 28)
  have BR := Blk.new w 28 #[.string ⟨#[]⟩, .int .i64 0, .slice none 0 0]
  have hU0 := hU.on b0
  go_enter Try.func22, Try.ntmps22
  go_wp2_with fail
  generalize w.alloc (.cells #[.string ⟨#[]⟩, .int .i64 0, .slice none 0 0] 28) = w0 at *
  refine (l1New_any A cap zs0 w0 hU0 hl).mono ?_
  rintro e w1 ⟨rfl, hC, hb1⟩
  have hcl : w.heap.size < w0.heap.size := BR.lt
  replace BR := BR.on hb1
  have hW := bel_step b0 hb1
  clear b0 hb1 hU0
  generalize w0.heap.size = c at *
  go_wp2_with fail
  refine (l4DrawAny_any c w1 hC).mono ?_
  rintro e w2 ⟨s, wd, A2, cap2, es, rfl, hO, hel, hes, hss, hw0, hw1, hC2, hg2⟩
  have HES := Lib.hid hes
  have hs1 : w.heap.size < w1.heap.size := BR.lt
  have hcw : c < w1.heap.size := hC.lt
  have hs2 : w1.heap.size ≤ w2.heap.size := hg2.size
  replace BR := BR.grown hg2 (fun e => by have e' : w.heap.size = c := Option.some.inj e; omega)
  replace hW := hW.grown hg2 hW.size (fun k e => by have e' : c = k := Option.some.inj e; omega)
  have b2 := (Below.refl w2.heap.size w2).alloc (Nat.le_refl _) (.cells #[.string s, .int .i64 wd, .slice A2 es.length cap2] 28)
  have BT := Blk.new w2 28 #[.string s, .int .i64 wd, .slice A2 es.length cap2]
  replace BR := BR.on b2
  have HIN := Lib.hid hO.inside
  replace hO := hO.on b2
  replace hC := hC2.below b2
  replace hW := bel_step hW b2
  obtain ⟨t0, t1, t2⟩ := BT.c3
  clear hes hg2 hC2 b2
  go_wp2_with fail
  generalize w2.alloc (.cells #[.string s, .int .i64 wd, .slice A2 es.length cap2] 28) = w3 at *
  generalize hTT : w2.heap.size = T at *
  clear hTT t0 t1 t2
  refine (l1Once_any c 8 _ hC (by omega) (by omega)).mono ?_
  rintro e w4 ⟨b4, rfl, hC4, hg⟩
  replace BR := BR.grown hg (fun e => by have e' : w.heap.size = c := Option.some.inj e; omega)
  replace BT := BT.grown hg (fun e => by have e' : T = c := Option.some.inj e; omega)
  replace hO := hO.grownC hg (by omega)
  replace hW := hW.grown hg hW.size (fun k e => by have e' : c = k := Option.some.inj e; omega)
  clear hg hC
  obtain ⟨m, rfl⟩ := Int.eq_ofNat_of_zero_le hw0
  have hm1 : m ≤ 1000 := by omega
  cases b4 with
  | false =>
    go_wp2_with fail
    refine (l1DrawRow_len c m _ hC4 hm1).mono ?_
    rintro e w5 ⟨v5, zs, rfl, hzl, hown5, hC5, hg⟩
    obtain ⟨A5, c5, g5, rfl, hg5, hR⟩ := Row.of_own hown5
    have hs4 : T < w4.heap.size := BT.lt
    have hz1 : zs.length ≤ 1000 := by omega
    clear hzl hown5
    replace BR := BR.grown hg (fun e => by have e' : w.heap.size = c := Option.some.inj e; omega)
    replace BT := BT.grown hg (fun e => by have e' : T = c := Option.some.inj e; omega)
    replace hO := hO.grownC hg (by omega)
    replace hW := hW.grown hg hW.size (fun k e => by have e' : c = k := Option.some.inj e; omega)
    clear hg
    by_cases h0 : 0 < zs.length
    · obtain ⟨hA5, _, _⟩ := hR.at_ h0
      subst hA5
      go_wp2_with fail
      refine (l1Below_any c 12 _ hC5 (by omega) (by omega)).mono ?_
      rintro e w6 ⟨x6, rfl, hx60, hx61, _, hC6, hg⟩
      have hx62 := hx61 (by omega)
      have hwx : IntKind.i64.wrap (x6 - 1) = x6 - 1 := by rw [IntKind.wrap_i64]; omega
      replace BR := BR.grown hg (fun e => by have e' : w.heap.size = c := Option.some.inj e; omega)
      replace BT := BT.grown hg (fun e => by have e' : T = c := Option.some.inj e; omega)
      replace hO := hO.grownC hg (by omega)
      replace hW := hW.grown hg hW.size (fun k e => by have e' : c = k := Option.some.inj e; omega)
      replace hR := hR.kept hg (fun _ e => by have e' : g5 = c := Option.some.inj e; omega)
      obtain ⟨_, k1, f1⟩ := hR.at_ h0
      have hgs := grown_setCell w6 g5 0 (.int .i64 (x6 - 1))
      have hC7 := hC6.grown hgs (fun r e => by have e' : g5 = r := Option.some.inj e; omega)
      replace BR := BR.far (p := ⟨g5, 0, none⟩) (by show w.heap.size ≠ g5; omega) (.int .i64 (x6 - 1))
      replace BT := BT.far (p := ⟨g5, 0, none⟩) (by show T ≠ g5; omega) (.int .i64 (x6 - 1))
      replace hO := hO.keep (hi := T) HIN.out (fun b _ hb => Below.heap_setCell w6 ⟨g5, 0, none⟩ (.int .i64 (x6 - 1)) b (by show b ≠ g5; omega))
      replace hW := hW.grown hgs hW.size (fun k e => by have e' : g5 = k := Option.some.inj e; omega)
      replace hR := hR.setI h0 (x6 - 1)
      clear hg hgs hC6 hC5 hx61
      go_wp2_with fail
      generalize w6.setCell ⟨g5, 0, none⟩ (.int .i64 (x6 - 1)) = w7 at *
      clear k1 f1 hwx
      have hL7 : (zs.set 0 (x6 - 1)).length = zs.length := List.length_set ..
      have HL7 := Lib.hid hL7
      clear hL7
      generalize zs.set 0 (x6 - 1) = ys at *
      refine (l1Once_any c 10 _ hC7 (by omega) (by omega)).mono ?_
      rintro e w8 ⟨b8, rfl, hC8, hg⟩
      replace BR := BR.grown hg (fun e => by have e' : w.heap.size = c := Option.some.inj e; omega)
      replace BT := BT.grown hg (fun e => by have e' : T = c := Option.some.inj e; omega)
      replace hO := hO.grownC hg (by omega)
      replace hW := hW.grown hg hW.size (fun k e => by have e' : c = k := Option.some.inj e; omega)
      replace hR := hR.kept hg (fun _ e => by have e' : g5 = c := Option.some.inj e; omega)
      clear hg hC7
      cases b8 with
      | false =>
        obtain ⟨t0, t1, t2⟩ := BT.c3
        obtain ⟨s0, s1, s2⟩ := BR.c3
        have fs0 := BR.frozen 0
        have fs1 := BR.frozen 1
        have fs2 := BR.frozen 2
        go_wp2
        refine bodyPost_ret (v := .tuple #[.agg #[.string s, .int .i64 (m : Int), .slice A2 es.length cap2], .slice (some ⟨g5, 0, none⟩) zs.length c5]) (by simp [results, Try.f22, go_sem, *]) rfl ?_
        have hfin := drtr_end (cap' := c5) (s := s) (wd := (m : Int)) hO (by omega) hel HES.out hss hR (fun _ => by omega) (by rw [HL7.out]; omega) hW
        rw [HL7.out] at hfin
        exact hfin
      | true =>
        obtain ⟨p, hp⟩ : ∃ p, zs.length = p + 1 := ⟨zs.length - 1, by omega⟩
        have HP := Lib.hid hp
        have hwp : IntKind.i64.wrap ((zs.length : Int) - 1) = (p : Int) := by rw [IntKind.wrap_i64]; omega
        have hpl : p < zs.length := by omega
        clear hp
        have b8 := (Below.refl w8.heap.size w8).alloc (Nat.le_refl _) (.cells #[.int .i64 1000, .int .i64 1001, .int .i64 (-1001)] 2)
        have BN := Blk.new w8 2 #[.int .i64 1000, .int .i64 1001, .int .i64 (-1001)]
        replace BR := BR.on b8
        replace BT := BT.on b8
        replace hO := hO.on b8
        replace hW := bel_step hW b8
        have hgy : g5 < w8.heap.size := hR.lt (by rw [HL7.out]; omega)
        replace hR := hR.on b8
        have hC9 := hC8.below b8
        clear b8 hC8
        go_wp2_with fail
        generalize w8.alloc (.cells #[.int .i64 1000, .int .i64 1001, .int .i64 (-1001)] 2) = w9 at *
        generalize hNN : w8.heap.size = N at *
        clear hNN
        refine (l1Below_any c 3 _ hC9 (by omega) (by omega)).mono ?_
        rintro e wX ⟨x, rfl, hx0, hx1, _, hCX, hg⟩
        obtain ⟨q, rfl⟩ := Int.eq_ofNat_of_zero_le hx0
        have hq3 : q < 3 := by have := hx1 (by omega); omega
        have hq3i : (q : Int) < 3 := by omega
        replace BR := BR.grown hg (fun e => by have e' : w.heap.size = c := Option.some.inj e; omega)
        replace BT := BT.grown hg (fun e => by have e' : T = c := Option.some.inj e; omega)
        replace BN := BN.grown hg (fun e => by have e' : N = c := Option.some.inj e; omega)
        replace hO := hO.grownC hg (by omega)
        replace hW := hW.grown hg hW.size (fun k e => by have e' : c = k := Option.some.inj e; omega)
        replace hR := hR.kept hg (fun _ e => by have e' : g5 = c := Option.some.inj e; omega)
        obtain ⟨y, hy, _, _⟩ := three_ints (lo := -1001) (hi := 1001) BN hq3 (by decide)
        obtain ⟨_, k1, f1⟩ := hR.at_ (i := p) (by rw [HL7.out]; omega)
        have hgs := grown_setCell wX g5 p (.int .i64 y)
        replace BR := BR.far (p := ⟨g5, p, none⟩) (by show w.heap.size ≠ g5; omega) (.int .i64 y)
        replace BT := BT.far (p := ⟨g5, p, none⟩) (by show T ≠ g5; omega) (.int .i64 y)
        replace hO := hO.keep (hi := T) HIN.out (fun b _ hb => Below.heap_setCell wX ⟨g5, p, none⟩ (.int .i64 y) b (by show b ≠ g5; omega))
        replace hW := hW.grown hgs hW.size (fun k e => by have e' : g5 = k := Option.some.inj e; omega)
        replace hR := hR.setI (i := p) (by rw [HL7.out]; omega) y
        obtain ⟨t0, t1, t2⟩ := BT.c3
        obtain ⟨s0, s1, s2⟩ := BR.c3
        have fs0 := BR.frozen 0
        have fs1 := BR.frozen 1
        have fs2 := BR.frozen 2
        clear hg hgs hCX hC9 hx0 hx1
        go_wp2
        refine bodyPost_ret (v := .tuple #[.agg #[.string s, .int .i64 (m : Int), .slice A2 es.length cap2], .slice (some ⟨g5, 0, none⟩) zs.length c5]) (by simp [results, Try.f22, go_sem, *]) rfl ?_
        have hfin := drtr_end (cap' := c5) (s := s) (wd := (m : Int)) hO (by omega) hel HES.out hss hR (fun _ => by omega) (by rw [List.length_set, HL7.out]; omega) hW
        rw [List.length_set, HL7.out] at hfin
        exact hfin
    · obtain rfl : zs = [] := List.length_eq_zero_iff.1 (by omega)
      obtain ⟨t0, t1, t2⟩ := BT.c3
      obtain ⟨s0, s1, s2⟩ := BR.c3
      have fs0 := BR.frozen 0
      have fs1 := BR.frozen 1
      have fs2 := BR.frozen 2
      go_wp2
      refine bodyPost_ret (v := .tuple #[.agg #[.string s, .int .i64 (m : Int), .slice A2 es.length cap2], .slice A5 0 c5]) (by simp [results, Try.f22, go_sem, *]) rfl ?_
      exact drtr_end (zs := []) (cap' := c5) hO (by omega) hel HES.out hss hR (fun h => absurd h (by simp)) (by simp) hW
  | true =>
    go_wp2_with fail
    refine (l1Below_any c 5 _ hC4 (by omega) (by omega)).mono ?_
    rintro e w4b ⟨xb, rfl, hxb0, hxb1, _, hC4b, hg⟩
    obtain ⟨mb, rfl⟩ := Int.eq_ofNat_of_zero_le hxb0
    have hmb : mb ≤ 1000 := by have := hxb1 (by omega); omega
    replace BR := BR.grown hg (fun e => by have e' : w.heap.size = c := Option.some.inj e; omega)
    replace BT := BT.grown hg (fun e => by have e' : T = c := Option.some.inj e; omega)
    replace hO := hO.grownC hg (by omega)
    replace hW := hW.grown hg hW.size (fun k e => by have e' : c = k := Option.some.inj e; omega)
    clear hg hC4 hxb0 hxb1
    go_wp2_with fail
    refine (l1DrawRow_len c mb _ hC4b hmb).mono ?_
    rintro e w5 ⟨v5, zs, rfl, hzl, hown5, hC5, hg⟩
    obtain ⟨A5, c5, g5, rfl, hg5, hR⟩ := Row.of_own hown5
    have hs4 : T < w4b.heap.size := BT.lt
    have hz1 : zs.length ≤ 1000 := by omega
    clear hzl hown5
    replace BR := BR.grown hg (fun e => by have e' : w.heap.size = c := Option.some.inj e; omega)
    replace BT := BT.grown hg (fun e => by have e' : T = c := Option.some.inj e; omega)
    replace hO := hO.grownC hg (by omega)
    replace hW := hW.grown hg hW.size (fun k e => by have e' : c = k := Option.some.inj e; omega)
    clear hg
    by_cases h0 : 0 < zs.length
    · obtain ⟨hA5, _, _⟩ := hR.at_ h0
      subst hA5
      go_wp2_with fail
      refine (l1Below_any c 12 _ hC5 (by omega) (by omega)).mono ?_
      rintro e w6 ⟨x6, rfl, hx60, hx61, _, hC6, hg⟩
      have hx62 := hx61 (by omega)
      have hwx : IntKind.i64.wrap (x6 - 1) = x6 - 1 := by rw [IntKind.wrap_i64]; omega
      replace BR := BR.grown hg (fun e => by have e' : w.heap.size = c := Option.some.inj e; omega)
      replace BT := BT.grown hg (fun e => by have e' : T = c := Option.some.inj e; omega)
      replace hO := hO.grownC hg (by omega)
      replace hW := hW.grown hg hW.size (fun k e => by have e' : c = k := Option.some.inj e; omega)
      replace hR := hR.kept hg (fun _ e => by have e' : g5 = c := Option.some.inj e; omega)
      obtain ⟨_, k1, f1⟩ := hR.at_ h0
      have hgs := grown_setCell w6 g5 0 (.int .i64 (x6 - 1))
      have hC7 := hC6.grown hgs (fun r e => by have e' : g5 = r := Option.some.inj e; omega)
      replace BR := BR.far (p := ⟨g5, 0, none⟩) (by show w.heap.size ≠ g5; omega) (.int .i64 (x6 - 1))
      replace BT := BT.far (p := ⟨g5, 0, none⟩) (by show T ≠ g5; omega) (.int .i64 (x6 - 1))
      replace hO := hO.keep (hi := T) HIN.out (fun b _ hb => Below.heap_setCell w6 ⟨g5, 0, none⟩ (.int .i64 (x6 - 1)) b (by show b ≠ g5; omega))
      replace hW := hW.grown hgs hW.size (fun k e => by have e' : g5 = k := Option.some.inj e; omega)
      replace hR := hR.setI h0 (x6 - 1)
      clear hg hgs hC6 hC5 hx61
      go_wp2_with fail
      generalize w6.setCell ⟨g5, 0, none⟩ (.int .i64 (x6 - 1)) = w7 at *
      clear k1 f1 hwx
      have hL7 : (zs.set 0 (x6 - 1)).length = zs.length := List.length_set ..
      have HL7 := Lib.hid hL7
      clear hL7
      generalize zs.set 0 (x6 - 1) = ys at *
      refine (l1Once_any c 10 _ hC7 (by omega) (by omega)).mono ?_
      rintro e w8 ⟨b8, rfl, hC8, hg⟩
      replace BR := BR.grown hg (fun e => by have e' : w.heap.size = c := Option.some.inj e; omega)
      replace BT := BT.grown hg (fun e => by have e' : T = c := Option.some.inj e; omega)
      replace hO := hO.grownC hg (by omega)
      replace hW := hW.grown hg hW.size (fun k e => by have e' : c = k := Option.some.inj e; omega)
      replace hR := hR.kept hg (fun _ e => by have e' : g5 = c := Option.some.inj e; omega)
      clear hg hC7
      cases b8 with
      | false =>
        obtain ⟨t0, t1, t2⟩ := BT.c3
        obtain ⟨s0, s1, s2⟩ := BR.c3
        have fs0 := BR.frozen 0
        have fs1 := BR.frozen 1
        have fs2 := BR.frozen 2
        go_wp2
        refine bodyPost_ret (v := .tuple #[.agg #[.string s, .int .i64 (m : Int), .slice A2 es.length cap2], .slice (some ⟨g5, 0, none⟩) zs.length c5]) (by simp [results, Try.f22, go_sem, *]) rfl ?_
        have hfin := drtr_end (cap' := c5) (s := s) (wd := (m : Int)) hO (by omega) hel HES.out hss hR (fun _ => by omega) (by rw [HL7.out]; omega) hW
        rw [HL7.out] at hfin
        exact hfin
      | true =>
        obtain ⟨p, hp⟩ : ∃ p, zs.length = p + 1 := ⟨zs.length - 1, by omega⟩
        have HP := Lib.hid hp
        have hwp : IntKind.i64.wrap ((zs.length : Int) - 1) = (p : Int) := by rw [IntKind.wrap_i64]; omega
        have hpl : p < zs.length := by omega
        clear hp
        have b8 := (Below.refl w8.heap.size w8).alloc (Nat.le_refl _) (.cells #[.int .i64 1000, .int .i64 1001, .int .i64 (-1001)] 2)
        have BN := Blk.new w8 2 #[.int .i64 1000, .int .i64 1001, .int .i64 (-1001)]
        replace BR := BR.on b8
        replace BT := BT.on b8
        replace hO := hO.on b8
        replace hW := bel_step hW b8
        have hgy : g5 < w8.heap.size := hR.lt (by rw [HL7.out]; omega)
        replace hR := hR.on b8
        have hC9 := hC8.below b8
        clear b8 hC8
        go_wp2_with fail
        generalize w8.alloc (.cells #[.int .i64 1000, .int .i64 1001, .int .i64 (-1001)] 2) = w9 at *
        generalize hNN : w8.heap.size = N at *
        clear hNN
        refine (l1Below_any c 3 _ hC9 (by omega) (by omega)).mono ?_
        rintro e wX ⟨x, rfl, hx0, hx1, _, hCX, hg⟩
        obtain ⟨q, rfl⟩ := Int.eq_ofNat_of_zero_le hx0
        have hq3 : q < 3 := by have := hx1 (by omega); omega
        have hq3i : (q : Int) < 3 := by omega
        replace BR := BR.grown hg (fun e => by have e' : w.heap.size = c := Option.some.inj e; omega)
        replace BT := BT.grown hg (fun e => by have e' : T = c := Option.some.inj e; omega)
        replace BN := BN.grown hg (fun e => by have e' : N = c := Option.some.inj e; omega)
        replace hO := hO.grownC hg (by omega)
        replace hW := hW.grown hg hW.size (fun k e => by have e' : c = k := Option.some.inj e; omega)
        replace hR := hR.kept hg (fun _ e => by have e' : g5 = c := Option.some.inj e; omega)
        obtain ⟨y, hy, _, _⟩ := three_ints (lo := -1001) (hi := 1001) BN hq3 (by decide)
        obtain ⟨_, k1, f1⟩ := hR.at_ (i := p) (by rw [HL7.out]; omega)
        have hgs := grown_setCell wX g5 p (.int .i64 y)
        replace BR := BR.far (p := ⟨g5, p, none⟩) (by show w.heap.size ≠ g5; omega) (.int .i64 y)
        replace BT := BT.far (p := ⟨g5, p, none⟩) (by show T ≠ g5; omega) (.int .i64 y)
        replace hO := hO.keep (hi := T) HIN.out (fun b _ hb => Below.heap_setCell wX ⟨g5, p, none⟩ (.int .i64 y) b (by show b ≠ g5; omega))
        replace hW := hW.grown hgs hW.size (fun k e => by have e' : g5 = k := Option.some.inj e; omega)
        replace hR := hR.setI (i := p) (by rw [HL7.out]; omega) y
        obtain ⟨t0, t1, t2⟩ := BT.c3
        obtain ⟨s0, s1, s2⟩ := BR.c3
        have fs0 := BR.frozen 0
        have fs1 := BR.frozen 1
        have fs2 := BR.frozen 2
        clear hg hgs hCX hC9 hx0 hx1
        go_wp2
        refine bodyPost_ret (v := .tuple #[.agg #[.string s, .int .i64 (m : Int), .slice A2 es.length cap2], .slice (some ⟨g5, 0, none⟩) zs.length c5]) (by simp [results, Try.f22, go_sem, *]) rfl ?_
        have hfin := drtr_end (cap' := c5) (s := s) (wd := (m : Int)) hO (by omega) hel HES.out hss hR (fun _ => by omega) (by rw [List.length_set, HL7.out]; omega) hW
        rw [List.length_set, HL7.out] at hfin
        exact hfin
    · obtain rfl : zs = [] := List.length_eq_zero_iff.1 (by omega)
      obtain ⟨t0, t1, t2⟩ := BT.c3
      obtain ⟨s0, s1, s2⟩ := BR.c3
      have fs0 := BR.frozen 0
      have fs1 := BR.frozen 1
      have fs2 := BR.frozen 2
      go_wp2
      refine bodyPost_ret (v := .tuple #[.agg #[.string s, .int .i64 (m : Int), .slice A2 es.length cap2], .slice A5 0 c5]) (by simp [results, Try.f22, go_sem, *]) rfl ?_
      exact drtr_end (zs := []) (cap' := c5) hO (by omega) hel HES.out hss hR (fun h => absurd h (by simp)) (by simp) hW
end Go.Proofs.Ytedbjjhkjkpnkaa
