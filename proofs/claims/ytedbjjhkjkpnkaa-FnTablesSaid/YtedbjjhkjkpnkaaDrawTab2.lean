/- The contract of the model's l4DrawAny: a table in new memory, right or not; the cursor goes on; nothing else that lay has turned. -/
import Derived.Test.YtedbjjhkjkpnkaaDrawTab1
import Derived.Deep.RegionLaw
namespace Go.Proofs.Ytedbjjhkjkpnkaa
open Go.RowKit

theorem three_names {w : World} {N n : Nat} (h : Blk w N 9 #[.string ⟨#[97]⟩, .string ⟨#[98]⟩, .string ⟨#[116]⟩]) (hn : n < 3) : ∃ nm : ByteArray, w.cell? ⟨N, n, none⟩ = some (.string nm) ∧ nameB nm = true ∧ nm.size ≤ 6 := by
  match n, hn with
  | 0, _ => exact ⟨_, by simpa using h.cell 0, by decide, by decide⟩
  | 1, _ => exact ⟨_, by simpa using h.cell 1, by decide, by decide⟩
  | 2, _ => exact ⟨_, by simpa using h.cell 2, by decide, by decide⟩
theorem four_names {w : World} {N n : Nat} {a b c d : ByteArray} (h : Blk w N 9 #[.string a, .string b, .string c, .string d]) (hn : n < 4) (hs : a.size ≤ 7 ∧ b.size ≤ 7 ∧ c.size ≤ 7 ∧ d.size ≤ 7) : ∃ nm : ByteArray, w.cell? ⟨N, n, none⟩ = some (.string nm) ∧ nm.size ≤ 7 := by
  match n, hn with
  | 0, _ => exact ⟨a, by simpa using h.cell 0, hs.1⟩
  | 1, _ => exact ⟨b, by simpa using h.cell 1, hs.2.1⟩
  | 2, _ => exact ⟨c, by simpa using h.cell 2, hs.2.2.1⟩
  | 3, _ => exact ⟨d, by simpa using h.cell 3, hs.2.2.2⟩
theorem three_ints {w : World} {N n : Nat} {t : TypeId} {a b c lo hi : Int} (h : Blk w N t #[.int .i64 a, .int .i64 b, .int .i64 c]) (hn : n < 3) (hs : ∀ x ∈ [a, b, c], lo ≤ x ∧ x ≤ hi) : ∃ x : Int, w.cell? ⟨N, n, none⟩ = some (.int .i64 x) ∧ lo ≤ x ∧ x ≤ hi := by
  match n, hn with
  | 0, _ => exact ⟨a, by simpa using h.cell 0, hs a (by simp)⟩
  | 1, _ => exact ⟨b, by simpa using h.cell 1, hs b (by simp)⟩
  | 2, _ => exact ⟨c, by simpa using h.cell 2, hs c (by simp)⟩
/-- The end of a drawing: what is stored into the result. -/
theorem drawn_end {w wX : World} {c most lo : Nat} {s : ByteArray} {wd : Int} {A : Option Addr} {cap : Nat} {es : List Ent} (hO : ORows wX lo (.slice A es.length cap) es) (hlo : w.heap.size < lo) (hl : es.length ≤ most) (hr : ∀ e ∈ es, e.r.length ≤ 1000) (hs : s.size ≤ 7) (h1 : 0 ≤ wd) (h2 : wd ≤ 1000) (hC : Cur wX c) (hcl : c < w.heap.size) (hG : w.grownBy wX (some c)) :
    DrawnT c most w (.returned (.agg #[.string s, .int .i64 wd, .slice A es.length cap])) (((wX.setCell ⟨w.heap.size, 0, none⟩ (.string s)).setCell ⟨w.heap.size, 1, none⟩ (.int .i64 wd)).setCell ⟨w.heap.size, 2, none⟩ (.slice A es.length cap)) := by
  have hgs := set3_grown wX w.heap.size (.string s) (.int .i64 wd) (.slice A es.length cap)
  exact ⟨s, wd, A, cap, es, rfl, (hO.grownC hgs hlo).lower (by omega), hl, hr, hs, h1, h2, hC.grown hgs (fun r e => by have e' : w.heap.size = r := Option.some.inj e; omega), grown_own hG hgs (fun r e => by have e' : w.heap.size = r := Option.some.inj e; omega)⟩
set_option maxRecDepth 100000 in
set_option maxHeartbeats 8000000 in
theorem l4DrawAny_any (c : Nat) (w : World) (hC : Cur w c) :
    Calls Try.prog 56 #[.pointer (some ⟨c, 0, none⟩)] w (DrawnT c 31 w) := by
  obtain ⟨i0, hi0, hz0, hz1, hz2⟩ := info_parts info_rowT
  have hcl := hC.lt
  have b0 := bel_two (w := w) (.cells #[.string ⟨#[]⟩, .int .i64 0, .slice none 0 0] 28) (.cells #[.string ⟨#[97]⟩, .string ⟨#[98]⟩, .string ⟨#[116]⟩] 9)
  have BR0 := (Blk.new w 28 #[.string ⟨#[]⟩, .int .i64 0, .slice none 0 0]).alloc (.cells #[.string ⟨#[97]⟩, .string ⟨#[98]⟩, .string ⟨#[116]⟩] 9)
  have BN0 := Blk.new (w.alloc (.cells #[.string ⟨#[]⟩, .int .i64 0, .slice none 0 0] 28)) 9 #[.string ⟨#[97]⟩, .string ⟨#[98]⟩, .string ⟨#[116]⟩]
  rw [World.size_alloc] at BN0
  have hC0 := hC.below b0
  have hG0 : w.grownBy ((w.alloc (.cells #[.string ⟨#[]⟩, .int .i64 0, .slice none 0 0] 28)).alloc (.cells #[.string ⟨#[97]⟩, .string ⟨#[98]⟩, .string ⟨#[116]⟩] 9)) (some c) := grown_own (World.grownBy_alloc w _ _) (World.grownBy_alloc _ _ none) (fun r e => by cases e)
  go_enter Try.func56, Try.ntmps56
  go_wp2_with fail
  refine (l1Below_any c 3 _ hC0 (by omega) (by omega)).mono ?_
  rintro e w1 ⟨x, rfl, hx0, hx1, _, hC1, hg1⟩
  obtain ⟨n, rfl⟩ := Int.eq_ofNat_of_zero_le hx0
  have hn3 : n < 3 := by have := hx1 (by omega); omega
  have hn3i : (n : Int) < 3 := by omega
  have BR1 := BR0.grown hg1 (fun e => by have e' : w.heap.size = c := Option.some.inj e; omega)
  have BN1 := BN0.grown hg1 (fun e => by have e' : w.heap.size + 1 = c := Option.some.inj e; omega)
  have hG1 := grown_trans hG0 hg1
  obtain ⟨nm, hnm, hnb, hns⟩ := three_names BN1 hn3
  clear hx1 BR0 BN0 hC0 hG0 hg1 b0
  go_wp2_with fail
  refine (l4Draw_any c nm w1 hC1 hnb hns).mono ?_
  rintro e w2 ⟨s, wd, A, cap, es, rfl, hO2, hel, hes, hss, hw0, hw1, hC2, hg2⟩
  have BR2 := BR1.grown hg2 (fun e => by have e' : w.heap.size = c := Option.some.inj e; omega)
  have hG2 := grown_trans hG1 hg2
  have HES := Lib.hid hes
  have hs12 : w.heap.size < w1.heap.size := BR1.lt
  have b2 := (Below.refl w2.heap.size w2).alloc (Nat.le_refl _) (.cells #[.string s, .int .i64 wd, .slice A es.length cap] 28)
  have BT3 := Blk.new w2 28 #[.string s, .int .i64 wd, .slice A es.length cap]
  have BR3 := BR2.on b2
  have HIN := Lib.hid hO2.inside
  have hO3 := hO2.on b2
  have hC3 := hC2.below b2
  have hG3 := grown_own hG2 (World.grownBy_alloc w2 (.cells #[.string s, .int .i64 wd, .slice A es.length cap] 28) none) (fun r e => by cases e)
  have hTw : w1.heap.size ≤ w2.heap.size := hg2.size
  clear hes BN1 hnm hnb hns hn3 hn3i BR1 hC1 hG1 hg2 BR2 hO2 hC2 hG2 b2
  go_wp2_with fail
  generalize w2.alloc (.cells #[.string s, .int .i64 wd, .slice A es.length cap] 28) = w3 at *
  generalize hTT : w2.heap.size = T at *
  clear hTT
  refine (l1Once_any c 8 _ hC3 (by omega) (by omega)).mono ?_
  rintro e w4 ⟨b4, rfl, hC4, hg4⟩
  have BR4 := BR3.grown hg4 (fun e => by have e' : w.heap.size = c := Option.some.inj e; omega)
  have BT4 := BT3.grown hg4 (fun e => by have e' : T = c := Option.some.inj e; omega)
  have hO4 := hO3.grownC hg4 (by omega)
  have hG4 := grown_trans hG3 hg4
  clear BR3 BT3 hO3 hC3 hG3 hg4
  cases b4 with
  | false =>
    obtain ⟨t0, t1, t2⟩ := BT4.c3
    obtain ⟨s0, s1, s2⟩ := BR4.c3
    have fs0 := BR4.frozen 0
    have fs1 := BR4.frozen 1
    have fs2 := BR4.frozen 2
    go_wp2
    refine bodyPost_ret (v := .agg #[.string s, .int .i64 wd, .slice A es.length cap]) (by simp [results, Try.f56, go_sem, *]) rfl ?_
    exact drawn_end hO4 (by omega) (by omega) HES.out hss (by omega) (by omega) hC4 hcl hG4
  | true =>
    go_wp2_with fail
    refine (l1Below_any c 4 _ hC4 (by omega) (by omega)).mono ?_
    rintro e w5 ⟨x5, rfl, hx50, hx51, _, hC5, hg5⟩
    obtain ⟨k, rfl⟩ := Int.eq_ofNat_of_zero_le hx50
    have hk4 : k < 4 := by have := hx51 (by omega); omega
    have BR5 := BR4.grown hg5 (fun e => by have e' : w.heap.size = c := Option.some.inj e; omega)
    have BT5 := BT4.grown hg5 (fun e => by have e' : T = c := Option.some.inj e; omega)
    have hO5 := hO4.grownC hg5 (by omega)
    have hG5 := grown_trans hG4 hg5
    clear hx50 hx51 BR4 BT4 hO4 hC4 hG4 hg5
    have hTl := BT5.lt
    obtain rfl | rfl | rfl | rfl : k = 0 ∨ k = 1 ∨ k = 2 ∨ k = 3 := by omega
    · have b5 := (Below.refl w5.heap.size w5).alloc (Nat.le_refl _) (.cells #[.string ⟨#[]⟩, .string ⟨#[65]⟩, .string ⟨#[97, 98, 99, 100, 101, 102]⟩, .string ⟨#[97, 98, 99, 100, 101, 102, 103]⟩] 9)
      have BN6 := Blk.new w5 9 #[.string ⟨#[]⟩, .string ⟨#[65]⟩, .string ⟨#[97, 98, 99, 100, 101, 102]⟩, .string ⟨#[97, 98, 99, 100, 101, 102, 103]⟩]
      have BR6 := BR5.on b5
      have BT6 := BT5.on b5
      have hO6 := hO5.on b5
      have hC6 := hC5.below b5
      have hG6 := grown_own hG5 (World.grownBy_alloc w5 (.cells #[.string ⟨#[]⟩, .string ⟨#[65]⟩, .string ⟨#[97, 98, 99, 100, 101, 102]⟩, .string ⟨#[97, 98, 99, 100, 101, 102, 103]⟩] 9) none) (fun r e => by cases e)
      clear BR5 BT5 hO5 hC5 hG5 b5
      go_wp2_with fail
      generalize w5.alloc (.cells #[.string ⟨#[]⟩, .string ⟨#[65]⟩, .string ⟨#[97, 98, 99, 100, 101, 102]⟩, .string ⟨#[97, 98, 99, 100, 101, 102, 103]⟩] 9) = w6 at *
      refine (l1Below_any c 4 _ hC6 (by omega) (by omega)).mono ?_
      rintro e w7 ⟨x7, rfl, hx70, hx71, _, hC7, hg7⟩
      obtain ⟨q, rfl⟩ := Int.eq_ofNat_of_zero_le hx70
      have hq4 : q < 4 := by have := hx71 (by omega); omega
      have hq4i : (q : Int) < 4 := by omega
      have BR7 := BR6.grown hg7 (fun e => by have e' : w.heap.size = c := Option.some.inj e; omega)
      have BT7 := BT6.grown hg7 (fun e => by have e' : T = c := Option.some.inj e; omega)
      have BN7 := BN6.grown hg7 (fun e => by have e' : w5.heap.size = c := Option.some.inj e; omega)
      have hO7 := hO6.grownC hg7 (by omega)
      have hG7 := grown_trans hG6 hg7
      obtain ⟨nm, hnm, hns⟩ := four_names BN7 hq4 ⟨by decide, by decide, by decide, by decide⟩
      have k1 := BT7.cell 0
      have k2 := BT7.frozen 0
      simp only [List.getElem?_toArray, List.getElem?_cons_zero] at k1
      have hgs := grown_setCell w7 T 0 (.string nm)
      have BT8 := BT7.set_ 0 (.string nm)
      simp only [List.setIfInBounds_toArray, List.set_cons_zero] at BT8
      have BR8 := BR7.far (p := ⟨T, 0, none⟩) (by show w.heap.size ≠ T; omega) (.string nm)
      have hO8 := hO7.keep (hi := T) HIN.out (fun b _ hb => Below.heap_setCell w7 ⟨T, 0, none⟩ (.string nm) b (by show b ≠ T; omega))
      have hC8 := hC7.grown hgs (fun r e => by have e' : T = r := Option.some.inj e; omega)
      have hG8 := grown_own hG7 hgs (fun r e => by have e' : T = r := Option.some.inj e; omega)
      obtain ⟨t0, t1, t2⟩ := BT8.c3
      obtain ⟨s0, s1, s2⟩ := BR8.c3
      have fs0 := BR8.frozen 0
      have fs1 := BR8.frozen 1
      have fs2 := BR8.frozen 2
      clear hx70 hx71 BR6 BT6 BN6 hO6 hC6 hG6 hg7 BR7 BT7 BN7 hO7 hC7 hG7 hgs BT8 BR8
      go_wp2
      refine bodyPost_ret (v := .agg #[.string nm, .int .i64 wd, .slice A es.length cap]) (by simp [results, Try.f56, go_sem, *]) rfl ?_
      exact drawn_end hO8 (by omega) (by omega) HES.out hns (by omega) (by omega) hC8 hcl hG8
    · have b5 := (Below.refl w5.heap.size w5).alloc (Nat.le_refl _) (.cells #[.int .i64 0, .int .i64 4, .int .i64 5] 2)
      have BN6 := Blk.new w5 2 #[.int .i64 0, .int .i64 4, .int .i64 5]
      have BR6 := BR5.on b5
      have BT6 := BT5.on b5
      have hO6 := hO5.on b5
      have hC6 := hC5.below b5
      have hG6 := grown_own hG5 (World.grownBy_alloc w5 (.cells #[.int .i64 0, .int .i64 4, .int .i64 5] 2) none) (fun r e => by cases e)
      clear BR5 BT5 hO5 hC5 hG5 b5
      go_wp2_with fail
      generalize w5.alloc (.cells #[.int .i64 0, .int .i64 4, .int .i64 5] 2) = w6 at *
      refine (l1Below_any c 3 _ hC6 (by omega) (by omega)).mono ?_
      rintro e w7 ⟨x7, rfl, hx70, hx71, _, hC7, hg7⟩
      obtain ⟨q, rfl⟩ := Int.eq_ofNat_of_zero_le hx70
      have hq4 : q < 3 := by have := hx71 (by omega); omega
      have hq4i : (q : Int) < 3 := by omega
      have BR7 := BR6.grown hg7 (fun e => by have e' : w.heap.size = c := Option.some.inj e; omega)
      have BT7 := BT6.grown hg7 (fun e => by have e' : T = c := Option.some.inj e; omega)
      have BN7 := BN6.grown hg7 (fun e => by have e' : w5.heap.size = c := Option.some.inj e; omega)
      have hO7 := hO6.grownC hg7 (by omega)
      have hG7 := grown_trans hG6 hg7
      obtain ⟨x9, hnm, hx90, hx91⟩ := three_ints (lo := 0) (hi := 1000) BN7 hq4 (by decide)
      have k1 := BT7.cell 1
      have k2 := BT7.frozen 1
      simp only [List.getElem?_toArray, List.getElem?_cons_zero, List.getElem?_cons_succ] at k1
      have hgs := grown_setCell w7 T 1 (.int .i64 x9)
      have BT8 := BT7.set_ 1 (.int .i64 x9)
      simp only [List.setIfInBounds_toArray, List.set_cons_succ, List.set_cons_zero] at BT8
      have BR8 := BR7.far (p := ⟨T, 1, none⟩) (by show w.heap.size ≠ T; omega) (.int .i64 x9)
      have hO8 := hO7.keep (hi := T) HIN.out (fun b _ hb => Below.heap_setCell w7 ⟨T, 1, none⟩ (.int .i64 x9) b (by show b ≠ T; omega))
      have hC8 := hC7.grown hgs (fun r e => by have e' : T = r := Option.some.inj e; omega)
      have hG8 := grown_own hG7 hgs (fun r e => by have e' : T = r := Option.some.inj e; omega)
      obtain ⟨t0, t1, t2⟩ := BT8.c3
      obtain ⟨s0, s1, s2⟩ := BR8.c3
      have fs0 := BR8.frozen 0
      have fs1 := BR8.frozen 1
      have fs2 := BR8.frozen 2
      clear hx70 hx71 BR6 BT6 BN6 hO6 hC6 hG6 hg7 BR7 BT7 BN7 hO7 hC7 hG7 hgs BT8 BR8
      go_wp2
      refine bodyPost_ret (v := .agg #[.string s, .int .i64 x9, .slice A es.length cap]) (by simp [results, Try.f56, go_sem, *]) rfl ?_
      exact drawn_end hO8 (by omega) (by omega) HES.out hss hx90 hx91 hC8 hcl hG8
    · have hOl : T + 1 ≤ w5.heap.size := hTl
      obtain ⟨t0, t1, t2⟩ := BT5.c3
      have hnT : some T ≠ (Value.slice A es.length cap).ownBlock := fun e => by have := HIN.out.1 T e.symm; omega
      go_wp2_with fail
      go_region_law (first | (refine step_append_any _ (by rfl) (.tmp 35) (.tmp 40) 22 (by rfl) w1.heap.size 45 i0 _ 1 24 Try.underlying22 hi0 hz0 hz1 hz2 rfl (by decide) _ _ (rowCs es) (by rfl) (hO7.1.alloc _) _ (some ⟨w7.heap.size, 0, none⟩) 1 1 [.slice A7 zs.length c7] (by rfl) (reads_newT w7 _ _) (by simp [Value.oneCell']) (by simp only [maxLen]; omega) (by omega) (by rw [World.size_alloc]; omega) ?_; intro v8 w8 hown8 hg8 hat8; obtain ⟨A8, c8, hv8⟩ := own_form hown8; subst hv8; have B8 : Blk w8 T 28 #[.string s, .int .i64 wd, .slice A es.length cap] := (BT7.alloc _).grown hg8 hnT; have k8 := B8.cell 2; have f8 := B8.frozen 2; simp only [List.getElem?_toArray, List.getElem?_cons_zero, List.getElem?_cons_succ] at k8) | (go_simp; refine (l1Below_any c 4 _ (by exact hC5) (by omega) (by omega)).mono ?_; rintro e w6 ⟨x6, rfl, hx60, hx61, _, hC6, hg6⟩; obtain ⟨q, rfl⟩ := Int.eq_ofNat_of_zero_le hx60; have hq4 : q < 4 := (by have := hx61 (by omega); omega); have BT6 : Blk w6 T 28 #[.string s, .int .i64 wd, .slice A es.length cap] := Blk.grown (BT5.drewN 1) hg6 (fun e => by have e' : T = c := Option.some.inj e; omega); have BR6 := Blk.grown (BR5.drewN 1) hg6 (fun e => by have e' : w.heap.size = c := Option.some.inj e; omega); have hO6 := ORows.grownC (hO5.drewN 1) hg6 (by omega); have hG6 := grown_trans (grown_trans hG5 (grown_drewN w5 1 _)) hg6; have p6 := BT6.cell 2; simp only [List.getElem?_toArray, List.getElem?_cons_zero, List.getElem?_cons_succ] at p6) | (go_simp; refine (l1DrawRow_len c q w6 hC6 (by omega)).mono ?_; rintro e w7 ⟨v7, zs, rfl, hzl, hown7, hC7, hg7⟩; have HZL := Lib.hid hzl; clear hzl; obtain ⟨A7, c7, g7, rfl, hg7', hR7⟩ := Row.of_own hown7; have BT7 := BT6.grown hg7 (fun e => by have e' : T = c := Option.some.inj e; omega); have BR7 := BR6.grown hg7 (fun e => by have e' : w.heap.size = c := Option.some.inj e; omega); have hO7 := hO6.grownC hg7 (by omega); have hG7 := grown_trans hG6 hg7; have hs7 : w6.heap.size ≤ w7.heap.size := hg7.size; have hs6 : T + 1 ≤ w6.heap.size := BT6.lt; have p7 := BT7.cell 2; simp only [List.getElem?_toArray, List.getElem?_cons_zero, List.getElem?_cons_succ] at p7; have p8 : (w7.alloc (.cells #[.slice A7 zs.length c7] 45)).cell? ⟨T, 2, none⟩ = some (.slice A es.length cap) := (World.cell?_alloc_lt _ _ _ (by show T < w7.heap.size; omega)).trans p7))
      all_goals
        have b7 := (Below.refl w7.heap.size w7).alloc (Nat.le_refl _) (.cells #[.slice A7 zs.length c7] 45)
        have hO8 := (hO7.on b7).push (n := 0) (g := g7) hg8 hown8 hat8 (hR7.on b7) (fun hn => ⟨by omega, fun e => by have := HIN.out.1 g7 e.symm; omega, fun e he hn' => by have := HIN.out.2 e he hn'; omega⟩)
        have hel8 : (es ++ [(⟨zs, 0, A7, c7, g7⟩ : Ent)]).length = es.length + 1 := by simp
        have HES8 := Lib.hid (show ∀ e ∈ es ++ [(⟨zs, 0, A7, c7, g7⟩ : Ent)], e.r.length ≤ 1000 from fun e he => by
          rcases List.mem_append.1 he with h | h
          · exact HES.out e h
          · obtain rfl : e = ⟨zs, 0, A7, c7, g7⟩ := by simpa using h
            have := HZL.out
            show zs.length ≤ 1000
            omega)
        have hin8 : (Value.slice A8 (es.length + 1) c8).ownBlock ≠ some T := fun e => by
          rcases hat8 with h | h
          · rw [h] at e; exact hnT e.symm
          · rw [h] at e
            have e' : (w7.alloc (.cells #[.slice A7 zs.length c7] 45)).heap.size = T := Option.some.inj e
            rw [World.size_alloc] at e'
            omega
        have hO9 := hO8.far ⟨T, 2, none⟩ (.slice A8 (es.length + 1) c8) hin8 (fun e he hn => by
          rcases List.mem_append.1 he with h | h
          · have := HIN.out.2 e h hn; show e.g ≠ T; omega
          · obtain rfl : e = ⟨zs, 0, A7, c7, g7⟩ := by simpa using h
            show g7 ≠ T
            omega)
        have hG8 := grown_own (grown_own hG7 (World.grownBy_alloc w7 (.cells #[.slice A7 zs.length c7] 45) none) (fun r e => by cases e)) hg8 (fun r e => by have := (hO7.1.lt r e).1; omega)
        have hC8 := (hC7.below b7).grown hg8 (fun r e => by have := (hO7.1.lt r e).1; omega)
        have BR8 := (BR7.on b7).grown hg8 (fun e => by have := (hO7.1.lt w.heap.size e.symm).1; omega)
        have hgs := grown_setCell w8 T 2 (.slice A8 (es.length + 1) c8)
        have BT9 := B8.set_ 2 (.slice A8 (es.length + 1) c8)
        simp only [List.setIfInBounds_toArray, List.set_cons_succ, List.set_cons_zero] at BT9
        have BR9 := BR8.far (p := ⟨T, 2, none⟩) (by show w.heap.size ≠ T; omega) (.slice A8 (es.length + 1) c8)
        have hC9 := hC8.grown hgs (fun r e => by have e' : T = r := Option.some.inj e; omega)
        have hG9 := grown_own hG8 hgs (fun r e => by have e' : T = r := Option.some.inj e; omega)
        rw [← hel8] at hO9 BT9 BR9 hC9 hG9 ⊢
        have HEL8 := Lib.hid hel8
        generalize es ++ [(⟨zs, 0, A7, c7, g7⟩ : Ent)] = es9 at *
        clear hel8 hO8 hgs hin8 hG8 hC8 BR8 B8 k8 f8 hown8 hg8 hat8 b7 hO7 BT7 BR7 hC7 hG7 hR7 p7 p8 hg7 hown7
        generalize w8.setCell ⟨T, 2, none⟩ (.slice A8 es9.length c8) = w9 at *
        obtain ⟨t0, t1, t2⟩ := BT9.c3
        obtain ⟨s0, s1, s2⟩ := BR9.c3
        have fs0 := BR9.frozen 0
        have fs1 := BR9.frozen 1
        have fs2 := BR9.frozen 2
        go_wp2
        refine bodyPost_ret (v := .agg #[.string s, .int .i64 wd, .slice A8 es9.length c8]) (by simp [results, Try.f56, go_sem, *]) rfl ?_
        exact drawn_end hO9 (by omega) (by rw [HEL8.out]; omega) HES8.out hss (by omega) (by omega) hC9 hcl hG9
    · have BT6 := BT5.set3 (a' := .string ⟨#[116]⟩) (b' := .int .i64 1) (c' := .slice none 0 0)
      have hgs := set3_grown w5 T (.string ⟨#[116]⟩) (.int .i64 1) (.slice none 0 0)
      have BR6 := BR5.grown hgs (fun e => by have e' : w.heap.size = T := Option.some.inj e; omega)
      have hC6 := hC5.grown hgs (fun r e => by have e' : T = r := Option.some.inj e; omega)
      have hG6 := grown_own hG5 hgs (fun r e => by have e' : T = r := Option.some.inj e; omega)
      obtain ⟨t0, t1, t2⟩ := BT5.c3
      have ft0 := BT5.frozen 0
      have ft1 := BT5.frozen 1
      have ft2 := BT5.frozen 2
      clear hgs BR5 hC5 hG5 BT5 hO5
      go_wp2
      generalize ((w5.setCell ⟨T, 0, none⟩ (.string ⟨#[116]⟩)).setCell ⟨T, 1, none⟩ (.int .i64 1)).setCell ⟨T, 2, none⟩ (.slice none 0 0) = w6 at *
      clear t0 t1 t2 ft0 ft1 ft2 hTl
      go_loopw [4] (fun i wr => ∃ (k : Nat) (A : Option Addr) (cap : Nat) (es : List Ent), k ≤ 31 ∧ es.length = k ∧ i = .int .i64 k ∧ Blk wr w.heap.size 28 #[.string ⟨#[]⟩, .int .i64 0, .slice none 0 0] ∧ Blk wr T 28 #[.string ⟨#[116]⟩, .int .i64 1, .slice A k cap] ∧ ORows wr (T + 1) (.slice A k cap) es ∧ (∀ e ∈ es, e.r.length ≤ 1000) ∧ Cur wr c ∧ w.grownBy wr (some c)) (fun i _ => 32 - (intOf i).toNat)
      case atStart => exact ⟨0, none, 0, [], by omega, rfl, rfl, BR6, BT6, ORows.none_ _ _, (fun e he => by cases he), hC6, hG6⟩
      case round =>
        clear BR6 BT6 hC6 hG6
        obtain ⟨k, A, cap, es, hk, hek, rfl, BR, BT, hO, hesr, hCr, hGr⟩ := hrel
        have HEK := Lib.hid hek
        have HER := Lib.hid hesr
        clear hek hesr
        go_wp2_with fail
        refine (l1Below_any c 2 _ hCr (by omega) (by omega)).mono ?_
        rintro e w7 ⟨x7, rfl, hx70, hx71, _, hC7, hg7⟩
        have hx72 := hx71 (by omega)
        have BR7 := BR.grown hg7 (fun e => by have e' : w.heap.size = c := Option.some.inj e; omega)
        have BT7 := BT.grown hg7 (fun e => by have e' : T = c := Option.some.inj e; omega)
        have hO7 := hO.grownC hg7 (by omega)
        have hG7 := grown_trans hGr hg7
        have hTl7 := BT7.lt
        clear hx71 BR BT hO hCr hGr hg7
        by_cases hlt : (k : Int) < 30 + x7
        · have hmul : IntKind.i64.wrap ((k : Int) * 30) = (k : Int) * 30 := by rw [IntKind.wrap_i64]; omega
          have b8 := bel_two (w := w7) (.cells #[.int .i64 ((k : Int) * 30)] 2) (.cells #[.slice (some ⟨w7.heap.size, 0, none⟩) 1 1] 45)
          have BT8 := BT7.on b8
          have BR8 := BR7.on b8
          have hO8 := hO7.on b8
          have hC8 := hC7.below b8
          have hG8 := grown_own (grown_own hG7 (World.grownBy_alloc w7 (.cells #[.int .i64 ((k : Int) * 30)] 2) none) (fun r e => by cases e)) (World.grownBy_alloc _ (.cells #[.slice (some ⟨w7.heap.size, 0, none⟩) 1 1] 45) none) (fun r e => by cases e)
          have hRw : Row ((w7.alloc (.cells #[.int .i64 ((k : Int) * 30)] 2)).alloc (.cells #[.slice (some ⟨w7.heap.size, 0, none⟩) 1 1] 45)) 2 (some ⟨w7.heap.size, 0, none⟩) [(k : Int) * 30] w7.heap.size := Row.of_blk ((Blk.new w7 2 #[.int .i64 ((k : Int) * 30)]).alloc _)
          have hrd := reads_newT (w7.alloc (.cells #[.int .i64 ((k : Int) * 30)] 2)) 45 (.slice (some ⟨w7.heap.size, 0, none⟩) 1 1)
          rw [World.size_alloc] at hrd
          have hsz8 : ((w7.alloc (.cells #[.int .i64 ((k : Int) * 30)] 2)).alloc (.cells #[.slice (some ⟨w7.heap.size, 0, none⟩) 1 1] 45)).heap.size = w7.heap.size + 1 + 1 := by rw [World.size_alloc, World.size_alloc]
          have HS8 := Lib.hid hsz8
          have hown8 := hO8.1
          rw [HEK.out] at hown8
          obtain ⟨t0, t1, t2⟩ := BT7.c3
          obtain ⟨u0, u1, u2⟩ := BT8.c3
          have hnT : some T ≠ (Value.slice A k cap).ownBlock := fun e => by have := (hO7.1.lt T e.symm).1; omega
          clear hsz8 BT7 BR7 hC7 hG7 b8
          go_wp2_with (at_builtin; refine wpList_append_any _ rfl (.tmp 54) (.tmp 58) 22 rfl (T + 1) 45 i0 _ 1 24 Try.underlying22 hi0 hz0 hz1 hz2 rfl (by decide) _ _ (rowCs es) rfl hown8 _ (some ⟨w7.heap.size + 1, 0, none⟩) 1 1 [.slice (some ⟨w7.heap.size, 0, none⟩) 1 1] rfl hrd (by simp [Value.oneCell']) (by simp only [maxLen]; omega) (by omega) (by rw [HS8.out]; omega) ?_; intro v9 w9 hown9 hg9 hat9; obtain ⟨A9, c9, rfl⟩ := own_form hown9; have B9 : Blk w9 T 28 #[.string ⟨#[116]⟩, .int .i64 1, .slice A k cap] := BT8.grown hg9 hnT; have k9 := B9.cell 2; have f9 := B9.frozen 2; simp only [List.getElem?_toArray, List.getElem?_cons_zero, List.getElem?_cons_succ] at k9)
          have hkk := HEK.out
          subst hkk
          have hO9 := hO8.push (n := 0) (r := [((es.length : Nat) : Int) * 30]) (g := w7.heap.size) hg9 hown9 hat9 hRw (fun _ => ⟨by omega, fun e => by have := (hO7.1.lt w7.heap.size e.symm).2; omega, fun e he hn' => by have := hO7.inside.2 e he hn'; omega⟩)
          have hin9 : (Value.slice A9 (es.length + 1) c9).ownBlock ≠ some T := fun e => by
            rcases hat9 with h | h
            · rw [h] at e; exact hnT e.symm
            · rw [h] at e
              have e' := Option.some.inj e
              rw [HS8.out] at e'
              omega
          have hO10 := hO9.far ⟨T, 2, none⟩ (.slice A9 (es.length + 1) c9) hin9 (fun e he hn => by
            rcases List.mem_append.1 he with h | h
            · have := ((hO7.2.1 e h).2 hn).1; show e.g ≠ T; omega
            · obtain rfl : e = ⟨[((es.length : Nat) : Int) * 30], 0, some ⟨w7.heap.size, 0, none⟩, 1, w7.heap.size⟩ := by simpa using h
              show w7.heap.size ≠ T
              omega)
          have hG9 := grown_own hG8 hg9 (fun r e => by have := (hO7.1.lt r e).1; omega)
          have hC9 := hC8.grown hg9 (fun r e => by have := (hO7.1.lt r e).1; omega)
          have BR9 := BR8.grown hg9 (fun e => by have := (hO7.1.lt w.heap.size e.symm).1; omega)
          have hgs := grown_setCell w9 T 2 (.slice A9 (es.length + 1) c9)
          have BT10 := B9.set_ 2 (.slice A9 (es.length + 1) c9)
          simp only [List.setIfInBounds_toArray, List.set_cons_succ, List.set_cons_zero] at BT10
          have BR10 := BR9.far (p := ⟨T, 2, none⟩) (by show w.heap.size ≠ T; omega) (.slice A9 (es.length + 1) c9)
          have hC10 := hC9.grown hgs (fun r e => by have e' : T = r := Option.some.inj e; omega)
          have hG10 := grown_own hG9 hgs (fun r e => by have e' : T = r := Option.some.inj e; omega)
          go_roundw
          case rel => exact ⟨es.length + 1, A9, c9, _, by omega, by simp, by go_num, BR10, BT10, hO10, (fun e he => by
            rcases List.mem_append.1 he with h | h
            · exact HER.out e h
            · obtain rfl : e = ⟨[((es.length : Nat) : Int) * 30], 0, some ⟨w7.heap.size, 0, none⟩, 1, w7.heap.size⟩ := by simpa using h
              show 1 ≤ 1000
              omega), hC10, hG10⟩
          case measure => simp [intOf]; omega
        · have hd := decide_eq_false hlt
          obtain ⟨t0, t1, t2⟩ := BT7.c3
          obtain ⟨s0, s1, s2⟩ := BR7.c3
          have fs0 := BR7.frozen 0
          have fs1 := BR7.frozen 1
          have fs2 := BR7.frozen 2
          have hkk := HEK.out
          subst hkk
          go_wp2
          refine bodyPost_ret (v := .agg #[.string ⟨#[116]⟩, .int .i64 1, .slice A es.length cap]) (by simp [results, Try.f56, go_sem, *]) rfl ?_
          exact drawn_end hO7 (by omega) (by omega) HER.out (by decide) (by omega) (by omega) hC7 hcl hG7
end Go.Proofs.Ytedbjjhkjkpnkaa
