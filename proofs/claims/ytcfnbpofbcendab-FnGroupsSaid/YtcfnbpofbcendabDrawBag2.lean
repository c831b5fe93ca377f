/- Contracts of the drawing of bags, second part: l2DrawAny, l2DrawIn: a bag, or a row of it, in new memory; the cursor goes on; nothing else that lay has turned. -/
import Derived.Test.YtcfnbpofbcendabDrawBag1
namespace Go.Proofs.Ytcfnbpofbcendab
open Go.RowKit

/-- What the drawing of a bag leaves. -/
def DrawnRB (c most wide : Nat) (w : World) (e : Ending) (w' : World) : Prop :=
  ∃ g cap es, e = .returned (.slice (some ⟨g, 0, none⟩) es.length cap) ∧ RB w' w.heap.size g cap es ∧ es.length ≤ most ∧ (∀ e ∈ es, e.r.length ≤ wide) ∧ Cur w' c ∧ w.grownBy w' (some c)
theorem RB.grownC {w w' : World} {lo g cap c : Nat} {es : List Ent} (h : RB w lo g cap es) (hg : w.grownBy w' (some c)) (hc : Cur w c) : RB w' lo g cap es := by
  obtain ⟨A, cp, zs, i, hh, hB, _⟩ := hc
  have hne : ∀ {v : Value} {n : Nat} {xs : List Value}, w.ownsRow lo 33 2 v n xs → v.ownBlock = none ∨ v.ownBlock ≠ some c := by
    intro v n xs hown
    right
    intro e
    rcases hown.2 with ⟨rfl, _⟩ | ⟨g', cap', cur', rfl, _, hg', _⟩
    · cases e
    · have : g' = c := Option.some.inj e
      subst this
      unfold Blk at hB
      rw [hB] at hg'
      injection hg' with hg'
      injection hg' with _ h2 _
      exact absurd h2 (by decide)
  refine ⟨h.1.kept hg (hne h.1), fun e he => (h.2 e he).kept hg fun hn e1 => ?_⟩
  obtain ⟨_, cur, hc', _⟩ := h.2 e he hn
  injection e1 with e1
  rw [e1] at hc'
  unfold Blk at hB
  rw [hB] at hc'
  injection hc' with hc'
  injection hc' with _ h2 _
  exact absurd h2 (by decide)
theorem one_row (r : List Int) (n : Int) (A : Option Addr) (cp g : Nat) : entCells [(⟨r, n, A, cp, g⟩ : Ent)] = [.slice A r.length cp, .int .i64 n] := rfl
theorem Row.kC {w w' : World} {A : Option Addr} {zs : List Int} {g c : Nat} (h : Row w 2 A zs g) (hg : w.grownBy w' (some c)) (hc : Cur w c) : Row w' 2 A zs g := by
  obtain ⟨_, cp, zs', i, hh, hB, _⟩ := hc
  refine h.kept hg fun hn e1 => ?_
  obtain ⟨_, cur, hc', _⟩ := h hn
  injection e1 with e1
  rw [e1] at hc'
  unfold Blk at hB
  rw [hB] at hc'
  injection hc' with hc'
  injection hc' with _ h2 _
  exact absurd h2 (by decide)

set_option maxRecDepth 100000 in
set_option maxHeartbeats 8000000 in
theorem l2DrawAny_any (c : Nat) (w : World) (hC : Cur w c) :
    Calls Try.prog 15 #[.pointer (some ⟨c, 0, none⟩)] w (DrawnRB c 400 1000 w) := by
  obtain ⟨i0, hi0, hz0, hz1, hz2⟩ := info_parts info_count
  have hcl := hC.lt
  go_enter Try.func15, Try.ntmps15
  go_wp2_with fail
  refine (l1Below_any c 3 _ hC (by omega) (by omega)).mono ?_
  rintro e w1 ⟨x, rfl, hx0, hx1, _, hC1, hg1⟩
  obtain ⟨n, rfl⟩ := Int.eq_ofNat_of_zero_le hx0
  have hn3 : n < 3 := by have := hx1 (by omega); omega
  clear hx0 hx1 hC
  go_wp2_with fail
  refine (l1Once_any c 2 _ hC1 (by omega) (by omega)).mono ?_
  rintro e w2 ⟨b2, rfl, hC2, hg2⟩
  have hG2 := grown_trans hg1 hg2
  clear hg1 hg2 hC1
  go_wp2_with fail
  rw [show (1 : Int) + (n : Int) = ((1 + n : Nat) : Int) by omega]
  refine (l2Draw_any c (1 + n) b2 w2 hC2 (by omega)).mono ?_
  rintro e w3 ⟨g, cap, es, rfl, hO3, hel, hes, hC3, hg3⟩
  have hO : OB w3 w.heap.size g cap es := OBag.lower hO3 hG2.size
  have hG3 := grown_trans hG2 hg3
  have HES := Lib.hid hes
  clear hO3 hG2 hg3 hC2 hes
  have hgl := hO.lt
  go_wp2_with fail
  refine (l1Once_any c 10 _ hC3 (by omega) (by omega)).mono ?_
  rintro e w4 ⟨b4, rfl, hC4, hg4⟩
  have hO4 : OB w4 w.heap.size g cap es := OBag.grownC hO hg4 hcl
  have hG4 := grown_trans hG3 hg4
  clear hO hG3 hg4 hC3
  cases b4 with
  | false =>
    go_wp2
    go_ret
    exact ⟨g, cap, es, rfl, hO4.rb, by omega, HES.out, hC4, hG4⟩
  | true =>
    go_wp2_with fail
    refine (l1Below_any c 4 _ hC4 (by omega) (by omega)).mono ?_
    rintro e w5 ⟨x5, rfl, h50, h51, _, hC5, hg5⟩
    obtain ⟨q, rfl⟩ := Int.eq_ofNat_of_zero_le h50
    have hq4 : q < 4 := by have := h51 (by omega); omega
    have hO5 : OB w5 w.heap.size g cap es := OBag.grownC hO4 hg5 hcl
    have hG5 := grown_trans hG4 hg5
    have hs5 := hG5.size
    clear h50 h51 hO4 hG4 hg5 hC4
    match q, hq4 with
    | 0, _ =>
      go_wp2_with fail
      refine (l1DrawAny_any c _ hC5).mono ?_
      rintro e w6 ⟨v6, zs, rfl, hzl, hown6, hC6, hg6⟩
      obtain ⟨A6, c6, g6, rfl, hg6l, hR6⟩ := Row.of_own hown6
      have hO6 : OB w6 w.heap.size g cap es := OBag.grownC hO5 hg6 hcl
      have hG6 := grown_trans hG5 hg6
      clear hown6 hg6 hO5 hG5 hC5
      go_wp2_with fail
      refine (l1From_any c (-1) 2 _ hC6 (by omega) (by omega) (by omega)).mono ?_
      rintro e w7 ⟨y, rfl, _, _, hC7, hg7⟩
      have hO7 : OB w7 w.heap.size g cap es := OBag.grownC hO6 hg7 hcl
      have hR7 := hR6.kC hg7 hC6
      have hG7 := grown_trans hG6 hg7
      have hs7 := hG7.size
      clear hg7 hO6 hG6 hC6 hR6
      have b8 := (Below.refl w7.heap.size w7).alloc (Nat.le_refl _) (.cells #[.slice A6 zs.length c6, .int .i64 y] 33)
      go_wp2_with (at_builtin; refine wpList_append_any _ rfl (.tmp 18) (.tmp 24) 24 rfl w.heap.size 33 i0 _ 2 32 Try.underlying24 hi0 hz0 hz1 hz2 rfl (by decide) _ _ (entCells es) rfl (hO7.1.alloc _) _ (some ⟨w7.heap.size, 0, none⟩) 1 1 [.slice A6 zs.length c6, .int .i64 y] rfl (reads_new2 w7 _ _ _) (by simp [Value.oneCell']) (by simp only [maxLen]; omega) (by omega) (by rw [World.size_alloc]; omega) ?_; intro v9 w9 hown9 hg9 hat9)
      obtain ⟨g9, cap9, hv9, hRB⟩ := (hO7.rb.on b8).grow (fs := [⟨zs, y, A6, c6, g6⟩]) hg9 (by simp) hown9 hat9 (fun e he => by obtain rfl := List.mem_singleton.1 he; exact hR7.on b8)
      have hC9 : Cur w9 c := (hC7.below b8).grown hg9 (fun r e => by have : g = r := Option.some.inj e; omega)
      have hG9 := grown_own (grown_own hG7 (World.grownBy_alloc w7 _ none) (fun r e => by cases e)) hg9 (fun r e => by have : g = r := Option.some.inj e; omega)
      have HV := Lib.hid hv9
      clear hv9 hown9 hg9 hat9 b8 hO7 hR7 hC7 hG7
      go_wp2
      go_ret
      refine ⟨g9, cap9, _, (by rw [HV.out]; rfl), hRB, by simp; omega, fun e he => ?_, hC9, hG9⟩
      rcases List.mem_append.1 he with he | he
      · exact HES.out e he
      · obtain rfl := List.mem_singleton.1 he; show zs.length ≤ 1000; omega
    | 1, _ =>
      have bA := ((Below.refl w5.heap.size w5).alloc (Nat.le_refl _) (.cells #[.int .i64 7] 2)).alloc (by simp) (.cells #[.int .i64 1000000, .int .i64 1000001, .int .i64 0] 2)
      have hR7 := (Row.of_blk (zs := [7]) ((Blk.new w5 2 #[.int .i64 7]).alloc (.cells #[.int .i64 1000000, .int .i64 1000001, .int .i64 0] 2)))
      have hB3 := Blk.new (w5.alloc (.cells #[.int .i64 7] 2)) 2 #[.int .i64 1000000, .int .i64 1000001, .int .i64 0]
      rw [World.size_alloc] at hB3
      go_wp2_with fail
      have hOA : OB ((w5.alloc (.cells #[.int .i64 7] 2)).alloc (.cells #[.int .i64 1000000, .int .i64 1000001, .int .i64 0] 2)) w.heap.size g cap es := OBag.on hO5 bA
      have hCA := hC5.below bA
      have hGA : w.grownBy ((w5.alloc (.cells #[.int .i64 7] 2)).alloc (.cells #[.int .i64 1000000, .int .i64 1000001, .int .i64 0] 2)) (some c) := grown_below hG5 bA hs5
      have hsA : w5.heap.size + 2 ≤ ((w5.alloc (.cells #[.int .i64 7] 2)).alloc (.cells #[.int .i64 1000000, .int .i64 1000001, .int .i64 0] 2)).heap.size := by simp
      clear bA hO5 hC5 hG5
      generalize (w5.alloc (.cells #[.int .i64 7] 2)).alloc (.cells #[.int .i64 1000000, .int .i64 1000001, .int .i64 0] 2) = wA at *
      refine (l1Below_any c 3 wA hCA (by omega) (by omega)).mono ?_
      rintro e w6 ⟨x6, rfl, h60, h61, _, hC6, hg6⟩
      obtain ⟨q6, rfl⟩ := Int.eq_ofNat_of_zero_le h60
      have hq6 : q6 < 3 := by have := h61 (by omega); omega
      have hB6 := hB3.grown hg6 (fun e => by have := Option.some.inj e; omega)
      obtain ⟨y, hy⟩ : ∃ y, w6.cell? ⟨w5.heap.size + 1, q6, none⟩ = some (.int .i64 y) := by
        rw [hB6.cell q6]
        match q6, hq6 with
        | 0, _ => exact ⟨1000000, rfl⟩
        | 1, _ => exact ⟨1000001, rfl⟩
        | 2, _ => exact ⟨0, rfl⟩
      have hR6 := hR7.kC hg6 hCA
      have hO6 : OB w6 w.heap.size g cap es := OBag.grownC hOA hg6 hcl
      have hG6 := grown_trans hGA hg6
      have hs6 := hG6.size
      have b8 := (Below.refl w6.heap.size w6).alloc (Nat.le_refl _) (.cells #[.slice (some ⟨w5.heap.size, 0, none⟩) 1 1, .int .i64 y] 33)
      clear h60 h61 hB3 hB6 hg6 hCA hOA hGA hR7
      go_wp2_with (at_builtin; refine wpList_append_any _ rfl (.tmp 28) (.tmp 36) 24 rfl w.heap.size 33 i0 _ 2 32 Try.underlying24 hi0 hz0 hz1 hz2 rfl (by decide) _ _ (entCells es) rfl (hO6.1.alloc _) _ (some ⟨w6.heap.size, 0, none⟩) 1 1 [.slice (some ⟨w5.heap.size, 0, none⟩) 1 1, .int .i64 y] rfl (reads_new2 w6 _ _ _) (by simp [Value.oneCell']) (by simp only [maxLen]; omega) (by omega) (by rw [World.size_alloc]; omega) ?_; intro v9 w9 hown9 hg9 hat9)
      obtain ⟨g9, cap9, hv9, hRB⟩ := (hO6.rb.on b8).grow (fs := [⟨[7], y, some ⟨w5.heap.size, 0, none⟩, 1, w5.heap.size⟩]) hg9 (by simp) hown9 hat9 (fun e he => by obtain rfl := List.mem_singleton.1 he; exact hR6.on b8)
      have hC9 : Cur w9 c := (hC6.below b8).grown hg9 (fun r e => by have : g = r := Option.some.inj e; omega)
      have hG9 := grown_own (grown_own hG6 (World.grownBy_alloc w6 _ none) (fun r e => by cases e)) hg9 (fun r e => by have : g = r := Option.some.inj e; omega)
      have HV := Lib.hid hv9
      clear hv9 hown9 hg9 hat9 b8 hO6 hR6 hC6 hG6 hy
      go_wp2
      go_ret
      refine ⟨g9, cap9, _, (by rw [HV.out]; rfl), hRB, by simp; omega, fun e he => ?_, hC9, hG9⟩
      rcases List.mem_append.1 he with he | he
      · exact HES.out e he
      · obtain rfl := List.mem_singleton.1 he; show ([7] : List Int).length ≤ 1000; decide
    | 2, _ =>
      have hRd := hO5.reads
      go_wp2_with (at_builtin; refine wpList_append_any _ rfl (.tmp 40) (.tmp 41) 24 rfl w.heap.size 33 i0 _ 2 32 Try.underlying24 hi0 hz0 hz1 hz2 rfl (by decide) _ _ (entCells es) rfl hO5.1 _ (some ⟨g, 0, none⟩) es.length cap (entCells es) rfl hRd (entCells_one _) (by simp only [maxLen]; omega) (by omega) hs5 ?_; intro v9 w9 hown9 hg9 hat9)
      obtain ⟨g9, cap9, hv9, hRB⟩ := hO5.rb.grow (fs := es) hg9 (by simp) hown9 hat9 (fun e he => (hO5.rb).2 e he)
      have hC9 : Cur w9 c := hC5.grown hg9 (fun r e => by have : g = r := Option.some.inj e; omega)
      have hG9 := grown_own hG5 hg9 (fun r e => by have : g = r := Option.some.inj e; omega)
      have HV := Lib.hid hv9
      clear hv9 hown9 hg9 hat9 hO5 hC5 hG5 hRd
      go_wp2
      go_ret
      refine ⟨g9, cap9, _, (by rw [HV.out]; rfl), hRB, by simp; omega, fun e he => ?_, hC9, hG9⟩
      rcases List.mem_append.1 he with he | he
      · exact HES.out e he
      · exact HES.out e he
    | 3, _ =>
      have bA := (Below.refl w5.heap.size w5).alloc (Nat.le_refl _) (.cells #[] 33)
      have hE : RB (w5.alloc (.cells #[] 33)) w.heap.size w5.heap.size 0 [] := ⟨World.ownsRow_made w5 #[] 0 hs5 (Nat.zero_le _) rfl, fun e he => by cases he⟩
      have hCA := hC5.below bA
      have hGA : w.grownBy (w5.alloc (.cells #[] 33)) (some c) := grown_below hG5 bA hs5
      clear bA hO5 hC5 hG5
      go_wp2
      go_loopw [3, 4] (fun v s wr => ∃ (k g cap : Nat) (es : List Ent), k ≤ 301 ∧ es.length = k ∧ s = .int .i64 k ∧ v = .slice (some ⟨g, 0, none⟩) es.length cap ∧ RB wr w.heap.size g cap es ∧ (∀ e ∈ es, e.r.length ≤ 1000) ∧ Cur wr c ∧ w.grownBy wr (some c)) (fun _ s _ => 302 - (intOf s).toNat)
      case atStart => exact ⟨0, w5.heap.size, 0, [], by omega, rfl, rfl, rfl, hE, (fun e he => by cases he), hCA, hGA⟩
      case round =>
        obtain ⟨k, g3, cap3, fs, hk, hel, rfl, rfl, hRr, hfs, hCr, hGr⟩ := hrel
        have HEL := Lib.hid hel
        have hel2 : fs.length ≤ 301 := by omega
        have HFS := Lib.hid hfs
        clear hel hfs hE hCA hGA HES
        go_wp2_with fail
        refine (l1Below_any c 2 _ hCr (by omega) (by omega)).mono ?_
        rintro e w6 ⟨x6, rfl, h60, h61, _, hC6, hg6⟩
        have hx6 := h61 (by omega)
        have hR6 := hRr.grownC hg6 hCr
        have hG6 := grown_trans hGr hg6
        have hs6 := hG6.size
        have hgl3 : w.heap.size ≤ g3 := (hR6.1.lt g3 rfl).1
        clear h61 hRr hg6 hCr hGr
        by_cases hlt : (k : Int) < 300 + x6
        · have bA := (Below.refl w6.heap.size w6).alloc (Nat.le_refl _) (.cells #[.int .i64 (k : Int)] 2)
          have hRw := (Row.of_blk (zs := [(k : Int)]) (Blk.new w6 2 #[.int .i64 (k : Int)]))
          have hRd := reads_new2 (w6.alloc (.cells #[.int .i64 (k : Int)] 2)) 33 (.slice (some ⟨w6.heap.size, 0, none⟩) 1 1) (.int .i64 1)
          rw [World.size_alloc] at hRd
          have hRA := hR6.on bA
          have hCA := hC6.below bA
          have hGA := grown_below hG6 bA hs6
          have b8 := (Below.refl (w6.alloc (.cells #[.int .i64 (k : Int)] 2)).heap.size (w6.alloc (.cells #[.int .i64 (k : Int)] 2))).alloc (Nat.le_refl _) (.cells #[.slice (some ⟨w6.heap.size, 0, none⟩) 1 1, .int .i64 1] 33)
          have hsz : w.heap.size ≤ ((w6.alloc (.cells #[.int .i64 (k : Int)] 2)).alloc (.cells #[.slice (some ⟨w6.heap.size, 0, none⟩) 1 1, .int .i64 1] 33)).heap.size := by rw [World.size_alloc, World.size_alloc]; omega
          go_wp2_with (at_builtin; refine wpList_append_any _ rfl (.tmp 53) (.tmp 57) 24 rfl w.heap.size 33 i0 _ 2 32 Try.underlying24 hi0 hz0 hz1 hz2 rfl (by decide) _ _ (entCells fs) rfl (hRA.1.alloc _) _ (some ⟨w6.heap.size + 1, 0, none⟩) 1 1 [.slice (some ⟨w6.heap.size, 0, none⟩) 1 1, .int .i64 1] rfl hRd (by simp [Value.oneCell']) (by simp only [maxLen]; omega) (by omega) hsz ?_; intro v9 w9 hown9 hg9 hat9)
          obtain ⟨g9, cap9, hv9, hRB⟩ := (hRA.on b8).grow (fs := [⟨[(k : Int)], 1, some ⟨w6.heap.size, 0, none⟩, 1, w6.heap.size⟩]) hg9 (by simp) hown9 hat9 (fun e he => by obtain rfl := List.mem_singleton.1 he; exact hRw.on b8)
          have hC9 : Cur w9 c := (hCA.below b8).grown hg9 (fun r e => by have : g3 = r := Option.some.inj e; omega)
          have hG9 := grown_own (grown_own hGA (World.grownBy_alloc _ _ none) (fun r e => by cases e)) hg9 (fun r e => by have : g3 = r := Option.some.inj e; omega)
          have hl9 : (fs ++ [(⟨[(k : Int)], 1, some ⟨w6.heap.size, 0, none⟩, 1, w6.heap.size⟩ : Ent)]).length = k + 1 := by rw [List.length_append, HEL.out]; rfl
          have hf9 : ∀ e ∈ fs ++ [(⟨[(k : Int)], 1, some ⟨w6.heap.size, 0, none⟩, 1, w6.heap.size⟩ : Ent)], e.r.length ≤ 1000 := by
            intro e he
            rcases List.mem_append.1 he with he | he
            · exact HFS.out e he
            · obtain rfl := List.mem_singleton.1 he; show ([(k : Int)] : List Int).length ≤ 1000; simp
          have HL9 := Lib.hid hl9
          have HF9 := Lib.hid hf9
          have HV := Lib.hid hv9
          clear hl9 hf9 hv9 hown9 hg9 hat9 b8 bA hRw hRd hRA hCA hGA hR6 hC6 hG6
          go_wp2
          go_roundw
          case rel => exact ⟨k + 1, g9, cap9, _, by omega, HL9.out, by go_num, HV.out, hRB, HF9.out, hC9, hG9⟩
          case measure => simp [intOf]; omega
        · have hd : decide ((k : Int) < 300 + x6) = false := by simpa using hlt
          go_wp2
          go_ret
          exact ⟨g3, cap3, fs, rfl, hR6, by omega, HFS.out, hC6, hG6⟩
end Go.Proofs.Ytcfnbpofbcendab
