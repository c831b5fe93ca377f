/- A cond read from its text: the program's readCond; for texts of at most 2^30 bytes; it reads variables of the library's, which lie as its text lays them. -/
import Derived.Test.YtdpokfjempdchaaGreatDoorCndG
import Derived.Test.YtdpokfjempdchaaGreatDoorJK2
namespace Go.Proofs.YtdpokfjempdchaaGreatDoor
open Go.RowKit

theorem cutC_le (c : UInt8) (l : List UInt8) : (Lib.cut l [c]).1.length ≤ l.length ∧ (Lib.cut l [c]).2.1.length ≤ l.length := by
  rcases has_cut c l with h | ⟨a, b, ha, rfl⟩
  · rw [cut_no h]; simp
  · rw [cut_at ha]; simp; omega
theorem cutC_found (c : UInt8) (l : List UInt8) : (Lib.cut l [c]).2.2 = decide (c ∈ l) := by
  rcases has_cut c l with h | ⟨a, b, ha, rfl⟩
  · rw [cut_no h, decide_eq_false h]
  · rw [cut_at ha, decide_eq_true (by simp)]
theorem cutC_any (s : ByteArray) (c : UInt8) (w : World) (hs : s.size ≤ 1073741824) (hL : LaidAll w) :
    Calls Tryz.prog 47 #[.string s, .string ⟨#[c]⟩] w fun e w' => e = .returned (.tuple #[.string (mkB (Lib.cut (bl s) [c]).1), .string (mkB (Lib.cut (bl s) [c]).2.1), .bool (decide (c ∈ bl s))]) ∧ Below w.heap.size w w' := by
  obtain ⟨⟨m, hm⟩, _⟩ := hL w (Below.refl _ _)
  refine (Tryz.strings_Cut s ⟨#[c]⟩ m w (by omega) hm).mono fun e w' ⟨he, n, hw⟩ => ⟨?_, by rw [hw]; exact bel_drewN (Below.refl _ _) n⟩
  rw [he, ← cutC_found]; rfl
theorem implC_1 {s : List UInt8} (h : (60 : UInt8) ∈ s) : implC s = bothI 1 ((Lib.cut s [60]).1, (Lib.cut s [60]).2.1) := by unfold implC; rw [if_pos h]
theorem implC_2 {s : List UInt8} (h1 : (60 : UInt8) ∉ s) (h : (61 : UInt8) ∈ s) : implC s = bothI 2 ((Lib.cut s [61]).1, (Lib.cut s [61]).2.1) := by unfold implC; rw [if_neg h1, if_pos h]
theorem implC_3 {s : List UInt8} (h1 : (60 : UInt8) ∉ s) (h2 : (61 : UInt8) ∉ s) (h : (62 : UInt8) ∈ s) : implC s = bothI 3 ((Lib.cut s [62]).1, (Lib.cut s [62]).2.1) := by unfold implC; rw [if_neg h1, if_neg h2, if_pos h]
theorem implC_0 {s : List UInt8} (h1 : (60 : UInt8) ∉ s) (h2 : (61 : UInt8) ∉ s) (h3 : (62 : UInt8) ∉ s) : implC s = none := by unfold implC; rw [if_neg h1, if_neg h2, if_neg h3]
theorem bothI_l {o : Int} {a b : List UInt8} (h : readI a = none) : bothI o (a, b) = none := by unfold bothI; rw [h]
theorem bothI_r {o : Int} {a b : List UInt8} (h : readI b = none) : bothI o (a, b) = none := by unfold bothI; rw [h]; split <;> simp_all
theorem bothI_is {o p n : Int} {u v : Bool} {a b : List UInt8} (h : readI a = some (p, u)) (h2 : readI b = some (n, v)) : bothI o (a, b) = some ⟨p, o, n, !v⟩ := by unfold bothI; rw [h, h2]

set_option maxRecDepth 100000 in
set_option maxHeartbeats 4000000 in
theorem readCond_any (s : ByteArray) (w : World) (hs : s.size ≤ 1073741824) (hL : LaidAll w) :
    Calls Tryz.prog 27 #[.string s] w fun e w' => e = .returned (cndAns (implC (bl s))) ∧ Below w.heap.size w w' := by
  obtain ⟨R, hR⟩ : ∃ R, cndAns (implC (bl s)) = R := ⟨_, rfl⟩
  have HQ := Lib.hid hR
  rw [hR]
  clear hR
  have HL := Lib.hid (show ∀ W, Below w.heap.size w W → LaidAll W from fun W h => hL.on h)
  clear hL
  have bc := (Below.refl w.heap.size w).alloc (Nat.le_refl _) (.cells #[.int .i64 0, .int .i64 0, .int .i64 0, .bool false] 44)
  have BR := Blk.new w 44 #[.int .i64 0, .int .i64 0, .int .i64 0, .bool false]
  go_enter Tryz.func27, Tryz.ntmps27
  go_wp2_with fail
  generalize w.alloc (.cells #[.int .i64 0, .int .i64 0, .int .i64 0, .bool false] 44) = wa at *
  refine (condOps_any wa).mono ?_
  rintro e w1 ⟨rfl, BA, hb1⟩
  have hW1 := bel_step bc hb1
  have BR1 := BR.on hb1
  generalize wa.heap.size = ga at *
  clear BR bc hb1
  go_wp2
  go_loopw [17] (fun i wr => ∃ k : Nat, k ≤ 3 ∧ i = .int .i64 k ∧ (0 < k → (60 : UInt8) ∉ bl s) ∧ (1 < k → (61 : UInt8) ∉ bl s) ∧ (2 < k → (62 : UInt8) ∉ bl s) ∧ Blk wr w.heap.size 44 #[.int .i64 0, .int .i64 0, .int .i64 0, .bool false] ∧ Blk wr ga 65 opsA ∧ Below w.heap.size w wr) (fun i _ => 3 - (intOf i).toNat)
  case atStart => exact ⟨0, by omega, rfl, fun h => absurd h (by omega), fun h => absurd h (by omega), fun h => absurd h (by omega), BR1, BA, hW1⟩
  case round =>
    clear BR1 BA hW1
    obtain ⟨k, hk, rfl, t0, t1, t2, BR, BA, hW⟩ := hrel
    have HT := Lib.hid (And.intro t0 (And.intro t1 t2))
    clear t0 t1 t2
    obtain ⟨⟨a0, a1, a2⟩, ⟨a3, a4, a5⟩, a6, a7, a8⟩ := blk3 BA
    obtain rfl | rfl | rfl | rfl : k = 0 ∨ k = 1 ∨ k = 2 ∨ k = 3 := by omega
    · have hWx := hW.alloc hW.size (.cells #[.int .i64 1, .string ⟨#[60]⟩, .func (.func 64) #[] #[]] 65)
      have BX := Blk.new wr 65 #[.int .i64 1, .string ⟨#[60]⟩, .func (.func 64) #[] #[]]
      have BRx := BR.alloc (.cells #[.int .i64 1, .string ⟨#[60]⟩, .func (.func 64) #[] #[]] 65)
      have BAx := BA.alloc (.cells #[.int .i64 1, .string ⟨#[60]⟩, .func (.func 64) #[] #[]] 65)
      have HCU := Lib.hid (show ∀ W, Below w.heap.size w W → Calls Tryz.prog 47 #[.string s, .string ⟨#[60]⟩] W fun e w' => e = .returned (.tuple #[.string (mkB (Lib.cut (bl s) [60]).1), .string (mkB (Lib.cut (bl s) [60]).2.1), .bool (decide ((60 : UInt8) ∈ bl s))]) ∧ Below W.heap.size W w' from fun W h => cutC_any s 60 W hs (HL.out W h))
      clear BR BA hW
      go_wp2_with fail
      generalize wr.alloc (.cells #[.int .i64 1, .string ⟨#[60]⟩, .func (.func 64) #[] #[]] 65) = wx at *
      generalize wr.heap.size = gx at *
      refine (HCU.out wx hWx).mono ?_
      rintro e w2 ⟨rfl, hb2⟩
      have hW2 := bel_step hWx hb2
      have BX2 := BX.on hb2
      have BR2 := BRx.on hb2
      have BA2 := BAx.on hb2
      clear BX BRx BAx hWx hb2 HCU a0 a1 a2 a3 a4 a5 a6 a7 a8
      by_cases hin : (60 : UInt8) ∈ bl s
      · rw [decide_eq_true hin]
        have HI := Lib.hid (show implC (bl s) = bothI 1 ((Lib.cut (bl s) [60]).1, (Lib.cut (bl s) [60]).2.1) from implC_1 hin)
        obtain ⟨la, lb⟩ := cutC_le 60 (bl s)
        rw [bl_length] at la lb
        have HS1 := Lib.hid (show ∀ W, Below w.heap.size w W → Calls Tryz.prog 48 #[.string (mkB (Lib.cut (bl s) [60]).1)] W fun e w' => e = .returned (sideAns (readI (Lib.cut (bl s) [60]).1)) ∧ Below W.heap.size W w' from fun W h => by
          have := readSide_any (mkB (Lib.cut (bl s) [60]).1) W (by rw [← bl_length, bl_mkB]; omega) (HL.out W h)
          rwa [bl_mkB] at this)
        have HS2 := Lib.hid (show ∀ W, Below w.heap.size w W → Calls Tryz.prog 48 #[.string (mkB (Lib.cut (bl s) [60]).2.1)] W fun e w' => e = .returned (sideAns (readI (Lib.cut (bl s) [60]).2.1)) ∧ Below W.heap.size W w' from fun W h => by
          have := readSide_any (mkB (Lib.cut (bl s) [60]).2.1) W (by rw [← bl_length, bl_mkB]; omega) (HL.out W h)
          rwa [bl_mkB] at this)
        clear hin la lb
        generalize mkB (Lib.cut (bl s) [60]).1 = S1 at *
        generalize mkB (Lib.cut (bl s) [60]).2.1 = S2 at *
        generalize (Lib.cut (bl s) [60]).1 = L1 at *
        generalize (Lib.cut (bl s) [60]).2.1 = L2 at *
        go_wp2_with fail
        refine (HS1.out w2 hW2).mono ?_
        rintro e w3 ⟨rfl, hb3⟩
        have hW3 := bel_step hW2 hb3
        have BX3 := BX2.on hb3
        have BR3 := BR2.on hb3
        clear BX2 BR2 BA2 hW2 hb3
        cases h1 : readI L1 with
        | none =>
          have HD := Lib.hid (show R = cndAns none by rw [← HQ.out, HI.out, bothI_l h1])
          clear h1
          unfold sideAns
          simp only
          go_wp2_with fail
          refine (HS2.out w3 hW3).mono ?_
          rintro e w4 ⟨rfl, hb4⟩
          have hW4 := bel_step hW3 hb4
          have BR4 := BR3.on hb4
          have HZ := Lib.hid (bel_set4 hW4 (Nat.le_refl _) 0 1 2 3 (.int .i64 0) (.int .i64 0) (.int .i64 0) (.bool false))
          obtain ⟨q0, q1, q2, q3⟩ := BR4.c4
          have g0 := BR4.frozen 0
          have g1 := BR4.frozen 1
          have g2 := BR4.frozen 2
          have g3 := BR4.frozen 3
          clear BX3 BR3 BR4 hW3 hb4 hW4
          cases readI L2 with
          | none =>
            unfold sideAns
            simp only
            go_wp2
            refine bodyPost_ret (v := .tuple #[.agg #[.int .i64 0, .int .i64 0, .int .i64 0, .bool false], .bool false]) (by simp [results, Tryz.f27, go_sem, *]) rfl ?_
            exact ⟨by rw [HD.out]; rfl, HZ.out⟩
          | some y =>
            obtain ⟨n, v⟩ := y
            unfold sideAns
            simp only
            go_wp2
            refine bodyPost_ret (v := .tuple #[.agg #[.int .i64 0, .int .i64 0, .int .i64 0, .bool false], .bool false]) (by simp [results, Tryz.f27, go_sem, *]) rfl ?_
            exact ⟨by rw [HD.out]; rfl, HZ.out⟩
        | some x =>
          obtain ⟨p, u⟩ := x
          have H1 := Lib.hid h1
          clear h1
          unfold sideAns
          simp only
          go_wp2_with fail
          refine (HS2.out w3 hW3).mono ?_
          rintro e w4 ⟨rfl, hb4⟩
          have hW4 := bel_step hW3 hb4
          have BR4 := BR3.on hb4
          have BX4 := BX3.on hb4
          have HZ := Lib.hid (bel_set4 hW4 (Nat.le_refl _) 0 1 2 3 (.int .i64 0) (.int .i64 0) (.int .i64 0) (.bool false))
          have HY := Lib.hid (fun (n : Int) (v : Bool) => bel_set4 hW4 (Nat.le_refl _) 0 1 2 3 (.int .i64 p) (.int .i64 1) (.int .i64 n) (.bool v))
          obtain ⟨q0, q1, q2, q3⟩ := BR4.c4
          obtain ⟨x0, x1, x2⟩ := BX4.c3
          have g0 := BR4.frozen 0
          have g1 := BR4.frozen 1
          have g2 := BR4.frozen 2
          have g3 := BR4.frozen 3
          clear BX3 BR3 BR4 BX4 hW3 hb4 hW4
          cases h2 : readI L2 with
          | none =>
            have HD := Lib.hid (show R = cndAns none by rw [← HQ.out, HI.out, bothI_r h2])
            clear h2
            unfold sideAns
            simp only
            go_wp2
            refine bodyPost_ret (v := .tuple #[.agg #[.int .i64 0, .int .i64 0, .int .i64 0, .bool false], .bool false]) (by simp [results, Tryz.f27, go_sem, *]) rfl ?_
            exact ⟨by rw [HD.out]; rfl, HZ.out⟩
          | some y =>
            obtain ⟨n, v⟩ := y
            have HD := Lib.hid (show R = cndAns (some ⟨p, 1, n, !v⟩) by rw [← HQ.out, HI.out, bothI_is H1.out h2])
            clear h2
            try unfold sideAns
            try simp only
            go_wp2
            refine bodyPost_ret (v := .tuple #[.agg #[.int .i64 p, .int .i64 1, .int .i64 n, .bool !v], .bool true]) (by simp [results, Tryz.f27, go_sem, *]) rfl ?_
            exact ⟨by rw [HD.out]; rfl, HY.out n (!v)⟩
      · rw [decide_eq_false hin]
        have HY := Lib.hid hin
        clear hin
        go_wp2
        go_roundw
        case rel => exact ⟨1, by omega, by go_num, fun _ => HY.out, fun h => absurd h (by omega), fun h => absurd h (by omega), BR2, BA2, hW2⟩
        case measure => simp [intOf]
    · have hWx := hW.alloc hW.size (.cells #[.int .i64 2, .string ⟨#[61]⟩, .func (.func 65) #[] #[]] 65)
      have BX := Blk.new wr 65 #[.int .i64 2, .string ⟨#[61]⟩, .func (.func 65) #[] #[]]
      have BRx := BR.alloc (.cells #[.int .i64 2, .string ⟨#[61]⟩, .func (.func 65) #[] #[]] 65)
      have BAx := BA.alloc (.cells #[.int .i64 2, .string ⟨#[61]⟩, .func (.func 65) #[] #[]] 65)
      have HCU := Lib.hid (show ∀ W, Below w.heap.size w W → Calls Tryz.prog 47 #[.string s, .string ⟨#[61]⟩] W fun e w' => e = .returned (.tuple #[.string (mkB (Lib.cut (bl s) [61]).1), .string (mkB (Lib.cut (bl s) [61]).2.1), .bool (decide ((61 : UInt8) ∈ bl s))]) ∧ Below W.heap.size W w' from fun W h => cutC_any s 61 W hs (HL.out W h))
      clear BR BA hW
      go_wp2_with fail
      generalize wr.alloc (.cells #[.int .i64 2, .string ⟨#[61]⟩, .func (.func 65) #[] #[]] 65) = wx at *
      generalize wr.heap.size = gx at *
      refine (HCU.out wx hWx).mono ?_
      rintro e w2 ⟨rfl, hb2⟩
      have hW2 := bel_step hWx hb2
      have BX2 := BX.on hb2
      have BR2 := BRx.on hb2
      have BA2 := BAx.on hb2
      clear BX BRx BAx hWx hb2 HCU a0 a1 a2 a3 a4 a5 a6 a7 a8
      by_cases hin : (61 : UInt8) ∈ bl s
      · rw [decide_eq_true hin]
        have HI := Lib.hid (show implC (bl s) = bothI 2 ((Lib.cut (bl s) [61]).1, (Lib.cut (bl s) [61]).2.1) from implC_2 (HT.out.1 (by omega)) hin)
        obtain ⟨la, lb⟩ := cutC_le 61 (bl s)
        rw [bl_length] at la lb
        have HS1 := Lib.hid (show ∀ W, Below w.heap.size w W → Calls Tryz.prog 48 #[.string (mkB (Lib.cut (bl s) [61]).1)] W fun e w' => e = .returned (sideAns (readI (Lib.cut (bl s) [61]).1)) ∧ Below W.heap.size W w' from fun W h => by
          have := readSide_any (mkB (Lib.cut (bl s) [61]).1) W (by rw [← bl_length, bl_mkB]; omega) (HL.out W h)
          rwa [bl_mkB] at this)
        have HS2 := Lib.hid (show ∀ W, Below w.heap.size w W → Calls Tryz.prog 48 #[.string (mkB (Lib.cut (bl s) [61]).2.1)] W fun e w' => e = .returned (sideAns (readI (Lib.cut (bl s) [61]).2.1)) ∧ Below W.heap.size W w' from fun W h => by
          have := readSide_any (mkB (Lib.cut (bl s) [61]).2.1) W (by rw [← bl_length, bl_mkB]; omega) (HL.out W h)
          rwa [bl_mkB] at this)
        clear hin la lb
        generalize mkB (Lib.cut (bl s) [61]).1 = S1 at *
        generalize mkB (Lib.cut (bl s) [61]).2.1 = S2 at *
        generalize (Lib.cut (bl s) [61]).1 = L1 at *
        generalize (Lib.cut (bl s) [61]).2.1 = L2 at *
        go_wp2_with fail
        refine (HS1.out w2 hW2).mono ?_
        rintro e w3 ⟨rfl, hb3⟩
        have hW3 := bel_step hW2 hb3
        have BX3 := BX2.on hb3
        have BR3 := BR2.on hb3
        clear BX2 BR2 BA2 hW2 hb3
        cases h1 : readI L1 with
        | none =>
          have HD := Lib.hid (show R = cndAns none by rw [← HQ.out, HI.out, bothI_l h1])
          clear h1
          unfold sideAns
          simp only
          go_wp2_with fail
          refine (HS2.out w3 hW3).mono ?_
          rintro e w4 ⟨rfl, hb4⟩
          have hW4 := bel_step hW3 hb4
          have BR4 := BR3.on hb4
          have HZ := Lib.hid (bel_set4 hW4 (Nat.le_refl _) 0 1 2 3 (.int .i64 0) (.int .i64 0) (.int .i64 0) (.bool false))
          obtain ⟨q0, q1, q2, q3⟩ := BR4.c4
          have g0 := BR4.frozen 0
          have g1 := BR4.frozen 1
          have g2 := BR4.frozen 2
          have g3 := BR4.frozen 3
          clear BX3 BR3 BR4 hW3 hb4 hW4
          cases readI L2 with
          | none =>
            unfold sideAns
            simp only
            go_wp2
            refine bodyPost_ret (v := .tuple #[.agg #[.int .i64 0, .int .i64 0, .int .i64 0, .bool false], .bool false]) (by simp [results, Tryz.f27, go_sem, *]) rfl ?_
            exact ⟨by rw [HD.out]; rfl, HZ.out⟩
          | some y =>
            obtain ⟨n, v⟩ := y
            unfold sideAns
            simp only
            go_wp2
            refine bodyPost_ret (v := .tuple #[.agg #[.int .i64 0, .int .i64 0, .int .i64 0, .bool false], .bool false]) (by simp [results, Tryz.f27, go_sem, *]) rfl ?_
            exact ⟨by rw [HD.out]; rfl, HZ.out⟩
        | some x =>
          obtain ⟨p, u⟩ := x
          have H1 := Lib.hid h1
          clear h1
          unfold sideAns
          simp only
          go_wp2_with fail
          refine (HS2.out w3 hW3).mono ?_
          rintro e w4 ⟨rfl, hb4⟩
          have hW4 := bel_step hW3 hb4
          have BR4 := BR3.on hb4
          have BX4 := BX3.on hb4
          have HZ := Lib.hid (bel_set4 hW4 (Nat.le_refl _) 0 1 2 3 (.int .i64 0) (.int .i64 0) (.int .i64 0) (.bool false))
          have HY := Lib.hid (fun (n : Int) (v : Bool) => bel_set4 hW4 (Nat.le_refl _) 0 1 2 3 (.int .i64 p) (.int .i64 2) (.int .i64 n) (.bool v))
          obtain ⟨q0, q1, q2, q3⟩ := BR4.c4
          obtain ⟨x0, x1, x2⟩ := BX4.c3
          have g0 := BR4.frozen 0
          have g1 := BR4.frozen 1
          have g2 := BR4.frozen 2
          have g3 := BR4.frozen 3
          clear BX3 BR3 BR4 BX4 hW3 hb4 hW4
          cases h2 : readI L2 with
          | none =>
            have HD := Lib.hid (show R = cndAns none by rw [← HQ.out, HI.out, bothI_r h2])
            clear h2
            unfold sideAns
            simp only
            go_wp2
            refine bodyPost_ret (v := .tuple #[.agg #[.int .i64 0, .int .i64 0, .int .i64 0, .bool false], .bool false]) (by simp [results, Tryz.f27, go_sem, *]) rfl ?_
            exact ⟨by rw [HD.out]; rfl, HZ.out⟩
          | some y =>
            obtain ⟨n, v⟩ := y
            have HD := Lib.hid (show R = cndAns (some ⟨p, 2, n, !v⟩) by rw [← HQ.out, HI.out, bothI_is H1.out h2])
            clear h2
            try unfold sideAns
            try simp only
            go_wp2
            refine bodyPost_ret (v := .tuple #[.agg #[.int .i64 p, .int .i64 2, .int .i64 n, .bool !v], .bool true]) (by simp [results, Tryz.f27, go_sem, *]) rfl ?_
            exact ⟨by rw [HD.out]; rfl, HY.out n (!v)⟩
      · rw [decide_eq_false hin]
        have HY := Lib.hid hin
        clear hin
        go_wp2
        go_roundw
        case rel => exact ⟨2, by omega, by go_num, fun _ => HT.out.1 (by omega), fun _ => HY.out, fun h => absurd h (by omega), BR2, BA2, hW2⟩
        case measure => simp [intOf]
    · have hWx := hW.alloc hW.size (.cells #[.int .i64 3, .string ⟨#[62]⟩, .func (.func 66) #[] #[]] 65)
      have BX := Blk.new wr 65 #[.int .i64 3, .string ⟨#[62]⟩, .func (.func 66) #[] #[]]
      have BRx := BR.alloc (.cells #[.int .i64 3, .string ⟨#[62]⟩, .func (.func 66) #[] #[]] 65)
      have BAx := BA.alloc (.cells #[.int .i64 3, .string ⟨#[62]⟩, .func (.func 66) #[] #[]] 65)
      have HCU := Lib.hid (show ∀ W, Below w.heap.size w W → Calls Tryz.prog 47 #[.string s, .string ⟨#[62]⟩] W fun e w' => e = .returned (.tuple #[.string (mkB (Lib.cut (bl s) [62]).1), .string (mkB (Lib.cut (bl s) [62]).2.1), .bool (decide ((62 : UInt8) ∈ bl s))]) ∧ Below W.heap.size W w' from fun W h => cutC_any s 62 W hs (HL.out W h))
      clear BR BA hW
      go_wp2_with fail
      generalize wr.alloc (.cells #[.int .i64 3, .string ⟨#[62]⟩, .func (.func 66) #[] #[]] 65) = wx at *
      generalize wr.heap.size = gx at *
      refine (HCU.out wx hWx).mono ?_
      rintro e w2 ⟨rfl, hb2⟩
      have hW2 := bel_step hWx hb2
      have BX2 := BX.on hb2
      have BR2 := BRx.on hb2
      have BA2 := BAx.on hb2
      clear BX BRx BAx hWx hb2 HCU a0 a1 a2 a3 a4 a5 a6 a7 a8
      by_cases hin : (62 : UInt8) ∈ bl s
      · rw [decide_eq_true hin]
        have HI := Lib.hid (show implC (bl s) = bothI 3 ((Lib.cut (bl s) [62]).1, (Lib.cut (bl s) [62]).2.1) from implC_3 (HT.out.1 (by omega)) (HT.out.2.1 (by omega)) hin)
        obtain ⟨la, lb⟩ := cutC_le 62 (bl s)
        rw [bl_length] at la lb
        have HS1 := Lib.hid (show ∀ W, Below w.heap.size w W → Calls Tryz.prog 48 #[.string (mkB (Lib.cut (bl s) [62]).1)] W fun e w' => e = .returned (sideAns (readI (Lib.cut (bl s) [62]).1)) ∧ Below W.heap.size W w' from fun W h => by
          have := readSide_any (mkB (Lib.cut (bl s) [62]).1) W (by rw [← bl_length, bl_mkB]; omega) (HL.out W h)
          rwa [bl_mkB] at this)
        have HS2 := Lib.hid (show ∀ W, Below w.heap.size w W → Calls Tryz.prog 48 #[.string (mkB (Lib.cut (bl s) [62]).2.1)] W fun e w' => e = .returned (sideAns (readI (Lib.cut (bl s) [62]).2.1)) ∧ Below W.heap.size W w' from fun W h => by
          have := readSide_any (mkB (Lib.cut (bl s) [62]).2.1) W (by rw [← bl_length, bl_mkB]; omega) (HL.out W h)
          rwa [bl_mkB] at this)
        clear hin la lb
        generalize mkB (Lib.cut (bl s) [62]).1 = S1 at *
        generalize mkB (Lib.cut (bl s) [62]).2.1 = S2 at *
        generalize (Lib.cut (bl s) [62]).1 = L1 at *
        generalize (Lib.cut (bl s) [62]).2.1 = L2 at *
        go_wp2_with fail
        refine (HS1.out w2 hW2).mono ?_
        rintro e w3 ⟨rfl, hb3⟩
        have hW3 := bel_step hW2 hb3
        have BX3 := BX2.on hb3
        have BR3 := BR2.on hb3
        clear BX2 BR2 BA2 hW2 hb3
        cases h1 : readI L1 with
        | none =>
          have HD := Lib.hid (show R = cndAns none by rw [← HQ.out, HI.out, bothI_l h1])
          clear h1
          unfold sideAns
          simp only
          go_wp2_with fail
          refine (HS2.out w3 hW3).mono ?_
          rintro e w4 ⟨rfl, hb4⟩
          have hW4 := bel_step hW3 hb4
          have BR4 := BR3.on hb4
          have HZ := Lib.hid (bel_set4 hW4 (Nat.le_refl _) 0 1 2 3 (.int .i64 0) (.int .i64 0) (.int .i64 0) (.bool false))
          obtain ⟨q0, q1, q2, q3⟩ := BR4.c4
          have g0 := BR4.frozen 0
          have g1 := BR4.frozen 1
          have g2 := BR4.frozen 2
          have g3 := BR4.frozen 3
          clear BX3 BR3 BR4 hW3 hb4 hW4
          cases readI L2 with
          | none =>
            unfold sideAns
            simp only
            go_wp2
            refine bodyPost_ret (v := .tuple #[.agg #[.int .i64 0, .int .i64 0, .int .i64 0, .bool false], .bool false]) (by simp [results, Tryz.f27, go_sem, *]) rfl ?_
            exact ⟨by rw [HD.out]; rfl, HZ.out⟩
          | some y =>
            obtain ⟨n, v⟩ := y
            unfold sideAns
            simp only
            go_wp2
            refine bodyPost_ret (v := .tuple #[.agg #[.int .i64 0, .int .i64 0, .int .i64 0, .bool false], .bool false]) (by simp [results, Tryz.f27, go_sem, *]) rfl ?_
            exact ⟨by rw [HD.out]; rfl, HZ.out⟩
        | some x =>
          obtain ⟨p, u⟩ := x
          have H1 := Lib.hid h1
          clear h1
          unfold sideAns
          simp only
          go_wp2_with fail
          refine (HS2.out w3 hW3).mono ?_
          rintro e w4 ⟨rfl, hb4⟩
          have hW4 := bel_step hW3 hb4
          have BR4 := BR3.on hb4
          have BX4 := BX3.on hb4
          have HZ := Lib.hid (bel_set4 hW4 (Nat.le_refl _) 0 1 2 3 (.int .i64 0) (.int .i64 0) (.int .i64 0) (.bool false))
          have HY := Lib.hid (fun (n : Int) (v : Bool) => bel_set4 hW4 (Nat.le_refl _) 0 1 2 3 (.int .i64 p) (.int .i64 3) (.int .i64 n) (.bool v))
          obtain ⟨q0, q1, q2, q3⟩ := BR4.c4
          obtain ⟨x0, x1, x2⟩ := BX4.c3
          have g0 := BR4.frozen 0
          have g1 := BR4.frozen 1
          have g2 := BR4.frozen 2
          have g3 := BR4.frozen 3
          clear BX3 BR3 BR4 BX4 hW3 hb4 hW4
          cases h2 : readI L2 with
          | none =>
            have HD := Lib.hid (show R = cndAns none by rw [← HQ.out, HI.out, bothI_r h2])
            clear h2
            unfold sideAns
            simp only
            go_wp2
            refine bodyPost_ret (v := .tuple #[.agg #[.int .i64 0, .int .i64 0, .int .i64 0, .bool false], .bool false]) (by simp [results, Tryz.f27, go_sem, *]) rfl ?_
            exact ⟨by rw [HD.out]; rfl, HZ.out⟩
          | some y =>
            obtain ⟨n, v⟩ := y
            have HD := Lib.hid (show R = cndAns (some ⟨p, 3, n, !v⟩) by rw [← HQ.out, HI.out, bothI_is H1.out h2])
            clear h2
            try unfold sideAns
            try simp only
            go_wp2
            refine bodyPost_ret (v := .tuple #[.agg #[.int .i64 p, .int .i64 3, .int .i64 n, .bool !v], .bool true]) (by simp [results, Tryz.f27, go_sem, *]) rfl ?_
            exact ⟨by rw [HD.out]; rfl, HY.out n (!v)⟩
      · rw [decide_eq_false hin]
        have HY := Lib.hid hin
        clear hin
        go_wp2
        go_roundw
        case rel => exact ⟨3, by omega, by go_num, fun _ => HT.out.1 (by omega), fun _ => HT.out.2.1 (by omega), fun _ => HY.out, BR2, BA2, hW2⟩
        case measure => simp [intOf]
    · have HD := Lib.hid (show R = cndAns none by rw [← HQ.out, implC_0 (HT.out.1 (by omega)) (HT.out.2.1 (by omega)) (HT.out.2.2 (by omega))])
      have HZ := Lib.hid (bel_set4 hW (Nat.le_refl _) 0 1 2 3 (.int .i64 0) (.int .i64 0) (.int .i64 0) (.bool false))
      obtain ⟨q0, q1, q2, q3⟩ := BR.c4
      have g0 := BR.frozen 0
      have g1 := BR.frozen 1
      have g2 := BR.frozen 2
      have g3 := BR.frozen 3
      go_wp2
      refine bodyPost_ret (v := .tuple #[.agg #[.int .i64 0, .int .i64 0, .int .i64 0, .bool false], .bool false]) (by simp [results, Tryz.f27, go_sem, *]) rfl ?_
      exact ⟨by rw [HD.out]; rfl, HZ.out⟩
end Go.Proofs.YtdpokfjempdchaaGreatDoor
