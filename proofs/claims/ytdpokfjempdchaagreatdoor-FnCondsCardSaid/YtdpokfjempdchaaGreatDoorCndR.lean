/- A cond read from its text: the model's l7Read; for texts of at most 2^30 bytes. -/
import Derived.Test.YtdpokfjempdchaaGreatDoorJK2
import Derived.Test.YtdpokfjempdchaaGreatDoorCndS
import Derived.Test.YtdpokfjempdchaaGreatDoorRead1
import Derived.Deep.RegionLaw
import Derived.Deep.DeepCutAuto
namespace Go.Proofs.YtdpokfjempdchaaGreatDoor
open Go.RowKit

theorem l1Read_any (s : ByteArray) (w : World) (hs : s.size ≤ 1099511627776) :
    Calls Tryz.prog 50 #[.string s] w fun e w' => e = .returned (numAns (readNum 9 (bl s))) ∧ w = w' := by
  obtain ⟨R, hR⟩ : ∃ R, readNum 9 (bl s) = R := ⟨_, rfl⟩
  have hM := l1ReadMost_any s 9 w (by omega) hs
  rw [hR] at hM ⊢
  have HM := Lib.hid hM
  clear hM hR
  cases R with
  | none =>
    go_enter Tryz.func50, Tryz.ntmps50
    go_wp2_with fail
    refine HM.out.mono ?_
    rintro e w' ⟨rfl, rfl⟩
    unfold numAns
    go_wp2
    go_ret2
    exact ⟨rfl, rfl⟩
  | some n =>
    go_enter Tryz.func50, Tryz.ntmps50
    go_wp2_with fail
    refine HM.out.mono ?_
    rintro e w' ⟨rfl, rfl⟩
    unfold numAns
    go_wp2
    go_ret2
    exact ⟨rfl, rfl⟩
/-- l1At over the three signs of an op. -/
theorem l1At_ops (bk : Nat) (s : ByteArray) (x : UInt8) (w : World) (hx : bl s = [x]) (hB : Blk w bk 9 #[.string ⟨#[60]⟩, .string ⟨#[61]⟩, .string ⟨#[62]⟩]) :
    Calls Tryz.prog 51 #[.slice (some ⟨bk, 0, none⟩) 3 3, .string s] w fun e w' => e = .returned (.int .i64 (opC x - 1)) ∧ w = w' := by
  obtain ⟨R, hR⟩ : ∃ R, opC x - 1 = R := ⟨_, rfl⟩
  have HQ := Lib.hid hR
  rw [hR]
  clear hR
  have hl : s.toList = [x] := by rw [ByteArray.toList_eq]; exact hx
  obtain ⟨c0, c1, c2⟩ := hB.c3
  go_enter Tryz.func51, Tryz.ntmps51
  go_wp2
  go_loop [5] (fun i => ∃ k : Nat, k ≤ 3 ∧ i = .int .i64 k ∧ (0 < k → x ≠ 60) ∧ (1 < k → x ≠ 61) ∧ (2 < k → x ≠ 62)) (fun i => 3 - (intOf i).toNat)
  case atStart => exact ⟨0, by omega, rfl, fun h => absurd h (by omega), fun h => absurd h (by omega), fun h => absurd h (by omega)⟩
  case round =>
    obtain ⟨k, hk, rfl, h0, h1, h2⟩ := hrel
    have HT := Lib.hid (And.intro h0 (And.intro h1 h2))
    clear h0 h1 h2
    obtain rfl | rfl | rfl | rfl : k = 0 ∨ k = 1 ∨ k = 2 ∨ k = 3 := by omega
    · by_cases hy : x = 60
      · have HD := Lib.hid (show R = 0 by rw [← HQ.out, hy]; rfl)
        have hb : (([60] : List UInt8) == s.toList) = true := by rw [hl, hy]; rfl
        clear hy hl hx
        go_wp2
        go_ret
        exact ⟨by rw [HD.out]; rfl, rfl⟩
      · have HY := Lib.hid hy
        have hb : (([60] : List UInt8) == s.toList) = false := by rw [hl]; simp; exact fun e => hy e.symm
        clear hy hl hx
        go_wp2
        go_round
        case rel => exact ⟨1, by omega, by go_num, fun _ => HY.out, fun h => absurd h (by omega), fun h => absurd h (by omega)⟩
        case measure => simp [intOf]
    · by_cases hy : x = 61
      · have HD := Lib.hid (show R = 1 by rw [← HQ.out, hy]; rfl)
        have hb : (([61] : List UInt8) == s.toList) = true := by rw [hl, hy]; rfl
        clear hy hl hx
        go_wp2
        go_ret
        exact ⟨by rw [HD.out]; rfl, rfl⟩
      · have HY := Lib.hid hy
        have hb : (([61] : List UInt8) == s.toList) = false := by rw [hl]; simp; exact fun e => hy e.symm
        clear hy hl hx
        go_wp2
        go_round
        case rel => exact ⟨2, by omega, by go_num, fun _ => HT.out.1 (by omega), fun _ => HY.out, fun h => absurd h (by omega)⟩
        case measure => simp [intOf]
    · by_cases hy : x = 62
      · have HD := Lib.hid (show R = 2 by rw [← HQ.out, hy]; rfl)
        have hb : (([62] : List UInt8) == s.toList) = true := by rw [hl, hy]; rfl
        clear hy hl hx
        go_wp2
        go_ret
        exact ⟨by rw [HD.out]; rfl, rfl⟩
      · have HY := Lib.hid hy
        have hb : (([62] : List UInt8) == s.toList) = false := by rw [hl]; simp; exact fun e => hy e.symm
        clear hy hl hx
        go_wp2
        go_round
        case rel => exact ⟨3, by omega, by go_num, fun _ => HT.out.1 (by omega), fun _ => HT.out.2.1 (by omega), fun _ => HY.out⟩
        case measure => simp [intOf]
    · have HD := Lib.hid (show R = -1 by
        rw [← HQ.out]
        unfold opC
        rw [if_neg (HT.out.1 (by omega)), if_neg (HT.out.2.1 (by omega)), if_neg (HT.out.2.2 (by omega))]; rfl)
      clear hl hx
      go_wp2
      go_ret
      exact ⟨by rw [HD.out]; rfl, rfl⟩

theorem numAns_is (R : Option Int) : numAns R = .tuple #[.int .i64 (R.getD 0), .bool R.isSome] := by cases R <;> rfl
/-- What the model reads of a text of four bytes and more that begins with $. -/
theorem readC_parts (b o d : UInt8) (r : List UInt8) : readC (36 :: b :: o :: d :: r) =
    if ((readNum 9 [b]).isSome && (readNum 9 (if d = 36 then r else d :: r)).isSome && condB ⟨(readNum 9 [b]).getD 0, opC o, (readNum 9 (if d = 36 then r else d :: r)).getD 0, decide (d ≠ 36)⟩) = true
    then some ⟨(readNum 9 [b]).getD 0, opC o, (readNum 9 (if d = 36 then r else d :: r)).getD 0, decide (d ≠ 36)⟩ else none := by
  unfold readC
  simp only [if_true]
  cases readNum 9 [b] with
  | none => simp
  | some p =>
    cases readNum 9 (if d = 36 then r else d :: r) with
    | none => simp
    | some n => simp
theorem readC_short {s : List UInt8} (h : s.length < 4) : readC s = none := by
  unfold readC
  split
  · simp only [List.length_cons] at h; omega
  · rfl
theorem readC_other {s : List UInt8} {a : UInt8} (h : s[0]? = some a) (h2 : a ≠ 36) : readC s = none := by
  unfold readC
  split
  · rename_i x b o d r
    have : x = a := by simpa using h
    subst this
    rw [if_neg h2]
  · rfl
theorem four_bytes (s : ByteArray) (h : 3 < s.size) : ∃ r, bl s = s[0] :: s[1] :: s[2] :: s[3] :: r ∧ bl (s.extract 1 2) = [s[1]] ∧ bl (s.extract 2 3) = [s[2]] ∧ bl (s.extract 3 s.size) = s[3] :: r ∧ bl (s.extract 4 s.size) = r := by
  have hl : 3 < (bl s).length := by rw [bl_length]; exact h
  match hb : bl s, hl with
  | a :: b :: o :: d :: r, _ =>
    have g0 := bl_get s 0 (by omega)
    have g1 := bl_get s 1 (by omega)
    have g2 := bl_get s 2 (by omega)
    have g3 := bl_get s 3 (by omega)
    rw [hb] at g0 g1 g2 g3
    simp at g0 g1 g2 g3
    have hsz : s.size = r.length + 4 := by rw [← bl_length, hb]; simp
    have q1 := piece_bl s 1 2
    have q2 := piece_bl s 2 3
    have q3 := piece_bl s 3 s.size
    have q4 := piece_bl s 4 s.size
    unfold piece at q1 q2 q3 q4
    rw [hb] at q1 q2 q3 q4
    refine ⟨r, by rw [g0, g1, g2, g3], ?_, ?_, ?_, ?_⟩
    · rw [q1, g1]; simp
    · rw [q2, g2]; simp
    · rw [q3, g3, hsz]; simp
    · rw [q4, hsz]; simp

set_option maxRecDepth 100000 in
set_option maxHeartbeats 4000000 in
theorem l7Read_any (s : ByteArray) (w : World) (hs : s.size ≤ 1073741824) :
    Calls Tryz.prog 32 #[.string s] w fun e w' => e = .returned (cndAns (readC (bl s))) ∧ Below w.heap.size w w' := by
  obtain ⟨R, hR⟩ : ∃ R, cndAns (readC (bl s)) = R := ⟨_, rfl⟩
  have HQ := Lib.hid hR
  rw [hR]
  clear hR
  have bc := (Below.refl w.heap.size w).alloc (Nat.le_refl _) (.cells #[.int .i64 0, .int .i64 0, .int .i64 0, .bool false] 44)
  have BR := Blk.new w 44 #[.int .i64 0, .int .i64 0, .int .i64 0, .bool false]
  by_cases h4 : s.size < 4
  · have hi4 : (s.size : Int) < 4 := by omega
    have HD := Lib.hid (show R = cndAns none by rw [← HQ.out, readC_short (by rw [bl_length]; exact h4)])
    go_enter Tryz.func32, Tryz.ntmps32
    go_wp2
    refine bodyPost_ret (v := .tuple #[.agg #[.int .i64 0, .int .i64 0, .int .i64 0, .bool false], .bool false]) (by simp [results, Tryz.f32, go_sem, *]) rfl ?_
    exact ⟨by rw [HD.out]; rfl, bc⟩
  · have hi4 : decide ((s.size : Int) < 4) = false := by simp; omega
    have hlt : 3 < s.size := by omega
    have hg3 : (3 : Int) ≤ (s.size : Int) := by omega
    have hg3' : (3 : Int) < (s.size : Int) := by omega
    have hg4 : (4 : Int) ≤ (s.size : Int) := by omega
    by_cases h36 : (s[0].toNat : Int) = 36
    · have hb : ((s[0].toNat : Int) != 36) = false := by simp [h36]
      have h0 : s[0] = 36 := UInt8.toNat_inj.1 (by have : s[0].toNat = 36 := by omega
                                                   rw [this]; rfl)
      obtain ⟨r, e0, e1, e2, e3, e4⟩ := four_bytes s hlt
      rw [h0] at e0
      have HE := Lib.hid e0
      have HP := Lib.hid (And.intro e3 e4)
      have hz1 : (s.extract 1 2).size ≤ 1 := by rw [← bl_length, e1]; simp
      have hz2 : (s.extract 2 3).size ≤ 1 := by rw [← bl_length, e2]; simp
      have h1r : Hid (∀ W : World, Calls Tryz.prog 50 #[.string (s.extract 1 2)] W fun e w' => e = .returned (.tuple #[.int .i64 ((readNum 9 [s[1]]).getD 0), .bool (readNum 9 [s[1]]).isSome]) ∧ W = w') := Lib.hid (fun W => by rw [← numAns_is, ← e1]; exact l1Read_any _ W (by omega))
      have h2r : Hid (∀ (W : World) (bk : Nat), Blk W bk 9 #[.string ⟨#[60]⟩, .string ⟨#[61]⟩, .string ⟨#[62]⟩] → Calls Tryz.prog 51 #[.slice (some ⟨bk, 0, none⟩) 3 3, .string (s.extract 2 3)] W fun e w' => e = .returned (.int .i64 (opC s[2] - 1)) ∧ W = w') := Lib.hid (fun W bk hB => l1At_ops bk _ s[2] W e2 hB)
      have ho : IntKind.i64.wrap (opC s[2] - 1 + 1) = opC s[2] := by
        have : 0 ≤ opC s[2] ∧ opC s[2] ≤ 3 := by unfold opC; repeat' split <;> omega
        rw [IntKind.wrap_i64]; omega
      have ho2 : IntKind.i64.wrap (opC s[2]) = opC s[2] := by
        have : 0 ≤ opC s[2] ∧ opC s[2] ≤ 3 := by unfold opC; repeat' split <;> omega
        rw [IntKind.wrap_i64]; omega
      obtain ⟨o, hoo⟩ : ∃ o, opC s[2] = o := ⟨_, rfl⟩
      obtain ⟨pl, hpl⟩ : ∃ pl, (readNum 9 [s[1]]).getD 0 = pl := ⟨_, rfl⟩
      obtain ⟨one, hone⟩ : ∃ one, (readNum 9 [s[1]]).isSome = one := ⟨_, rfl⟩
      have HPL := Lib.hid (And.intro hpl (And.intro hone hoo))
      rw [hpl, hone] at h1r
      rw [hoo] at h2r ho ho2
      clear e0 e1 e2 e3 e4 h0 hpl hone hoo
      by_cases h3 : (s[3].toNat : Int) = 36
      · have hd3 : s[3] = 36 := UInt8.toNat_inj.1 (by have : s[3].toNat = 36 := by omega
                                                      rw [this]; rfl)
        have h3b : ((s[3].toNat : Int) != 36) = false := by simp [h3]
        have HNT := Lib.hid (And.intro (show (readNum 9 (if s[3] = 36 then r else s[3] :: r)).getD 0 = (readNum 9 (bl (s.extract 4 s.size))).getD 0 by rw [if_pos hd3, HP.out.2]) (show (readNum 9 (if s[3] = 36 then r else s[3] :: r)).isSome = (readNum 9 (bl (s.extract 4 s.size))).isSome by rw [if_pos hd3, HP.out.2]))
        have hrs : (s.extract 4 s.size).size ≤ 1099511627776 := by
          rw [ByteArray.size_extract]; omega
        have h5r : Hid (∀ W : World, Calls Tryz.prog 50 #[.string (s.extract 4 s.size)] W fun e w' => e = .returned (.tuple #[.int .i64 ((readNum 9 (bl (s.extract 4 s.size))).getD 0), .bool (readNum 9 (bl (s.extract 4 s.size))).isSome]) ∧ W = w') := Lib.hid (fun W => by rw [← numAns_is]; exact l1Read_any _ W hrs)
        generalize (readNum 9 (bl (s.extract 4 s.size))).getD 0 = n at *
        generalize (readNum 9 (bl (s.extract 4 s.size))).isSome = two at *
        have HIS := Lib.hid (show decide (s[3] ≠ 36) = false by simp [hd3])
        clear h3 hrs
        go_enter Tryz.func32, Tryz.ntmps32
        go_wp2_with fail
        generalize w.alloc (.cells #[.int .i64 0, .int .i64 0, .int .i64 0, .bool false] 44) = wb at *
        refine (h1r.out wb).mono ?_
        rintro e w1 ⟨rfl, hw1⟩
        cases hw1
        go_upto_region 4 with fail
        go_cut [6] (fun v wx => ∃ gx, v = .pointer (some ⟨gx, 0, none⟩) ∧ wb.heap.size ≤ gx ∧ Blk wx gx 44 #[.int .i64 pl, .int .i64 o, .int .i64 0, .bool false] ∧ Below wb.heap.size wb wx)
        case first =>
          clear HQ HE HPL HP h1r h5r HNT HIS bc BR hi4 hb hz1
          go_region_law (first | (go_simp; refine (h2r.out _ _ (by first | exact Blk.new _ _ _ | exact (Blk.new _ _ _).drewN _ | exact (Blk.new _ _ _).alloc _ | exact ((Blk.new _ _ _).alloc _).drewN _ | (have := Blk.new (wb.alloc (.cells #[.int .i64 0, .int .i64 0, .int .i64 0, .bool false] 44)) 9 #[.string ⟨#[60]⟩, .string ⟨#[61]⟩, .string ⟨#[62]⟩]; rw [World.size_alloc] at this; exact this))).mono ?_; rintro e w3 ⟨rfl, hw3⟩; cases hw3))
          all_goals go_wp2_with fail
          all_goals go_meet
          all_goals first
            | exact ⟨_, rfl, Nat.le_refl _, (Blk.new wb 44 #[.int .i64 pl, .int .i64 o, .int .i64 0, .bool false]).alloc _, bel_drewN (bel_two _ _) 1⟩
            | exact ⟨_, rfl, Nat.le_succ _, (by have := Blk.new (wb.alloc (.cells #[.string ⟨#[60]⟩, .string ⟨#[61]⟩, .string ⟨#[62]⟩] 9)) 44 #[.int .i64 pl, .int .i64 o, .int .i64 0, .bool false]; rw [World.size_alloc] at this; exact this), bel_drewN (bel_two _ _) 1⟩
        case rest =>
          obtain ⟨gx, rfl, hgx, BX, hbx⟩ := hcut
          have hWc := bel_step bc hbx
          have hne : w.heap.size ≠ gx := by have := BR.lt; omega
          have hle : w.heap.size ≤ gx := by have := BR.lt; omega
          have BRc := (BR.on hbx).far (p := ⟨gx, 2, none⟩) hne (.int .i64 n)
          obtain ⟨x0, x1, x2, x3⟩ := BX.c4
          have fx := BX.frozen 2
          have BX2 : Blk (wc.setCell ⟨gx, 2, none⟩ (.int .i64 n)) gx 44 #[.int .i64 pl, .int .i64 o, .int .i64 n, .bool false] := by simpa using BX.set_ 2 (.int .i64 n)
          have hWs := hWc.setCell (p := ⟨gx, 2, none⟩) hle (.int .i64 n)
          have HZ := Lib.hid (bel_set4 hWs (Nat.le_refl _) 0 1 2 3 (.int .i64 0) (.int .i64 0) (.int .i64 0) (.bool false))
          obtain ⟨y0, y1, y2, y3⟩ := BX2.c4
          obtain ⟨q0, q1, q2, q3⟩ := BRc.c4
          have g0 := BRc.frozen 0
          have g1 := BRc.frozen 1
          have g2 := BRc.frozen 2
          have g3 := BRc.frozen 3
          clear BR bc hbx BX hgx hne h1r h2r
          go_wp2_with fail
          refine (h5r.out _).mono ?_
          rintro e w6 ⟨rfl, hw6⟩
          cases hw6
          cases one with
          | false =>
            have HD := Lib.hid (show R = cndAns none by rw [← HQ.out, HE.out, readC_parts, HPL.out.2.1]; rfl)
            go_wp2
            refine bodyPost_ret (v := .tuple #[.agg #[.int .i64 0, .int .i64 0, .int .i64 0, .bool false], .bool false]) (by simp [results, Tryz.f32, go_sem, *]) rfl ?_
            exact ⟨by rw [HD.out]; rfl, HZ.out⟩
          | true =>
            cases two with
            | false =>
              have HD := Lib.hid (show R = cndAns none by rw [← HQ.out, HE.out, readC_parts, HPL.out.2.1, HNT.out.2]; rfl)
              go_wp2
              refine bodyPost_ret (v := .tuple #[.agg #[.int .i64 0, .int .i64 0, .int .i64 0, .bool false], .bool false]) (by simp [results, Tryz.f32, go_sem, *]) rfl ?_
              exact ⟨by rw [HD.out]; rfl, HZ.out⟩
            | true =>
              have HCB := Lib.hid (show R = cndAns (if condB ⟨pl, o, n, false⟩ = true then some ⟨pl, o, n, false⟩ else none) by rw [← HQ.out, HE.out, readC_parts, HPL.out.1, HPL.out.2.1, HPL.out.2.2, HNT.out.1, HNT.out.2, HIS.out]; simp)
              go_wp2_with fail
              refine (l7Cond_any pl o n false _).mono ?_
              rintro e w7 ⟨rfl, hb7⟩
              have hW7 := bel_step hWs hb7
              have HZ7 := Lib.hid (bel_set4 hW7 (Nat.le_refl _) 0 1 2 3 (.int .i64 0) (.int .i64 0) (.int .i64 0) (.bool false))
              have HY7 := Lib.hid (bel_set4 hW7 (Nat.le_refl _) 0 1 2 3 (.int .i64 pl) (.int .i64 o) (.int .i64 n) (.bool false))
              have BX7 := BX2.on hb7
              have BR7 := BRc.on hb7
              clear x0 x1 x2 x3 fx y0 y1 y2 y3 q0 q1 q2 q3 g0 g1 g2 g3 BX2 BRc hWs hb7 hW7 hWc HZ
              obtain ⟨y0, y1, y2, y3⟩ := BX7.c4
              obtain ⟨q0, q1, q2, q3⟩ := BR7.c4
              have g0 := BR7.frozen 0
              have g1 := BR7.frozen 1
              have g2 := BR7.frozen 2
              have g3 := BR7.frozen 3
              clear BX7 BR7
              cases hc : condB ⟨pl, o, n, false⟩ with
              | false =>
                have HD := Lib.hid (show R = cndAns none by rw [HCB.out, hc]; rfl)
                clear hc HCB
                go_wp2
                refine bodyPost_ret (v := .tuple #[.agg #[.int .i64 0, .int .i64 0, .int .i64 0, .bool false], .bool false]) (by simp [results, Tryz.f32, go_sem, *]) rfl ?_
                exact ⟨by rw [HD.out]; rfl, HZ7.out⟩
              | true =>
                have HD := Lib.hid (show R = cndAns (some ⟨pl, o, n, false⟩) by rw [HCB.out, hc]; rfl)
                clear hc HCB
                go_wp2
                refine bodyPost_ret (v := .tuple #[.agg #[.int .i64 pl, .int .i64 o, .int .i64 n, .bool false], .bool true]) (by simp [results, Tryz.f32, go_sem, *]) rfl ?_
                exact ⟨by rw [HD.out]; rfl, HY7.out⟩
      · have hd3 : ¬ s[3] = 36 := fun e => h3 (by rw [e]; rfl)
        have h3b : ((s[3].toNat : Int) != 36) = true := by simp [h3]
        have HNT := Lib.hid (And.intro (show (readNum 9 (if s[3] = 36 then r else s[3] :: r)).getD 0 = (readNum 9 (bl (s.extract 3 s.size))).getD 0 by rw [if_neg hd3, HP.out.1]) (show (readNum 9 (if s[3] = 36 then r else s[3] :: r)).isSome = (readNum 9 (bl (s.extract 3 s.size))).isSome by rw [if_neg hd3, HP.out.1]))
        have hrs : (s.extract 3 s.size).size ≤ 1099511627776 := by
          rw [ByteArray.size_extract]; omega
        have h5r : Hid (∀ W : World, Calls Tryz.prog 50 #[.string (s.extract 3 s.size)] W fun e w' => e = .returned (.tuple #[.int .i64 ((readNum 9 (bl (s.extract 3 s.size))).getD 0), .bool (readNum 9 (bl (s.extract 3 s.size))).isSome]) ∧ W = w') := Lib.hid (fun W => by rw [← numAns_is]; exact l1Read_any _ W hrs)
        generalize (readNum 9 (bl (s.extract 3 s.size))).getD 0 = n at *
        generalize (readNum 9 (bl (s.extract 3 s.size))).isSome = two at *
        have HIS := Lib.hid (show decide (s[3] ≠ 36) = true by simp [hd3])
        clear h3 hrs
        go_enter Tryz.func32, Tryz.ntmps32
        go_wp2_with fail
        generalize w.alloc (.cells #[.int .i64 0, .int .i64 0, .int .i64 0, .bool false] 44) = wb at *
        refine (h1r.out wb).mono ?_
        rintro e w1 ⟨rfl, hw1⟩
        cases hw1
        go_upto_region 4 with fail
        go_cut [6] (fun v wx => ∃ gx, v = .pointer (some ⟨gx, 0, none⟩) ∧ wb.heap.size ≤ gx ∧ Blk wx gx 44 #[.int .i64 pl, .int .i64 o, .int .i64 0, .bool true] ∧ Below wb.heap.size wb wx)
        case first =>
          clear HQ HE HPL HP h1r h5r HNT HIS bc BR hi4 hb hz1
          go_region_law (first | (go_simp; refine (h2r.out _ _ (by first | exact Blk.new _ _ _ | exact (Blk.new _ _ _).drewN _ | exact (Blk.new _ _ _).alloc _ | exact ((Blk.new _ _ _).alloc _).drewN _ | (have := Blk.new (wb.alloc (.cells #[.int .i64 0, .int .i64 0, .int .i64 0, .bool false] 44)) 9 #[.string ⟨#[60]⟩, .string ⟨#[61]⟩, .string ⟨#[62]⟩]; rw [World.size_alloc] at this; exact this))).mono ?_; rintro e w3 ⟨rfl, hw3⟩; cases hw3))
          all_goals go_wp2_with fail
          all_goals go_meet
          all_goals first
            | exact ⟨_, rfl, Nat.le_refl _, (Blk.new wb 44 #[.int .i64 pl, .int .i64 o, .int .i64 0, .bool true]).alloc _, bel_drewN (bel_two _ _) 1⟩
            | exact ⟨_, rfl, Nat.le_succ _, (by have := Blk.new (wb.alloc (.cells #[.string ⟨#[60]⟩, .string ⟨#[61]⟩, .string ⟨#[62]⟩] 9)) 44 #[.int .i64 pl, .int .i64 o, .int .i64 0, .bool true]; rw [World.size_alloc] at this; exact this), bel_drewN (bel_two _ _) 1⟩
        case rest =>
          obtain ⟨gx, rfl, hgx, BX, hbx⟩ := hcut
          have hWc := bel_step bc hbx
          have hne : w.heap.size ≠ gx := by have := BR.lt; omega
          have hle : w.heap.size ≤ gx := by have := BR.lt; omega
          have BRc := (BR.on hbx).far (p := ⟨gx, 2, none⟩) hne (.int .i64 n)
          obtain ⟨x0, x1, x2, x3⟩ := BX.c4
          have fx := BX.frozen 2
          have BX2 : Blk (wc.setCell ⟨gx, 2, none⟩ (.int .i64 n)) gx 44 #[.int .i64 pl, .int .i64 o, .int .i64 n, .bool true] := by simpa using BX.set_ 2 (.int .i64 n)
          have hWs := hWc.setCell (p := ⟨gx, 2, none⟩) hle (.int .i64 n)
          have HZ := Lib.hid (bel_set4 hWs (Nat.le_refl _) 0 1 2 3 (.int .i64 0) (.int .i64 0) (.int .i64 0) (.bool false))
          obtain ⟨y0, y1, y2, y3⟩ := BX2.c4
          obtain ⟨q0, q1, q2, q3⟩ := BRc.c4
          have g0 := BRc.frozen 0
          have g1 := BRc.frozen 1
          have g2 := BRc.frozen 2
          have g3 := BRc.frozen 3
          clear BR bc hbx BX hgx hne h1r h2r
          go_wp2_with fail
          refine (h5r.out _).mono ?_
          rintro e w6 ⟨rfl, hw6⟩
          cases hw6
          cases one with
          | false =>
            have HD := Lib.hid (show R = cndAns none by rw [← HQ.out, HE.out, readC_parts, HPL.out.2.1]; rfl)
            go_wp2
            refine bodyPost_ret (v := .tuple #[.agg #[.int .i64 0, .int .i64 0, .int .i64 0, .bool false], .bool false]) (by simp [results, Tryz.f32, go_sem, *]) rfl ?_
            exact ⟨by rw [HD.out]; rfl, HZ.out⟩
          | true =>
            cases two with
            | false =>
              have HD := Lib.hid (show R = cndAns none by rw [← HQ.out, HE.out, readC_parts, HPL.out.2.1, HNT.out.2]; rfl)
              go_wp2
              refine bodyPost_ret (v := .tuple #[.agg #[.int .i64 0, .int .i64 0, .int .i64 0, .bool false], .bool false]) (by simp [results, Tryz.f32, go_sem, *]) rfl ?_
              exact ⟨by rw [HD.out]; rfl, HZ.out⟩
            | true =>
              have HCB := Lib.hid (show R = cndAns (if condB ⟨pl, o, n, true⟩ = true then some ⟨pl, o, n, true⟩ else none) by rw [← HQ.out, HE.out, readC_parts, HPL.out.1, HPL.out.2.1, HPL.out.2.2, HNT.out.1, HNT.out.2, HIS.out]; simp)
              go_wp2_with fail
              refine (l7Cond_any pl o n true _).mono ?_
              rintro e w7 ⟨rfl, hb7⟩
              have hW7 := bel_step hWs hb7
              have HZ7 := Lib.hid (bel_set4 hW7 (Nat.le_refl _) 0 1 2 3 (.int .i64 0) (.int .i64 0) (.int .i64 0) (.bool false))
              have HY7 := Lib.hid (bel_set4 hW7 (Nat.le_refl _) 0 1 2 3 (.int .i64 pl) (.int .i64 o) (.int .i64 n) (.bool true))
              have BX7 := BX2.on hb7
              have BR7 := BRc.on hb7
              clear x0 x1 x2 x3 fx y0 y1 y2 y3 q0 q1 q2 q3 g0 g1 g2 g3 BX2 BRc hWs hb7 hW7 hWc HZ
              obtain ⟨y0, y1, y2, y3⟩ := BX7.c4
              obtain ⟨q0, q1, q2, q3⟩ := BR7.c4
              have g0 := BR7.frozen 0
              have g1 := BR7.frozen 1
              have g2 := BR7.frozen 2
              have g3 := BR7.frozen 3
              clear BX7 BR7
              cases hc : condB ⟨pl, o, n, true⟩ with
              | false =>
                have HD := Lib.hid (show R = cndAns none by rw [HCB.out, hc]; rfl)
                clear hc HCB
                go_wp2
                refine bodyPost_ret (v := .tuple #[.agg #[.int .i64 0, .int .i64 0, .int .i64 0, .bool false], .bool false]) (by simp [results, Tryz.f32, go_sem, *]) rfl ?_
                exact ⟨by rw [HD.out]; rfl, HZ7.out⟩
              | true =>
                have HD := Lib.hid (show R = cndAns (some ⟨pl, o, n, true⟩) by rw [HCB.out, hc]; rfl)
                clear hc HCB
                go_wp2
                refine bodyPost_ret (v := .tuple #[.agg #[.int .i64 pl, .int .i64 o, .int .i64 n, .bool true], .bool true]) (by simp [results, Tryz.f32, go_sem, *]) rfl ?_
                exact ⟨by rw [HD.out]; rfl, HY7.out⟩
    · have hb : ((s[0].toNat : Int) != 36) = true := by simp [h36]
      have HD := Lib.hid (show R = cndAns none by
        rw [← HQ.out, readC_other (bl_get s 0 (by omega)) (fun e => h36 (by rw [e]; rfl))])
      go_enter Tryz.func32, Tryz.ntmps32
      go_wp2
      refine bodyPost_ret (v := .tuple #[.agg #[.int .i64 0, .int .i64 0, .int .i64 0, .bool false], .bool false]) (by simp [results, Tryz.f32, go_sem, *]) rfl ?_
      exact ⟨by rw [HD.out]; rfl, bc⟩
end Go.Proofs.YtdpokfjempdchaaGreatDoor
