/- Contracts of what the program does to the map of tables: cutRow, dropTable, makeTable, putRow; all else stays. -/
import Derived.Test.YtdjoiehknpfigaaGreatSh2
import Derived.Test.YtdjoiehknpfigaaGreatTabI5
import Derived.Test.YtdjoiehknpfigaaGreatTabI6
namespace Go.Proofs.YtdjoiehknpfigaaGreat
open Go.RowKit

theorem grown_any {w w' : World} (h : Below w.heap.size w w') (r : Option Nat) : w.grownBy w' r := ⟨h.os, h.tape, h.output, h.size, fun k hk _ => h.block k hk⟩
/-- A code, and the map as it is then; all else stays. -/
def MapAns (P : List TB × Int) (m : Nat) (w : World) (e : Ending) (w' : World) : Prop := e = .returned (.int .i64 P.2) ∧ Sh w' m P.1 ∧ w.grownBy w' (some m)
theorem MapAns.none_ {P : List TB × Int} {ts : List TB} {k : Int} {m : Nat} {w w' : World} {e : Ending} (hP : P = (ts, k)) (he : e = .returned (.int .i64 k)) (hS : Sh w' m ts) (hb : Below w.heap.size w w') : MapAns P m w e w' := by
  subst hP; exact ⟨he, hS, grown_any hb _⟩
theorem must_no {ts : List TB} {n : ByteArray} {q : Int} (hi : ¬ fndN ts n < ts.length) : mustB ts n q = 1 := by
  unfold mustB inB6 thB
  rw [decide_eq_false hi, if_neg hi]; rfl
theorem must_key {ts : List TB} {n : ByteArray} {q : Int} (hi : fndN ts n < ts.length) (hk : ¬ idxK (tx ts (fndN ts n)).rows q < (tx ts (fndN ts n)).rows.length) : mustB ts n q = 3 := by
  unfold mustB inB6 thB
  rw [decide_eq_true hi, if_pos hi, decide_eq_false hk]; rfl
theorem must_yes {ts : List TB} {n : ByteArray} {q : Int} (hi : fndN ts n < ts.length) (hk : idxK (tx ts (fndN ts n)).rows q < (tx ts (fndN ts n)).rows.length) : mustB ts n q = 0 := by
  unfold mustB inB6 thB
  rw [decide_eq_true hi, if_pos hi, decide_eq_true hk]; rfl
theorem rows_le {ts : List TB} (h : baseB ts = true) {i : Nat} (hi : i < ts.length) : ∀ r ∈ (tx ts i).rows, r.length ≤ 4 := by
  have h0 := base_ok h hi
  unfold tabB at h0
  rw [Bool.and_eq_true] at h0
  obtain ⟨⟨hw, _⟩, _, hfit⟩ := rowsOk_iff.1 h0.2
  intro r hr
  have := fit_len (hfit r hr)
  unfold inB at hw
  rw [Bool.and_eq_true, decide_eq_true_eq, decide_eq_true_eq] at hw
  omega
def cutB (ts : List TB) (n : ByteArray) (q : Int) : List TB × Int := if fndN ts n < ts.length then (if idxK (tx ts (fndN ts n)).rows q < (tx ts (fndN ts n)).rows.length then (ts.set (fndN ts n) (takeT (tx ts (fndN ts n)) q), 0) else (ts, 3)) else (ts, 1)
set_option maxRecDepth 100000 in
set_option maxHeartbeats 4000000 in
theorem cutRow_any (m : Nat) (ts : List TB) (n : ByteArray) (q : Int) (w : World) (hS : Sh w m ts) (hb : baseB ts = true) (hn : n.size ≤ 6) :
    Calls Tryz.prog 67 #[.map (some m), .string n, .int .i64 q] w (MapAns (cutB ts n q) m w) := by
  obtain ⟨P, hP⟩ : ∃ P, cutB ts n q = P := ⟨_, rfl⟩
  have HP := Lib.hid hP
  rw [hP]
  clear hP
  go_enter Tryz.func67, Tryz.ntmps67
  go_wp2_with fail
  refine (mustHave_any m ts n q w hS hb hn).mono ?_
  rintro e w1 ⟨rfl, hb1⟩
  have hS1 := hS.on hb1
  clear hS
  by_cases hi : fndN ts n < ts.length
  · by_cases hk : idxK (tx ts (fndN ts n)).rows q < (tx ts (fndN ts n)).rows.length
    · rw [must_yes hi hk]
      have HPE := Lib.hid (show P = (ts.set (fndN ts n) (takeT (tx ts (fndN ts n)) q), 0) by rw [← HP.out]; unfold cutB; rw [if_pos hi, if_pos hk])
      obtain ⟨A, c, hlk, _, hR⟩ := hS1.look (n := n) (by unfold maxLen; omega) hi
      have hok := base_ok hb hi
      have hl30 := tab_len hok
      have hr4 := rows_le hb hi
      have hnm := fndN_name hi
      obtain ⟨_, hsn, hlen⟩ := base_iff.1 hb
      obtain ⟨i, hie⟩ : ∃ i, fndN ts n = i := ⟨_, rfl⟩
      rw [hie] at hlk hR hok hl30 hr4 hnm HPE
      obtain ⟨T, hT⟩ : ∃ T, tx ts i = T := ⟨_, rfl⟩
      rw [hT] at hlk hR hok hl30 hr4 hnm HPE
      obtain ⟨nm, wd, rows⟩ := T
      have e1 : nm = n := hnm
      subst e1
      unfold tabV at hlk
      simp only at hlk hR hok hl30 hr4
      have HK := Lib.hid (show thereB nm wd rows q = true by
        unfold thereB
        have : tx ts (fndN ts nm) = ⟨nm, wd, rows⟩ := by rw [hie, hT]
        rw [this] at hk
        rw [hok, decide_eq_true hk]; rfl)
      have HOK := Lib.hid hok
      have HI := Lib.hid (And.intro hi hie)
      clear hk hi hok hT hnm hb
      go_wp2_with fail
      refine (implTaken_any nm wd A c rows q w1 hR (by omega) (by omega)).mono ?_
      rintro e w2 ⟨v2, rfl, hT2, hb2⟩
      rw [HOK.out, show tkS nm true = nm from rfl, show tkW wd true = wd from rfl, show tkR (takenL rows q) true = takenL rows q from rfl] at hT2
      rw [HK.out]
      obtain ⟨u2, es2, rfl, hO2, he2⟩ := hT2
      replace he2 : es2.map Ent.r = takenL rows q := he2
      obtain ⟨A2, c2, rfl⟩ := hO2.formW he2
      have hR2 := hO2.rwsW he2 (rr_mem.2 fun r hr => by have := hr4 r (taken_mem hr); omega)
      have b3 := (Below.refl w2.heap.size w2).alloc (Nat.le_refl _) (.cells #[.string nm, .int .i64 wd, .slice A2 (takenL rows q).length c2] 55)
      have hS3 := (hS1.on hb2).on b3
      have hW3 := bel_step (bel_step hb1 hb2) b3
      obtain ⟨w4, hup, hg4, hS4⟩ := hS3.put hsn (by omega) (t := ⟨nm, wd, takenL rows q⟩) (by unfold maxLen; show nm.size ≤ _; omega) (A := A2) (c := c2) (hR2.on b3)
      rw [if_pos HI.out.1] at hS4
      unfold tabV at hup
      simp only at hup
      have HS4 := Lib.hid hS4
      have HG := Lib.hid (grown_trans (grown_any hW3 (some m)) hg4)
      clear hlk hR hO2 he2 hR2 b3 hS3 hS1 hW3 hg4 hS4 hb1 hb2

      go_wp2
      go_ret
      refine ⟨by rw [HPE.out]; rfl, ?_, HG.out⟩
      rw [HPE.out, ← HI.out.2]
      exact HS4.out
    · rw [must_key hi hk]
      have HPE := Lib.hid (show P = (ts, 3) by rw [← HP.out]; unfold cutB; rw [if_pos hi, if_neg hk])
      clear hk hi hb
      go_wp2
      go_ret
      exact MapAns.none_ HPE.out rfl hS1 hb1
  · rw [must_no hi]
    have HPE := Lib.hid (show P = (ts, 1) by rw [← HP.out]; unfold cutB; rw [if_neg hi])
    clear hi hb
    go_wp2
    go_ret
    exact MapAns.none_ HPE.out rfl hS1 hb1
def dropB (ts : List TB) (n : ByteArray) : List TB × Int := if fndN ts n < ts.length then (dropN ts (fndN ts n), 0) else (ts, 1)
set_option maxRecDepth 100000 in
set_option maxHeartbeats 4000000 in
theorem dropTable_any (m : Nat) (ts : List TB) (n : ByteArray) (w : World) (hS : Sh w m ts) (hb : baseB ts = true) (hn : n.size ≤ 6) :
    Calls Tryz.prog 71 #[.map (some m), .string n] w (MapAns (dropB ts n) m w) := by
  obtain ⟨P, hP⟩ : ∃ P, dropB ts n = P := ⟨_, rfl⟩
  have HP := Lib.hid hP
  rw [hP]
  have bc := (Below.refl w.heap.size w).alloc (Nat.le_refl _) (.cells #[.bool true, .bool false] 109)
  have BG := Blk.new w 109 #[.bool true, .bool false]
  have hS1 := hS.on bc
  have HC1 := Lib.hid (show ∀ W, Sh W m ts → Calls Tryz.prog 82 #[.map (some m), .string n] W fun e w' => e = .returned (.agg #[.bool (inB6 ts n), .bool false]) ∧ Below W.heap.size W w' from fun W h => standingOf_any m ts n W h hn)
  have HC2 := Lib.hid (show ∀ W, Calls Tryz.prog 78 #[.agg #[.bool true, .bool false], .agg #[.bool (inB6 ts n), .bool false]] W fun e w' => e = .returned (.int .i64 (codeB true false (inB6 ts n) false)) ∧ Below W.heap.size W w' from fun W => codeFor_any true false _ _ W)
  obtain ⟨ib, hib⟩ : ∃ ib, inB6 ts n = ib := ⟨_, rfl⟩
  have HIB := Lib.hid hib
  obtain ⟨cd, hcd⟩ : ∃ cd, codeB true false (inB6 ts n) false = cd := ⟨_, rfl⟩
  have HCD := Lib.hid hcd
  rw [hcd] at HC2
  rw [hib] at HC1 HC2
  clear hS hib hcd hP
  go_enter Tryz.func71, Tryz.ntmps71
  go_wp2_with fail
  have hgl := BG.lt
  generalize w.alloc (.cells #[.bool true, .bool false] 109) = wb at *
  have r0 := BG.cell 0
  have r1 := BG.cell 1
  simp only [List.getElem?_toArray, List.getElem?_cons_zero, List.getElem?_cons_succ] at r0 r1
  have b0 := cell_bel hgl r0
  have b1 := cell_bel hgl r1
  have HS := Lib.hid (show ∀ p : BelW wb, Sh p.v m ts from fun p => hS1.on p.bel)
  clear r0 r1 BG hS1
  refine wp_quiet_bel (by kernel_rfl) (by kernel_rfl) ?_
  repeat (go_big_quiet_step (first | (go_at_call 82; exact bel_of (HC1.out _ (HS.out _))) | (go_at_call 78; exact bel_of (HC2.out _))))
  refine wpQuiet_nil ?_
  rintro w1 ⟨⟨_, hk1⟩, rfl⟩
  have hS2 : Sh w1 m ts := HS.out ⟨w1, hk1⟩
  have hW := bel_step bc hk1
  clear b0 b1 HS HC1 HC2
  by_cases hi : fndN ts n < ts.length
  · have HPE := Lib.hid (show P = (dropN ts (fndN ts n), 0) by rw [← HP.out]; unfold dropB; rw [if_pos hi])
    obtain rfl : cd = 0 := by rw [← HCD.out, show inB6 ts n = true from decide_eq_true hi]; rfl
    obtain ⟨w3, hdl, hg3, hS3⟩ := hS2.del (base_iff.1 hb).2.1 (n := n) (by unfold maxLen; omega) hi
    have HS3 := Lib.hid hS3
    have HG := Lib.hid (grown_trans (grown_any hW (some m)) hg3)
    clear hS3 hg3 hS2 hi hb hk1
    go_wp2
    go_ret
    exact ⟨by rw [HPE.out]; rfl, by rw [HPE.out]; exact HS3.out, HG.out⟩
  · have HPE := Lib.hid (show P = (ts, 1) by rw [← HP.out]; unfold dropB; rw [if_neg hi])
    obtain rfl : cd = 1 := by rw [← HCD.out, show inB6 ts n = false from decide_eq_false hi]; rfl
    clear hi hb hk1
    go_wp2
    go_ret
    exact MapAns.none_ HPE.out rfl hS2 hW
set_option maxRecDepth 100000 in
set_option maxHeartbeats 4000000 in
theorem makeTable_any (m : Nat) (ts : List TB) (n : ByteArray) (x : Int) (w : World) (hS : Sh w m ts) (hb : baseB ts = true) (hnb : nameB n = true) :
    Calls Tryz.prog 70 #[.map (some m), .string n, .int .i64 x] w (MapAns (makeB ts n x) m w) := by
  have hn := name_six hnb
  obtain ⟨P, hP⟩ : ∃ P, makeB ts n x = P := ⟨_, rfl⟩
  have HP := Lib.hid hP
  rw [hP]
  have bc := (Below.refl w.heap.size w).alloc (Nat.le_refl _) (.cells #[.bool false, .bool false] 109)
  have BG := Blk.new w 109 #[.bool false, .bool false]
  have hS1 := hS.on bc
  have HC1 := Lib.hid (show ∀ W, Sh W m ts → Calls Tryz.prog 82 #[.map (some m), .string n] W fun e w' => e = .returned (.agg #[.bool (inB6 ts n), .bool false]) ∧ Below W.heap.size W w' from fun W h => standingOf_any m ts n W h hn)
  have HC2 := Lib.hid (show ∀ W, Calls Tryz.prog 78 #[.agg #[.bool false, .bool false], .agg #[.bool (inB6 ts n), .bool false]] W fun e w' => e = .returned (.int .i64 (codeB false false (inB6 ts n) false)) ∧ Below W.heap.size W w' from fun W => codeFor_any false false _ _ W)
  obtain ⟨ib, hib⟩ : ∃ ib, inB6 ts n = ib := ⟨_, rfl⟩
  obtain ⟨cd, hcd⟩ : ∃ cd, codeB false false (inB6 ts n) false = cd := ⟨_, rfl⟩
  have HCD := Lib.hid hcd
  rw [hcd] at HC2
  rw [hib] at HC1 HC2
  clear hS hib hcd hP
  go_enter Tryz.func70, Tryz.ntmps70
  go_wp2_with fail
  have hgl := BG.lt
  generalize w.alloc (.cells #[.bool false, .bool false] 109) = wb at *
  have r0 := BG.cell 0
  have r1 := BG.cell 1
  simp only [List.getElem?_toArray, List.getElem?_cons_zero, List.getElem?_cons_succ] at r0 r1
  have b0 := cell_bel hgl r0
  have b1 := cell_bel hgl r1
  have HS := Lib.hid (show ∀ p : BelW wb, Sh p.v m ts from fun p => hS1.on p.bel)
  clear r0 r1 BG hS1
  refine wp_quiet_bel (by kernel_rfl) (by kernel_rfl) ?_
  repeat (go_big_quiet_step (first | (go_at_call 82; exact bel_of (HC1.out _ (HS.out _))) | (go_at_call 78; exact bel_of (HC2.out _))))
  refine wpQuiet_nil ?_
  rintro w1 ⟨⟨_, hk1⟩, rfl⟩
  have hS2 : Sh w1 m ts := HS.out ⟨w1, hk1⟩
  have hW := bel_step bc hk1
  clear b0 b1 HS HC1 HC2
  by_cases hi : fndN ts n < ts.length
  · have HPE := Lib.hid (show P = (ts, 2) by rw [← HP.out]; unfold makeB; rw [if_pos hi])
    obtain rfl : cd = 2 := by rw [← HCD.out, show inB6 ts n = true from decide_eq_true hi]; rfl
    clear hi hb hk1
    go_wp2
    go_ret
    exact MapAns.none_ HPE.out rfl hS2 hW
  · obtain rfl : cd = 0 := by rw [← HCD.out, show inB6 ts n = false from decide_eq_false hi]; rfl
    have b3 := (Below.refl w1.heap.size w1).alloc (Nat.le_refl _) (.cells #[.string n, .int .i64 x, .slice none 0 0] 55)
    have BT := Blk.new w1 55 #[.string n, .int .i64 x, .slice none 0 0]
    have hS3 := hS2.on b3
    have hW3 := bel_step hW b3
    clear hk1 hS2 hW
    go_wp2_with fail
    generalize w1.alloc (.cells #[.string n, .int .i64 x, .slice none 0 0] 55) = wc at *
    refine (implTableOk_any n x none 0 [] wc (fun h => absurd h (by simp)) (by omega) (by decide)).mono ?_
    rintro e w4 ⟨rfl, hb4⟩
    have hS4 := hS3.on hb4
    have hW4 := bel_step hW3 hb4
    have BT4 := BT.on hb4
    have HTB := Lib.hid (show tabB n x [] = inB x 1 4 by unfold tabB rowsOkB; rw [hnb]; cases inB x 1 4 <;> rfl)
    rw [HTB.out]
    clear hS3 hW3 BT hb4 b3
    generalize w1.heap.size = G at *
    cases hin : inB x 1 4 with
    | false =>
      have HPE := Lib.hid (show P = (ts, 4) by rw [← HP.out]; unfold makeB; rw [if_neg hi, if_pos hin])
      clear hin hi hb
      go_wp2
      go_ret
      exact MapAns.none_ HPE.out rfl hS4 hW4
    | true =>
      have hlen := hS4.len
      by_cases h4 : ts.length = 4
      · have HPE := Lib.hid (show P = (ts, 5) by rw [← HP.out]; unfold makeB; rw [if_neg hi, if_neg (by rw [hin]; simp), if_pos h4])
        rw [h4] at hlen
        clear hin hi hb h4
        go_wp2
        go_ret
        exact MapAns.none_ HPE.out rfl hS4 hW4
      · have HPE := Lib.hid (show P = (insN ts ⟨n, x, []⟩, 0) by rw [← HP.out]; unfold makeB; rw [if_neg hi, if_neg (by rw [hin]; simp), if_neg h4])
        have hne : ((ts.length : Int) == 4) = false := by simp; omega
        obtain ⟨_, hsn, hlen4⟩ := base_iff.1 hb
        obtain ⟨t0, t1, t2⟩ := BT4.c3
        obtain ⟨w5, hup, hg5, hS5⟩ := hS4.put hsn (by omega) (t := ⟨n, x, []⟩) (by unfold maxLen; show n.size ≤ _; omega) (A := none) (c := 0) (fun h => absurd h (by simp))
        rw [if_neg hi] at hS5
        unfold tabV at hup
        simp only [List.length_nil] at hup
        have HS5 := Lib.hid hS5
        have HG := Lib.hid (grown_trans (grown_any hW4 (some m)) hg5)
        clear hin hi hb h4 hS5 hg5 hS4 BT4
        go_wp2
        go_ret
        exact ⟨by rw [HPE.out]; rfl, by rw [HPE.out]; exact HS5.out, HG.out⟩
end Go.Proofs.YtdjoiehknpfigaaGreat
