/- Contracts of what the program asks of the map of tables: standingOf, standingAt, mustHave; nothing that lay has turned. -/
import Derived.Test.YtdjoiehknpfigaaGreatSh1
import Derived.Test.YtdjoiehknpfigaaGreatBas3
namespace Go.Proofs.YtdjoiehknpfigaaGreat
open Go.RowKit

/-- Is a row of that key in the table of that name? -/
def thB (ts : List TB) (n : ByteArray) (q : Int) : Bool := if fndN ts n < ts.length then decide (idxK (tx ts (fndN ts n)).rows q < (tx ts (fndN ts n)).rows.length) else false
theorem base_ok {ts : List TB} (h : baseB ts = true) {i : Nat} (hi : i < ts.length) : tabB (tx ts i).n (tx ts i).wd (tx ts i).rows = true := (base_iff.1 h).1 _ (tx_mem hi)
theorem th_there {ts : List TB} {n : ByteArray} {q : Int} (h : baseB ts = true) (hi : fndN ts n < ts.length) : thereB (tx ts (fndN ts n)).n (tx ts (fndN ts n)).wd (tx ts (fndN ts n)).rows q = thB ts n q := by
  unfold thereB thB
  rw [if_pos hi, base_ok h hi]; rfl
theorem name_six {s : ByteArray} (h : nameB s = true) : s.size ≤ 6 := by
  unfold nameB inB at h
  rw [Bool.and_eq_true, Bool.and_eq_true, decide_eq_true_eq, decide_eq_true_eq] at h
  omega
theorem tab_name {ts : List TB} (h : baseB ts = true) {i : Nat} (hi : i < ts.length) : (tx ts i).n.size ≤ 6 := by
  have := base_ok h hi
  unfold tabB at this
  rw [Bool.and_eq_true] at this
  exact name_six this.1
set_option maxRecDepth 100000 in
set_option maxHeartbeats 2000000 in
theorem standingOf_any (m : Nat) (ts : List TB) (n : ByteArray) (w : World) (hS : Sh w m ts) (hn : n.size ≤ 6) :
    Calls Tryz.prog 82 #[.map (some m), .string n] w fun e w' => e = .returned (stV (inB6 ts n) false) ∧ Below w.heap.size w w' := by
  have bc := (Below.refl w.heap.size w).alloc (Nat.le_refl _) (.cells #[.bool false, .bool false] 109)
  have BG := Blk.new w 109 #[.bool false, .bool false]
  have hS1 := hS.on bc
  by_cases hi : fndN ts n < ts.length
  · obtain ⟨A, c, _, hlk, _⟩ := hS1.look (n := n) (by unfold maxLen; omega) hi
    have HI := Lib.hid (show inB6 ts n = true from decide_eq_true hi)
    unfold tabV at hlk
    clear hS1 hS
    go_enter Tryz.func82, Tryz.ntmps82
    go_wp2
    refine bodyPost_ret (v := .agg #[.bool true, .bool false]) (by simp [results, Tryz.f82, go_sem, *]) rfl ?_
    rw [HI.out]
    refine ⟨rfl, ?_⟩
    exact bel_two _ _
  · have hlk := hS1.look_no (n := n) (by unfold maxLen; omega) hi
    have HI := Lib.hid (show inB6 ts n = false from decide_eq_false hi)
    clear hS1 hS
    go_enter Tryz.func82, Tryz.ntmps82
    go_wp2
    refine bodyPost_ret (v := .agg #[.bool false, .bool false]) (by simp [results, Tryz.f82, go_sem, *]) rfl ?_
    rw [HI.out]
    refine ⟨rfl, ?_⟩
    exact bel_two _ _
set_option maxRecDepth 100000 in
set_option maxHeartbeats 2000000 in
theorem standingAt_any (m : Nat) (ts : List TB) (n : ByteArray) (q : Int) (w : World) (hS : Sh w m ts) (hb : baseB ts = true) (hn : n.size ≤ 6) :
    Calls Tryz.prog 79 #[.map (some m), .string n, .int .i64 q] w fun e w' => e = .returned (stV (inB6 ts n) (thB ts n q)) ∧ Below w.heap.size w w' := by
  have bc := (Below.refl w.heap.size w).alloc (Nat.le_refl _) (.cells #[.bool false, .bool false] 109)
  have BG := Blk.new w 109 #[.bool false, .bool false]
  have hS1 := hS.on bc
  by_cases hi : fndN ts n < ts.length
  · obtain ⟨A, c, _, hlk, hR⟩ := hS1.look (n := n) (by unfold maxLen; omega) hi
    have HI := Lib.hid (show inB6 ts n = true from decide_eq_true hi)
    have HT := Lib.hid (th_there (q := q) hb hi)
    have hl30 := tab_len (base_ok hb hi)
    have hn6 := tab_name hb hi
    unfold tabV at hlk
    obtain ⟨T, hT⟩ : ∃ T, tx ts (fndN ts n) = T := ⟨_, rfl⟩
    rw [hT] at hlk hR HT hl30 hn6
    have b2 := (Below.refl (w.alloc (.cells #[.bool false, .bool false] 109)).heap.size _).alloc (Nat.le_refl _) (.cells #[.string T.n, .int .i64 T.wd, .slice A T.rows.length c] 55)
    have hR2 := hR.on b2
    have BG2 := BG.on b2
    have hW2 := bel_step bc b2
    clear hS1 hS hT hi hb
    go_enter Tryz.func79, Tryz.ntmps79
    go_wp2_with fail
    clear hlk
    generalize (w.alloc (.cells #[.bool false, .bool false] 109)).alloc (.cells #[.string T.n, .int .i64 T.wd, .slice A T.rows.length c] 55) = wb at *
    refine (implRowAt_any T.n T.wd A c T.rows q wb hR2 (by omega) (by omega)).mono ?_
    rintro e w1 ⟨v1, rfl, ho1, hb1⟩
    rw [HT.out]
    obtain ⟨Av, cv, rfl⟩ := own_form ho1
    have BG3 := BG2.on hb1
    have hW3 := bel_step hW2 hb1
    have r0 := BG3.cell 0
    have r1 := BG3.cell 1
    have f0 := BG3.frozen 0
    have f1 := BG3.frozen 1
    simp only [List.getElem?_toArray, List.getElem?_cons_zero, List.getElem?_cons_succ] at r0 r1
    obtain ⟨tb, htb⟩ : ∃ tb, thB ts n q = tb := ⟨_, rfl⟩
    have HTB := Lib.hid htb
    rw [htb]
    clear htb HT
    clear BG BG2 BG3 hR hR2 b2 bc hW2 ho1 hb1
    go_wp2
    refine bodyPost_ret (v := .agg #[.bool true, .bool tb]) (by simp [results, Tryz.f79, go_sem, *]) rfl ?_
    rw [HI.out, HTB.out]
    exact ⟨rfl, (hW3.setCell (p := ⟨w.heap.size, 0, none⟩) (by simp) _).setCell (p := ⟨w.heap.size, 1, none⟩) (by simp) _⟩
  · have hlk := hS1.look_no (n := n) (by unfold maxLen; omega) hi
    have HI := Lib.hid (show inB6 ts n = false from decide_eq_false hi)
    have HT := Lib.hid (show thB ts n q = false from if_neg hi)
    have b2 := (Below.refl (w.alloc (.cells #[.bool false, .bool false] 109)).heap.size _).alloc (Nat.le_refl _) (.cells #[.string ⟨#[]⟩, .int .i64 0, .slice none 0 0] 55)
    have BG2 := BG.on b2
    have hW2 := bel_step bc b2
    clear hS1 hS hi hb
    go_enter Tryz.func79, Tryz.ntmps79
    go_wp2_with fail
    clear hlk
    generalize (w.alloc (.cells #[.bool false, .bool false] 109)).alloc (.cells #[.string ⟨#[]⟩, .int .i64 0, .slice none 0 0] 55) = wb at *
    refine (implRowAt_any ⟨#[]⟩ 0 none 0 [] q wb (fun h => absurd h (by simp)) (by decide) (by decide)).mono ?_
    rintro e w1 ⟨v1, rfl, ho1, hb1⟩
    rw [show thereB ⟨#[]⟩ 0 [] q = false from rfl]
    obtain ⟨Av, cv, rfl⟩ := own_form ho1
    have BG3 := BG2.on hb1
    have hW3 := bel_step hW2 hb1
    have r0 := BG3.cell 0
    have r1 := BG3.cell 1
    have f0 := BG3.frozen 0
    have f1 := BG3.frozen 1
    simp only [List.getElem?_toArray, List.getElem?_cons_zero, List.getElem?_cons_succ] at r0 r1
    clear BG BG2 BG3 b2 bc hW2 ho1 hb1
    go_wp2
    refine bodyPost_ret (v := .agg #[.bool false, .bool false]) (by simp [results, Tryz.f79, go_sem, *]) rfl ?_
    rw [HI.out, HT.out]
    exact ⟨rfl, (hW3.setCell (p := ⟨w.heap.size, 0, none⟩) (by simp) _).setCell (p := ⟨w.heap.size, 1, none⟩) (by simp) _⟩
def mustB (ts : List TB) (n : ByteArray) (q : Int) : Int := codeB true true (inB6 ts n) (thB ts n q)
set_option maxRecDepth 100000 in
set_option maxHeartbeats 2000000 in
theorem mustHave_any (m : Nat) (ts : List TB) (n : ByteArray) (q : Int) (w : World) (hS : Sh w m ts) (hb : baseB ts = true) (hn : n.size ≤ 6) :
    Calls Tryz.prog 69 #[.map (some m), .string n, .int .i64 q] w fun e w' => e = .returned (.int .i64 (mustB ts n q)) ∧ Below w.heap.size w w' := by
  have bc := (Below.refl w.heap.size w).alloc (Nat.le_refl _) (.cells #[.bool true, .bool true] 109)
  have BG := Blk.new w 109 #[.bool true, .bool true]
  have hS1 := hS.on bc
  have HC1 := Lib.hid (show ∀ W, Sh W m ts → Calls Tryz.prog 79 #[.map (some m), .string n, .int .i64 q] W fun e w' => e = .returned (.agg #[.bool (inB6 ts n), .bool (thB ts n q)]) ∧ Below W.heap.size W w' from fun W h => standingAt_any m ts n q W h hb hn)
  have HC2 := Lib.hid (show ∀ W, Calls Tryz.prog 78 #[.agg #[.bool true, .bool true], .agg #[.bool (inB6 ts n), .bool (thB ts n q)]] W fun e w' => e = .returned (.int .i64 (mustB ts n q)) ∧ Below W.heap.size W w' from fun W => codeFor_any true true _ _ W)
  generalize inB6 ts n = ib at *
  generalize thB ts n q = tb at *
  clear hS hb
  go_enter Tryz.func69, Tryz.ntmps69
  go_wp2_with fail
  have hgl := BG.lt
  generalize w.alloc (.cells #[.bool true, .bool true] 109) = wb at *
  have r0 := BG.cell 0
  have r1 := BG.cell 1
  simp only [List.getElem?_toArray, List.getElem?_cons_zero, List.getElem?_cons_succ] at r0 r1
  have b0 := cell_bel hgl r0
  have b1 := cell_bel hgl r1
  have HS := Lib.hid (show ∀ p : BelW wb, Sh p.v m ts from fun p => hS1.on p.bel)
  clear r0 r1 BG hS1
  refine wp_quiet_bel (by kernel_rfl) (by kernel_rfl) ?_
  repeat (go_big_quiet_step (first | (go_at_call 79; exact bel_of (HC1.out _ (HS.out _))) | (go_at_call 78; exact bel_of (HC2.out _))))
  refine wpQuiet_nil ?_
  rintro _ ⟨⟨w1, hk1⟩, rfl⟩
  clear b0 b1 HS
  go_wp2
  go_ret
  exact ⟨rfl, bel_step bc hk1⟩
end Go.Proofs.YtdjoiehknpfigaaGreat
