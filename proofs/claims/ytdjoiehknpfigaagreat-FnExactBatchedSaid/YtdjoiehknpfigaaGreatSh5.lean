/- The contract of the program's setRow upon the map of tables; all else stays. -/
import Derived.Test.YtdjoiehknpfigaaGreatSh4
import Derived.Deep.RegionLaw
namespace Go.Proofs.YtdjoiehknpfigaaGreat
open Go.RowKit

def setB (ts : List TB) (n : ByteArray) (z : List Int) : List TB × Int :=
  if fndN ts n < ts.length then (if idxK (tx ts (fndN ts n)).rows (ky z) < (tx ts (fndN ts n)).rows.length then (if (putT (takeT (tx ts (fndN ts n)) (ky z)) z).2 = 0 then (ts.set (fndN ts n) (putT (takeT (tx ts (fndN ts n)) (ky z)) z).1, 0) else (ts, (putT (takeT (tx ts (fndN ts n)) (ky z)) z).2)) else (ts, 3)) else (ts, 1)
/-- Without the old row there is room and no such key: only the row itself can be wrong. -/
theorem put_taken {nm : ByteArray} {wd : Int} {rows : List (List Int)} {z : List Int} (hok : tabB nm wd rows = true) (hk : idxK rows (ky z) < rows.length) :
    plB nm wd (takenL rows (ky z)) z = rowFit wd z ∧ tabB nm wd (takenL rows (ky z)) = true ∧ putT ⟨nm, wd, takenL rows (ky z)⟩ z = (if rowFit wd z = true then (⟨nm, wd, placedL (takenL rows (ky z)) z⟩, 0) else (⟨nm, wd, takenL rows (ky z)⟩, 4)) := by
  have h0 := hok
  unfold tabB at h0
  rw [Bool.and_eq_true] at h0
  obtain ⟨⟨_, h30⟩, hsk, _⟩ := rowsOk_iff.1 h0.2
  obtain ⟨hn, hl⟩ := taken_none hsk hk
  have ht : tabB nm wd (takenL rows (ky z)) = true := by unfold tabB; rw [h0.1, taken_ok h0.2]; rfl
  have hp : plB nm wd (takenL rows (ky z)) z = rowFit wd z := by
    unfold plB
    rw [ht, decide_eq_true (p := ¬ _) (by omega), decide_eq_true (p := _ ≠ 30) (by omega)]
    cases rowFit wd z <;> rfl
  refine ⟨hp, ht, ?_⟩
  unfold putT
  show (if plB nm wd (takenL rows (ky z)) z = true then _ else if idxK (takenL rows (ky z)) (ky z) < (takenL rows (ky z)).length then _ else if rowFit wd z = false then _ else _) = _
  rw [hp]
  by_cases hf : rowFit wd z = true
  · rw [if_pos hf, if_pos hf]
  · rw [if_neg hf, if_neg hf, if_neg (by omega), if_pos (by simpa using hf)]
set_option maxRecDepth 100000 in
set_option maxHeartbeats 4000000 in
theorem setRow_any (m : Nat) (ts : List TB) (n : ByteArray) (Az : Option Addr) (cz : Nat) (z : List Int) (w : World) (hS : Sh w m ts) (hb : baseB ts = true) (hn : n.size ≤ 6) (hI : Ints w w.heap.size Az z) (hz0 : 0 < z.length) (hz6 : z.length ≤ 6) :
    Calls Tryz.prog 68 #[.map (some m), .string n, .slice Az z.length cz] w (MapAns (setB ts n z) m w) := by
  obtain ⟨P, hP⟩ : ∃ P, setB ts n z = P := ⟨_, rfl⟩
  have HPQ := Lib.hid hP
  rw [hP]
  have hzi : (0 : Int) < (z.length : Int) := by omega
  obtain ⟨bz, oz, rfl, hbz, cz0⟩ := hI.first hz0
  clear hP
  go_enter Tryz.func68, Tryz.ntmps68
  go_wp2_with fail
  refine (mustHave_any m ts n (ky z) w hS hb hn).mono ?_
  rintro e w1 ⟨rfl, hb1⟩
  have hS1 := hS.on hb1
  have hI1 := hI.on hb1
  have hbz1 : bz < w1.heap.size := Nat.lt_of_lt_of_le hbz hb1.size
  have cz1 := (hb1.cell hbz).trans cz0
  clear hS hI cz0
  by_cases hi : fndN ts n < ts.length
  · by_cases hk : idxK (tx ts (fndN ts n)).rows (ky z) < (tx ts (fndN ts n)).rows.length
    · rw [must_yes hi hk]
      obtain ⟨A, c, hlkB⟩ := hS1.lookB (n := n) (by unfold maxLen; omega) hi
      have hok := base_ok hb hi
      have hl30 := tab_len hok
      have hr4 := rows_le hb hi
      have hnm := fndN_name hi
      obtain ⟨_, hsn, hlen⟩ := base_iff.1 hb
      obtain ⟨T, hT⟩ : ∃ T, tx ts (fndN ts n) = T := ⟨_, rfl⟩
      have HT := Lib.hid hT
      rw [hT] at hlkB hok hl30 hr4 hnm hk
      obtain ⟨nm, wd, rows⟩ := T
      have e1 : nm = n := hnm
      subst e1
      unfold tabV at hlkB
      simp only at hlkB hok hl30 hr4 hk
      have HLK := Lib.hid hlkB
      obtain ⟨hpl, htk, hpt⟩ := put_taken hok hk
      have HK := Lib.hid (show thereB nm wd rows (ky z) = true by unfold thereB; rw [hok, decide_eq_true hk]; rfl)
      have HOK := Lib.hid hok
      have HPL := Lib.hid hpl
      have HTK := Lib.hid htk
      have HPT := Lib.hid (show P = (if rowFit wd z = true then (ts.set (fndN ts nm) ⟨nm, wd, placedL (takenL rows (ky z)) z⟩, 0) else (ts, 4)) by
        rw [← HPQ.out]
        unfold setB
        rw [if_pos hi, HT.out]
        simp only
        rw [if_pos hk]
        show (if (putT ⟨nm, wd, takenL rows (ky z)⟩ z).2 = 0 then _ else _) = _
        unfold takeT
        simp only
        rw [hpt]
        by_cases hf : rowFit wd z = true
        · simp [hf]
        · simp [hf])
      have HI := Lib.hid hi
      have HR4 := Lib.hid (show ∀ r ∈ takenL rows (ky z), r.length ≤ 1099511627776 from fun r hr => by have := hr4 r (taken_mem hr); omega)
      have hlk1 : ∀ k, (Instr.lookup 63 (.map (some m)) (.string nm) false).run Tryz.prog (w1.drewN k) = .ok (.agg #[.string nm, .int .i64 wd, .slice A rows.length c]) (w1.drewN k) := fun k => (hlkB _ (bel_drewN (Below.refl _ _) k)).1
      have hlk2 : ∀ k o, (Instr.lookup 63 (.map (some m)) (.string nm) false).run Tryz.prog ((w1.drewN k).alloc o) = .ok (.agg #[.string nm, .int .i64 wd, .slice A rows.length c]) ((w1.drewN k).alloc o) := fun k o => (hlkB _ ((bel_drewN (Below.refl _ _) k).alloc (Nat.le_refl _) o)).1
      have hlk3 : (Instr.lookup 63 (.map (some m)) (.string nm) false).run Tryz.prog w1.drew = .ok (.agg #[.string nm, .int .i64 wd, .slice A rows.length c]) w1.drew := hlk1 1
      have hlk4 : ∀ o, (Instr.lookup 63 (.map (some m)) (.string nm) false).run Tryz.prog (w1.drew.alloc o) = .ok (.agg #[.string nm, .int .i64 wd, .slice A rows.length c]) (w1.drew.alloc o) := hlk2 1
      have hlk5 : ∀ o, (Instr.lookup 63 (.map (some m)) (.string nm) false).run Tryz.prog (w1.alloc o).drew = .ok (.agg #[.string nm, .int .i64 wd, .slice A rows.length c]) (w1.alloc o).drew := fun o => (hlkB _ (bel_drewN ((Below.refl _ _).alloc (Nat.le_refl _) o) 1)).1
      clear hk hi hok hT hnm hb hpl htk hpt hlkB hr4 HT
      go_wp2_with fail
      go_region_law (first | (go_simp; go_at_call 81; refine (implTaken_any nm wd A c rows (ky z) _ (HLK.out _ (by first | exact bel_drewN (Below.refl _ _) _ | exact (bel_drewN (Below.refl _ _) _).alloc (Nat.le_refl _) _ | exact bel_drewN ((Below.refl _ _).alloc (Nat.le_refl _) _) 1)).2 (by omega) (by omega)).mono ?_; rw [HOK.out, HK.out, show tkS nm true = nm from rfl, show tkW wd true = wd from rfl, show tkR (takenL rows (ky z)) true = takenL rows (ky z) from rfl]; rintro e w2 ⟨v2, rfl, ⟨u2, es2, rfl, hO2, he2⟩, hb2⟩; obtain ⟨A2, c2, rfl⟩ := hO2.formW he2; first
          | (have B2 : Blk w2 w1.heap.size 55 #[.string ⟨#[]⟩, .int .i64 0, .slice none 0 0] := ((Blk.new w1 55 #[.string ⟨#[]⟩, .int .i64 0, .slice none 0 0]).drewN 1).on hb2
             have q0 := B2.cell 0
             have q1 := B2.cell 1
             have q2 := B2.cell 2
             have f0 := B2.frozen 0
             have f1 := B2.frozen 1
             have f2 := B2.frozen 2
             simp only [List.getElem?_toArray, List.getElem?_cons_zero, List.getElem?_cons_succ] at q0 q1 q2)
          | skip))
      clear hlk1 hlk2 hlk3 hlk4 hlk5
      all_goals
        have hk2 : Below w1.heap.size w1 w2 := by
          first
          | exact (bel_drewN (Below.refl _ _) 1).trans hb2
          | exact (bel_drewN ((Below.refl _ _).alloc (Nat.le_refl _) _) 1).trans (hb2.mono (by show w1.heap.size ≤ (w1.alloc _).heap.size; rw [World.size_alloc]; omega))
        go_wp2_with fail
        first
        | (have hW3 : Below w1.heap.size w1 (w2.alloc (.cells #[.string nm, .int .i64 wd, .slice A2 (takenL rows (ky z)).length c2] 55)) := hk2.alloc hk2.size _
           have hO3 : WRows (w2.alloc (.cells #[.string nm, .int .i64 wd, .slice A2 (takenL rows (ky z)).length c2] 55)) _ (.slice A2 (takenL rows (ky z)).length c2) es2 := hO2.on ((Below.refl _ _).alloc (Nat.le_refl _) _)
           generalize w2.alloc (.cells #[.string nm, .int .i64 wd, .slice A2 (takenL rows (ky z)).length c2] 55) = w3 at hW3 hO3 ⊢
           refine (implPlaced_any nm wd A2 (some ⟨bz, oz, none⟩) c2 cz (takenL rows (ky z)) z w3 (hO3.rwsW he2 (rr_mem.2 HR4.out)) (hI1.on hW3) (by omega) (by have := (taken_sub rows (ky z)).length_le; omega) (by omega)).mono ?_)
        | (have hW3 : Below w1.heap.size w1 (((w2.setCell ⟨w1.heap.size, 0, none⟩ (.string nm)).setCell ⟨w1.heap.size, 1, none⟩ (.int .i64 wd)).setCell ⟨w1.heap.size, 2, none⟩ (.slice A2 (takenL rows (ky z)).length c2)) := ((hk2.setCell (p := ⟨w1.heap.size, 0, none⟩) (by simp) _).setCell (p := ⟨w1.heap.size, 1, none⟩) (by simp) _).setCell (p := ⟨w1.heap.size, 2, none⟩) (by simp) _
           have hlo : w1.heap.size < ((w1.alloc (.cells #[.string ⟨#[]⟩, .int .i64 0, .slice none 0 0] 55)).drew).heap.size := by
             show w1.heap.size < (w1.alloc _).heap.size
             rw [World.size_alloc]; omega
           have hO3 : WRows (((w2.setCell ⟨w1.heap.size, 0, none⟩ (.string nm)).setCell ⟨w1.heap.size, 1, none⟩ (.int .i64 wd)).setCell ⟨w1.heap.size, 2, none⟩ (.slice A2 (takenL rows (ky z)).length c2)) _ (.slice A2 (takenL rows (ky z)).length c2) es2 := ((hO2.keep hO2.inside (fun b hb _ => Below.heap_setCell w2 ⟨w1.heap.size, 0, none⟩ _ b (by show b ≠ w1.heap.size; omega))).keep (hi := w2.heap.size) hO2.inside (fun b hb _ => Below.heap_setCell _ ⟨w1.heap.size, 1, none⟩ _ b (by show b ≠ w1.heap.size; omega))).keep (hi := w2.heap.size) hO2.inside (fun b hb _ => Below.heap_setCell _ ⟨w1.heap.size, 2, none⟩ _ b (by show b ≠ w1.heap.size; omega))
           generalize ((w2.setCell ⟨w1.heap.size, 0, none⟩ (.string nm)).setCell ⟨w1.heap.size, 1, none⟩ (.int .i64 wd)).setCell ⟨w1.heap.size, 2, none⟩ (.slice A2 (takenL rows (ky z)).length c2) = w3 at hW3 hO3 ⊢
           refine (implPlaced_any nm wd A2 (some ⟨bz, oz, none⟩) c2 cz (takenL rows (ky z)) z w3 (hO3.rwsW he2 (rr_mem.2 HR4.out)) (hI1.on hW3) (by omega) (by have := (taken_sub rows (ky z)).length_le; omega) (by omega)).mono ?_)
        rw [HPL.out, HTK.out, show tkS nm true = nm from rfl, show tkW wd true = wd from rfl]
        rintro e w5 ⟨v5, rfl, ⟨u5, es5, rfl, hO5, he5⟩, hb5⟩
        have hS5 := hS1.on (bel_step hW3 hb5)
        have hW5 := bel_step hb1 (bel_step hW3 hb5)
        clear hO3 hO2 hb5 hW3 hk2 hb2
        cases hf : rowFit wd z with
        | false =>
          have HPE := Lib.hid (show P = (ts, 4) by rw [HPT.out, hf]; rfl)
          rw [hf] at he5
          obtain ⟨A5, c5, rfl⟩ := hO5.formW he5
          have b6 := (Below.refl w5.heap.size w5).alloc (Nat.le_refl _) (.cells #[.string nm, .int .i64 wd, .slice A5 (tkR (plR (takenL rows (ky z)) z false) true).length c5] 55)
          have HS6 := Lib.hid (hS5.on b6)
          have HW6 := Lib.hid (bel_step hW5 b6)
          clear hO5 he5 b6 hS5 hW5 hf
          generalize (tkR (plR (takenL rows (ky z)) z false) true).length = ll at *
          go_wp2
          go_ret
          exact MapAns.none_ HPE.out rfl HS6.out HW6.out
        | true =>
          have HPE := Lib.hid (show P = (ts.set (fndN ts nm) ⟨nm, wd, placedL (takenL rows (ky z)) z⟩, 0) by rw [HPT.out, hf]; rfl)
          rw [hf] at he5
          replace he5 : es5.map Ent.r = placedL (takenL rows (ky z)) z := he5
          obtain ⟨A5, c5, rfl⟩ := hO5.formW he5
          have hzl : z.length ≤ 1099511627776 := by omega
          have hR5 := hO5.rwsW he5 (rr_mem.2 (placed_le (m := 1099511627776) HR4.out hzl))
          have b6 := (Below.refl w5.heap.size w5).alloc (Nat.le_refl _) (.cells #[.string nm, .int .i64 wd, .slice A5 (placedL (takenL rows (ky z)) z).length c5] 55)
          have hS6 := hS5.on b6
          have hW6 := bel_step hW5 b6
          obtain ⟨w7, hup, hg7, hS7⟩ := hS6.put hsn (by omega) (t := ⟨nm, wd, placedL (takenL rows (ky z)) z⟩) (by unfold maxLen; show nm.size ≤ _; omega) (A := A5) (c := c5) (hR5.on b6)
          rw [if_pos HI.out] at hS7
          unfold tabV at hup
          simp only at hup
          have HS7 := Lib.hid hS7
          have HG := Lib.hid (grown_trans (grown_any hW6 (some m)) hg7)
          clear hO5 he5 hR5 b6 hS6 hW6 hS5 hW5 hf hg7 hS7
          go_wp2
          go_ret
          exact ⟨by rw [HPE.out]; rfl, by rw [HPE.out]; exact HS7.out, HG.out⟩
    · rw [must_key hi hk]
      have HPE := Lib.hid (show P = (ts, 3) by rw [← HPQ.out]; unfold setB; rw [if_pos hi, if_neg hk])
      clear hk hi hb
      go_wp2
      go_ret
      exact MapAns.none_ HPE.out rfl hS1 hb1
  · rw [must_no hi]
    have HPE := Lib.hid (show P = (ts, 1) by rw [← HPQ.out]; unfold setB; rw [if_neg hi])
    clear hi hb
    go_wp2
    go_ret
    exact MapAns.none_ HPE.out rfl hS1 hb1
end Go.Proofs.YtdjoiehknpfigaaGreat
