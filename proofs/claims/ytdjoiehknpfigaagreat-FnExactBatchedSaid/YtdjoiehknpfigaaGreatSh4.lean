/- Contracts of the program's putRow and setRow upon the map of tables; all else stays. -/
import Derived.Test.YtdjoiehknpfigaaGreatSh3
import Derived.Deep.RegionLaw
namespace Go.Proofs.YtdjoiehknpfigaaGreat
open Go.RowKit

def putB (ts : List TB) (n : ByteArray) (z : List Int) : List TB × Int := if fndN ts n < ts.length then (ts.set (fndN ts n) (putT (tx ts (fndN ts n)) z).1, (putT (tx ts (fndN ts n)) z).2) else (ts, 1)
theorem putB_code {ts : List TB} {n : ByteArray} {z : List Int} {k : Int} (hi : fndN ts n < ts.length) (h : putT (tx ts (fndN ts n)) z = (tx ts (fndN ts n), k)) : putB ts n z = (ts, k) := by
  unfold putB
  rw [if_pos hi, h, set_same hi]
theorem placed_le {rows : List (List Int)} {z : List Int} {m : Nat} (h : ∀ r ∈ rows, r.length ≤ m) (hz : z.length ≤ m) : ∀ r ∈ placedL rows z, r.length ≤ m := fun r hr => by
  unfold placedL at hr
  rcases List.mem_append.1 hr with h1 | h1
  · exact h r (List.mem_of_mem_take h1)
  · rcases List.mem_cons.1 h1 with h2 | h2
    · rw [h2]; exact hz
    · exact h r (List.mem_of_mem_drop h2)
set_option maxRecDepth 100000 in
set_option maxHeartbeats 4000000 in
theorem putRow_any (m : Nat) (ts : List TB) (n : ByteArray) (Az : Option Addr) (cz : Nat) (z : List Int) (w : World) (hS : Sh w m ts) (hb : baseB ts = true) (hn : n.size ≤ 6) (hI : Ints w w.heap.size Az z) (hz0 : 0 < z.length) (hz6 : z.length ≤ 6) :
    Calls Tryz.prog 66 #[.map (some m), .string n, .slice Az z.length cz] w (MapAns (putB ts n z) m w) := by
  obtain ⟨P, hP⟩ : ∃ P, putB ts n z = P := ⟨_, rfl⟩
  have HPQ := Lib.hid hP
  rw [hP]
  have bc := (Below.refl w.heap.size w).alloc (Nat.le_refl _) (.cells #[.bool true, .bool false] 109)
  have BG := Blk.new w 109 #[.bool true, .bool false]
  have hS1 := hS.on bc
  have hI1 := hI.on bc
  have HC1 := Lib.hid (show ∀ W, Sh W m ts → Calls Tryz.prog 79 #[.map (some m), .string n, .int .i64 (ky z)] W fun e w' => e = .returned (.agg #[.bool (inB6 ts n), .bool (thB ts n (ky z))]) ∧ Below W.heap.size W w' from fun W h => standingAt_any m ts n (ky z) W h hb hn)
  have HC2 := Lib.hid (show ∀ W, Calls Tryz.prog 78 #[.agg #[.bool true, .bool false], .agg #[.bool (inB6 ts n), .bool (thB ts n (ky z))]] W fun e w' => e = .returned (.int .i64 (codeB true false (inB6 ts n) (thB ts n (ky z)))) ∧ Below W.heap.size W w' from fun W => codeFor_any true false _ _ W)
  obtain ⟨ib, hib⟩ : ∃ ib, inB6 ts n = ib := ⟨_, rfl⟩
  obtain ⟨tb, htb⟩ : ∃ tb, thB ts n (ky z) = tb := ⟨_, rfl⟩
  obtain ⟨cd, hcd⟩ : ∃ cd, codeB true false (inB6 ts n) (thB ts n (ky z)) = cd := ⟨_, rfl⟩
  have HCD := Lib.hid hcd
  rw [hcd] at HC2
  rw [hib, htb] at HC1 HC2
  have hzi : (0 : Int) < (z.length : Int) := by omega
  clear hS hI hib htb hcd hP
  obtain ⟨bz, oz, rfl, hbz, cz0⟩ := hI1.first hz0
  go_enter Tryz.func66, Tryz.ntmps66
  go_wp2_with fail
  have hgl := BG.lt
  generalize w.alloc (.cells #[.bool true, .bool false] 109) = wb at *
  have r0 := BG.cell 0
  have r1 := BG.cell 1
  simp only [List.getElem?_toArray, List.getElem?_cons_zero, List.getElem?_cons_succ] at r0 r1
  have b0 := cell_bel hgl r0
  have b1 := cell_bel hgl r1
  have b2 := cell_bel hbz cz0
  have HS := Lib.hid (show ∀ p : BelW wb, Sh p.v m ts from fun p => hS1.on p.bel)
  clear r0 r1 BG hS1 cz0
  refine wp_quiet_bel (by kernel_rfl) (by kernel_rfl) ?_
  repeat (go_big_quiet_step (first | (go_at_call 79; exact bel_of (HC1.out _ (HS.out _))) | (go_at_call 78; exact bel_of (HC2.out _))))
  refine wpQuiet_nil ?_
  rintro w1 ⟨⟨_, hk1⟩, rfl⟩
  have hS2 : Sh w1 m ts := HS.out ⟨w1, hk1⟩
  have hI2 := hI1.on hk1
  have hW := bel_step bc hk1
  clear b0 b1 b2 HS HC1 HC2 hI1 hk1 bc hgl
  by_cases hi : fndN ts n < ts.length
  · by_cases hk : idxK (tx ts (fndN ts n)).rows (ky z) < (tx ts (fndN ts n)).rows.length
    · have HPE := Lib.hid (show P = (ts, 2) by
        rw [← HPQ.out]
        refine putB_code hi ?_
        unfold putT plB
        rw [if_neg (by rw [decide_eq_false (p := ¬ _) (by simpa using hk)]; simp), if_pos hk])
      obtain rfl : cd = 2 := by
        rw [← HCD.out, show inB6 ts n = true from decide_eq_true hi, show thB ts n (ky z) = true by unfold thB; rw [if_pos hi, decide_eq_true hk]]; rfl
      clear hi hk hb
      go_wp2
      go_ret
      exact MapAns.none_ HPE.out rfl hS2 hW
    · obtain rfl : cd = 0 := by
        rw [← HCD.out, show inB6 ts n = true from decide_eq_true hi, show thB ts n (ky z) = false by unfold thB; rw [if_pos hi, decide_eq_false hk]]; rfl
      obtain ⟨A, c, hlk, _, hR⟩ := hS2.look (n := n) (by unfold maxLen; omega) hi
      have hok := base_ok hb hi
      have hl30 := tab_len hok
      have hr4 := rows_le hb hi
      have hnm := fndN_name hi
      obtain ⟨_, hsn, hlen⟩ := base_iff.1 hb
      obtain ⟨T, hT⟩ : ∃ T, tx ts (fndN ts n) = T := ⟨_, rfl⟩
      have HT := Lib.hid hT
      rw [hT] at hlk hR hok hl30 hr4 hnm hk
      obtain ⟨nm, wd, rows⟩ := T
      have e1 : nm = n := hnm
      subst e1
      unfold tabV at hlk
      simp only at hlk hR hok hl30 hr4 hk
      have HOK := Lib.hid hok
      have HK := Lib.hid hk
      have HI := Lib.hid hi
      have b3 := (Below.refl w1.heap.size w1).alloc (Nat.le_refl _) (.cells #[.string nm, .int .i64 wd, .slice A rows.length c] 55)
      have BT := Blk.new w1 55 #[.string nm, .int .i64 wd, .slice A rows.length c]
      have hS3 := hS2.on b3
      have hI3 := hI2.on b3
      have hR3 := hR.on b3
      have hW3 := bel_step hW b3
      clear hk hi hok hT hnm hb hS2 hI2 hR hW
      go_wp2_with fail
      clear hlk
      generalize w1.alloc (.cells #[.string nm, .int .i64 wd, .slice A rows.length c] 55) = wc at *
      generalize w1.heap.size = G at *
      refine (fits_any (some ⟨bz, oz, none⟩) cz z wd (by omega) wc hI3).mono ?_
      rintro e w4 ⟨rfl, hb4⟩
      have hS4 := hS3.on hb4
      have hI4 := hI3.on hb4
      have hR4 := hR3.on hb4
      have BT4 := BT.on hb4
      have hW4 := bel_step hW3 hb4
      obtain ⟨t0, t1, t2⟩ := BT4.c3
      clear hS3 hI3 hR3 BT hW3 hb4 b3
      cases hfit : rowFit wd z with
      | false =>
        have HPE := Lib.hid (show P = (ts, 4) by
          rw [← HPQ.out]
          refine putB_code HI.out ?_
          rw [HT.out]
          unfold putT plB
          rw [if_neg (by simp [hfit]), if_neg HK.out, if_pos hfit])
        clear hfit
        go_wp2
        go_ret
        exact MapAns.none_ HPE.out rfl hS4 hW4
      | true =>
        have HFit := Lib.hid hfit
        clear hfit
        go_wp2_with fail
        refine (implPlaced_any nm wd A (some ⟨bz, oz, none⟩) c cz rows z w4 hR4 hI4 (by omega) (by omega) (by omega)).mono ?_
        rintro e w5 ⟨v5, rfl, hT5, hb5⟩
        rw [HOK.out, show tkS nm true = nm from rfl, show tkW wd true = wd from rfl] at hT5
        obtain ⟨u5, es5, rfl, hO5, he5⟩ := hT5
        have hS5 := hS4.on hb5
        have hW5 := bel_step hW4 hb5
        by_cases h30 : rows.length = 30
        · have HPL := Lib.hid (show plB nm wd rows z = false by unfold plB; rw [decide_eq_false (p := rows.length ≠ 30) (by simpa using h30), Bool.and_false])
          have HPE := Lib.hid (show P = (ts, 5) by
            rw [← HPQ.out]
            refine putB_code HI.out ?_
            rw [HT.out]
            unfold putT
            rw [if_neg (by show ¬ plB nm wd rows z = true; rw [HPL.out]; simp), if_neg HK.out, if_neg (by show ¬ rowFit wd z = false; rw [HFit.out]; simp)])
          rw [HPL.out] at he5 ⊢
          obtain ⟨A5, c5, rfl⟩ := hO5.formW he5
          have b6 := (Below.refl w5.heap.size w5).alloc (Nat.le_refl _) (.cells #[.string nm, .int .i64 wd, .slice A5 (tkR (plR rows z false) true).length c5] 55)
          have HS6 := Lib.hid (hS5.on b6)
          have HW6 := Lib.hid (bel_step hW5 b6)
          clear hO5 he5 b6 hS5 hW5 hb5 h30 hS4 hI4 hR4 t0 t1 t2 BT4
          generalize (tkR (plR rows z false) true).length = ll at *
          go_wp2
          go_ret
          exact MapAns.none_ HPE.out rfl HS6.out HW6.out
        · have HPL := Lib.hid (show plB nm wd rows z = true by
            unfold plB
            rw [HOK.out, HFit.out, decide_eq_true (p := ¬ _) HK.out, decide_eq_true (p := rows.length ≠ 30) h30]; rfl)
          have HPE := Lib.hid (show P = (ts.set (fndN ts nm) ⟨nm, wd, placedL rows z⟩, 0) by
            rw [← HPQ.out]
            unfold putB
            rw [if_pos HI.out, HT.out]
            unfold putT
            rw [if_pos (show plB nm wd rows z = true from HPL.out)])
          rw [HPL.out] at he5 ⊢
          replace he5 : es5.map Ent.r = placedL rows z := he5
          obtain ⟨A5, c5, rfl⟩ := hO5.formW he5
          have hzl : z.length ≤ 1099511627776 := by omega
          have hR5 := hO5.rwsW he5 (rr_mem.2 (placed_le (m := 1099511627776) (fun r hr => by have := hr4 r hr; omega) hzl))
          have b6 := (Below.refl w5.heap.size w5).alloc (Nat.le_refl _) (.cells #[.string nm, .int .i64 wd, .slice A5 (placedL rows z).length c5] 55)
          have hS6 := hS5.on b6
          have hW6 := bel_step hW5 b6
          obtain ⟨w7, hup, hg7, hS7⟩ := hS6.put hsn (by omega) (t := ⟨nm, wd, placedL rows z⟩) (by unfold maxLen; show nm.size ≤ _; omega) (A := A5) (c := c5) (hR5.on b6)
          rw [if_pos HI.out] at hS7
          unfold tabV at hup
          simp only at hup
          have HS7 := Lib.hid hS7
          have HG := Lib.hid (grown_trans (grown_any hW6 (some m)) hg7)
          clear hO5 he5 hR5 b6 hS6 hW6 hS5 hW5 hb5 h30 hS4 hI4 hR4 t0 t1 t2 BT4 hg7 hS7
          go_wp2
          go_ret
          exact ⟨by rw [HPE.out]; rfl, by rw [HPE.out]; exact HS7.out, HG.out⟩
  · have HPE := Lib.hid (show P = (ts, 1) by rw [← HPQ.out]; unfold putB; rw [if_neg hi])
    obtain rfl : cd = 1 := by
      rw [← HCD.out, show inB6 ts n = false from decide_eq_false hi, show thB ts n (ky z) = false from if_neg hi]; rfl
    clear hi hb
    go_wp2
    go_ret
    exact MapAns.none_ HPE.out rfl hS2 hW
end Go.Proofs.YtdjoiehknpfigaaGreat
