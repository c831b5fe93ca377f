/- Conds read from their text: the model's ReadConds: a row of conds of the call's own; for texts of at most 2^30 bytes. -/
import Derived.Test.YtdpokfjempdchaaGreatDoorCndR
import Derived.Test.YtdpokfjempdchaaGreatDoorJK2
import Derived.Test.YtdpokfjempdchaaGreatDoorRead3
import Derived.Maps.AppendAt
namespace Go.Proofs.YtdpokfjempdchaaGreatDoor
open Go.RowKit

def ccl (c : Cnd) : List Value := [.int .i64 c.p, .int .i64 c.o, .int .i64 c.t, .bool c.i]
def cflat : List Cnd → List Value
  | [] => []
  | c :: l => ccl c ++ cflat l
theorem cflat_length : ∀ l : List Cnd, (cflat l).length = l.length * 4
  | [] => rfl
  | c :: l => by simp only [cflat, List.length_append, List.length_cons, cflat_length l]; show 4 + _ = _; omega
theorem cflat_snoc : ∀ (l : List Cnd) (c : Cnd), cflat (l ++ [c]) = cflat l ++ ccl c
  | [], c => by simp [cflat]
  | d :: l, c => by simp [cflat, cflat_snoc l c]
/-- The answer of a reader of conds, in memory. -/
def CAns (p : List Cnd × Bool) (w : World) (e : Ending) (w' : World) : Prop :=
  ∃ v, e = .returned (.tuple #[v, .bool p.2]) ∧ w'.ownsRow w.heap.size 44 4 v p.1.length (cflat p.1) ∧ Below w.heap.size w w'
theorem reads_cond {w : World} {X : Nat} {c : Cnd} (hX : Blk w X 44 #[.int .i64 c.p, .int .i64 c.o, .int .i64 c.t, .bool c.i]) : Reads w w.heap.size 4 (some ⟨X, 0, none⟩) 1 (ccl c) := by
  refine ⟨rfl, fun _ => ⟨_, rfl, hX.lt, fun j u hu => ?_⟩⟩
  have ea : Addr.add ⟨X, 0, none⟩ j = ⟨X, 0 + j, none⟩ := by unfold Addr.add; split <;> simp_all
  rw [ea, Nat.zero_add, hX.cell j, ← hu]
  simp [ccl]
theorem own_cond0 (w : World) (lo : Nat) (h : lo ≤ w.heap.size) : (w.alloc (.cells #[] 44)).ownsRow lo 44 4 (.slice (some ⟨w.heap.size, 0, none⟩) 0 0) 0 [] :=
  ⟨rfl, .inr ⟨w.heap.size, 0, #[], rfl, h, heap_alloc_new w _, Nat.le_refl _, by decide, rfl, rfl⟩⟩
theorem specReadCs_none {s : List UInt8} (h : s ≠ [45]) (h2 : (spl 44 s).mapM readC = none) : specReadCs s = ([], false) := by unfold specReadCs; rw [if_neg h, h2]
theorem specReadCs_yes {s : List UInt8} {r : List Cnd} (h : s ≠ [45]) (h2 : (spl 44 s).mapM readC = some r) (h3 : r.length ≤ 3) : specReadCs s = (r, true) := by unfold specReadCs; rw [if_neg h, h2]; simp only; rw [if_pos h3]
theorem specReadCs_more {s : List UInt8} (h : s ≠ [45]) (h3 : 3 < (spl 44 s).length) : specReadCs s = ([], false) := by
  cases hx : (spl 44 s).mapM readC with
  | none => exact specReadCs_none h hx
  | some r =>
    have := mapM_len hx
    unfold specReadCs
    rw [if_neg h, hx]
    simp only
    rw [if_neg (by omega)]

set_option maxRecDepth 100000 in
set_option maxHeartbeats 4000000 in
theorem specReadConds_any (s : ByteArray) (w : World) (hs : s.size ≤ 1073741824) :
    Calls Tryz.prog 11 #[.string s] w (CAns (specReadCs (bl s)) w) := by
  obtain ⟨i0, hi0, hz0, hz1, hz2⟩ := info_parts info_cond
  have hB0 : Below w.heap.size w (w.alloc (.cells #[] 44)) := (Below.refl _ _).alloc (Nat.le_refl _) _
  have hE0 := own_cond0 w w.heap.size (Nat.le_refl _)
  by_cases h45 : bl s = [45]
  · obtain rfl : s = ⟨#[45]⟩ := bl_eta s [45] h45
    have HR : Hid (specReadCs (bl ⟨#[45]⟩) = ([], true)) := rfl
    clear h45
    go_enter Tryz.func11, Tryz.ntmps11
    go_wp2
    go_ret2
    unfold CAns
    rw [HR.out]
    exact ⟨_, rfl, hE0, hB0⟩
  · have hb : (s.toList == [45]) = false := by rw [toList_bl]; simpa using h45
    have H45 := Lib.hid h45
    clear h45
    go_enter Tryz.func11, Tryz.ntmps11
    go_wp2_with fail
    refine (l1Split_any s 44 _ hs).mono ?_
    rintro e w1 ⟨v1, ts, rfl, hts, hown1, hb1⟩
    obtain ⟨A1, cap1, rfl, hS1⟩ := strs_of_own hown1
    have HTS := Lib.hid hts
    have hE1 := hE0.kept (grown_of_below hb1) (by simp [Value.ownBlock])
    have hb01 : Below w.heap.size w w1 := hB0.trans (hb1.mono hB0.size)
    have hlen : ts.length ≤ 1073741825 := by
      have h1 := spl_length 44 (bl s)
      have h2 : (bl s).count 44 ≤ (bl s).length := List.count_le_length
      rw [← hts, List.length_map] at h1
      rw [bl_length] at h2
      omega
    have hown1' : w1.ownsRow w.heap.size 9 1 (.slice A1 ts.length cap1) ts.length (strl ts) := by
      rcases hown1 with ⟨h1, h2⟩
      refine ⟨h1, ?_⟩
      rcases h2 with h2 | ⟨g, cap, cur, h3, h4, h5⟩
      · exact .inl h2
      · exact .inr ⟨g, cap, cur, h3, by simp at h4; omega, h5⟩
    clear hts hown1 hE0 hB0 hb1 hS1
    go_wp2
    go_loopw [4, 6] (fun v i wr => ∃ (k : Nat) (r : List Cnd), k ≤ ts.length ∧ i = .int .i64 k ∧ r.length = k ∧ k ≤ 3 ∧ ((ts.map bl).take k).mapM readC = some r ∧ wr.ownsRow w.heap.size 44 4 v k (cflat r) ∧ wr.ownsRow w.heap.size 9 1 (.slice A1 ts.length cap1) ts.length (strl ts) ∧ Below w.heap.size w wr) (fun _ i _ => ts.length - (intOf i).toNat)
    case atStart => exact ⟨0, [], Nat.zero_le _, rfl, rfl, by omega, rfl, hE1, hown1', hb01⟩
    case round =>
      obtain ⟨k, r, hk, rfl, hrk, hk3, hr, hown, hstr, hbel⟩ := hrel
      have HRK := Lib.hid hrk
      have HR := Lib.hid hr
      have hlm : (ts.map bl).length = ts.length := List.length_map _
      have HLM := Lib.hid hlm
      clear hrk hr hE1 hown1' hb01 hlm
      obtain ⟨A4, c4, hv4⟩ : ∃ A c, u4 = .slice A k c := by
        rcases hown.2 with ⟨h1, h2⟩ | ⟨g, cap, cur, h1, _⟩
        · exact ⟨none, 0, by rw [h1, h2]⟩
        · exact ⟨_, cap, h1⟩
      subst hv4
      by_cases hlt : k < ts.length
      · have hk2 : k < (ts.map bl).length := by rw [HLM.out]; exact hlt
        have hsz : (sx ts k).size ≤ 1073741824 := by have := word_le HTS.out hlt; omega
        obtain ⟨b, off, rfl, hb, hc⟩ := strs_at hstr (by omega)
        have hck := hc k hlt
        have hki : (k : Int) < (ts.length : Int) := by omega
        clear hc
        go_wp2_with fail
        refine (l7Read_any (sx ts k) wr hsz).mono ?_
        rintro e w2 ⟨rfl, hb2⟩
        have hbel2 := bel_step hbel hb2
        cases hx : readC (bl (sx ts k)) with
        | none =>
          have HN := Lib.hid (specReadCs_none H45.out (by rw [← HTS.out]; exact mapM_stop _ _ k hk2 (by rw [word_at ts hlt hk2]; exact hx)))
          have hba := hbel2.alloc hbel2.size (.cells #[.int .i64 0, .int .i64 0, .int .i64 0, .bool false] 44)
          clear hx
          unfold cndAns
          simp only [cndV, zeroC]
          go_wp2
          go_ret2
          unfold CAns
          rw [HN.out]
          exact ⟨_, rfl, (by have := own_cond0 (w2.alloc (.cells #[.int .i64 0, .int .i64 0, .int .i64 0, .bool false] 44)) w.heap.size hba.size; rw [World.size_alloc] at this; exact this), hba.alloc hba.size _⟩
        | some x =>
          have hba := hbel2.alloc hbel2.size (.cells #[.int .i64 x.p, .int .i64 x.o, .int .i64 x.t, .bool x.i] 44)
          by_cases h3 : k = 3
          · have HN := Lib.hid (specReadCs_more H45.out (by rw [← HTS.out]; omega))
            have h3b : ((k : Int) == 3) = true := by simp [h3]
            clear hx
            unfold cndAns
            simp only [cndV]
            go_wp2
            go_ret2
            unfold CAns
            rw [HN.out]
            exact ⟨_, rfl, (by have := own_cond0 (w2.alloc (.cells #[.int .i64 x.p, .int .i64 x.o, .int .i64 x.t, .bool x.i] 44)) w.heap.size hba.size; rw [World.size_alloc] at this; exact this), hba.alloc hba.size _⟩
          · have HN := Lib.hid (mapM_take_succ readC (ts.map bl) k r x hk2 HR.out (by rw [word_at ts hlt hk2]; exact hx))
            have h3b : ((k : Int) == 3) = false := by simp; omega
            have hk4 : k + 1 ≤ 3 := by omega
            have howna := (hown.kept (grown_of_below hb2) (by cases h : (Value.slice A4 k c4).ownBlock <;> simp)).alloc (.cells #[.int .i64 x.p, .int .i64 x.o, .int .i64 x.t, .bool x.i] 44)
            have hstra := (hstr.kept (grown_of_below hb2) (by cases h : (Value.slice (some ⟨b, off, none⟩) ts.length cap1).ownBlock <;> simp)).alloc (.cells #[.int .i64 x.p, .int .i64 x.o, .int .i64 x.t, .bool x.i] 44)
            clear hx h3 hown hstr hbel hbel2
            unfold cndAns
            simp only [cndV]
            have howna2 := howna.alloc (.cells #[.int .i64 x.p, .int .i64 x.o, .int .i64 x.t, .bool x.i] 44)
            have hstra2 := hstra.alloc (.cells #[.int .i64 x.p, .int .i64 x.o, .int .i64 x.t, .bool x.i] 44)
            have hba2 := hba.alloc hba.size (.cells #[.int .i64 x.p, .int .i64 x.o, .int .i64 x.t, .bool x.i] 44)
            have hX2 := reads_cond (c := x) (Blk.new (w2.alloc (.cells #[.int .i64 x.p, .int .i64 x.o, .int .i64 x.t, .bool x.i] 44)) 44 #[.int .i64 x.p, .int .i64 x.o, .int .i64 x.t, .bool x.i])
            simp only [World.size_alloc] at hX2
            have HX := Lib.hid (And.intro howna2 (And.intro hstra2 (And.intro hba2 hX2)))
            clear howna hstra hba howna2 hstra2 hba2 hX2
            have hone : ∀ u ∈ ccl x, u.oneCell' = true := by simp [ccl, Value.oneCell']
            have h63 : k + 1 ≤ maxLen := by simp only [maxLen]; omega
            have h64 : (k + 1) * 32 ≤ 140737488355328 := by omega
            have HO1 := Lib.hid hone
            have H63 := Lib.hid h63
            clear hone h63
            go_wp2_with (at_builtin; refine wpList_append_any _ (by rfl) (.tmp 37) (.tmp 39) 24 (by rfl) w.heap.size 44 i0 _ 4 32 Tryz.underlying24 hi0 hz0 hz1 hz2 rfl (by decide) (.slice A4 k c4) k (cflat r) (by rfl) HX.out.1 _ (some ⟨w2.heap.size + 1, 0, none⟩) 1 1 (ccl x) (by rfl) HX.out.2.2.2 HO1.out H63.out h64 HX.out.2.2.1.size ?_; intro v3 w3 hown3 hgrow3 hat3)
            have hb3 : Below w.heap.size w w3 := HX.out.2.2.1.grown hgrow3 HX.out.2.2.1.size (fun g hg => (HX.out.1.lt g hg).1)
            have hstr3 := HX.out.2.1.kept hgrow3 (own_ne HX.out.2.1 HX.out.1 (by decide))
            rw [← cflat_snoc] at hown3
            clear hgrow3 hat3
            go_roundw
            case rel => exact ⟨k + 1, r ++ [x], by omega, by go_num, by simp [HRK.out], hk4, HN.out, hown3, hstr3, hb3⟩
            case measure => simp [intOf]; omega
      · have hd : decide (k < ts.length) = false := by simpa using hlt
        have hr2 : (spl 44 (bl s)).mapM readC = some r := by
          have := HR.out
          rw [List.take_of_length_le (by rw [HLM.out]; omega), HTS.out] at this
          exact this
        have HN := Lib.hid (specReadCs_yes H45.out hr2 (by rw [HRK.out]; exact hk3))
        rw [← HRK.out] at hown
        clear hr2
        go_wp2
        go_ret2
        unfold CAns
        rw [HN.out]
        exact ⟨_, rfl, (by have h := hown; rw [HRK.out] at h ⊢; exact h), hbel⟩
end Go.Proofs.YtdpokfjempdchaaGreatDoor
