/- Texts joined: CndS, CndH, CndI, CndJ, CndK: contracts and plain facts; each says its own below. -/
import Derived.Test.YtpadhcoboapodaaGreatDoorJV2
import Derived.Test.YtpadhcoboapodaaGreatDoorJV3
import Derived.Test.YtpadhcoboapodaaGreatDoorJA
import Derived.Laws.EntriesVeiled
/- The model's words on conds: which are right, which hold for a row; nothing that lay has turned. -/
namespace Go.Proofs.YtpadhcoboapodaaGreatDoor
open Go.RowKit

theorem condB_p {c : Cnd} (h : inB c.p 0 5 = false) : condB c = false := by unfold condB; rw [h]; rfl
theorem condB_o {c : Cnd} (h : inB c.o 1 3 = false) : condB c = false := by unfold condB; rw [h, Bool.and_false]; rfl
theorem condB_t {c : Cnd} (h1 : inB c.p 0 5 = true) (h2 : inB c.o 1 3 = true) : condB c = if c.i = true then inB c.t (-1000) 1000 else inB c.t 0 5 := by unfold condB; rw [h1, h2]; rfl

set_option maxRecDepth 100000 in
set_option maxHeartbeats 2000000 in
theorem l7Cond_any (p o t : Int) (i : Bool) (w : World) :
    Calls Tryz.prog 52 #[.agg #[.int .i64 p, .int .i64 o, .int .i64 t, .bool i]] w fun e w' => e = .returned (.bool (condB ⟨p, o, t, i⟩)) ∧ Below w.heap.size w w' := by
  have bc := (Below.refl w.heap.size w).alloc (Nat.le_refl _) (.cells #[.int .i64 p, .int .i64 o, .int .i64 t, .bool i] 63)
  obtain ⟨c0, c1, c2, c3⟩ := (Blk.new w 63 #[.int .i64 p, .int .i64 o, .int .i64 t, .bool i]).c4
  obtain ⟨R, hR⟩ : ∃ R, condB ⟨p, o, t, i⟩ = R := ⟨_, rfl⟩
  have HQ := Lib.hid hR
  rw [hR]
  clear hR
  go_enter Tryz.func52, Tryz.ntmps52
  go_wp2_with fail
  generalize w.alloc (.cells #[.int .i64 p, .int .i64 o, .int .i64 t, .bool i] 63) = wb at *
  refine (l1In_any p 0 5 wb).mono ?_
  rintro e w1 ⟨rfl, rfl⟩
  cases hp : inB p 0 5 with
  | false =>
    have HD := Lib.hid (show R = false by rw [← HQ.out]; exact condB_p hp)
    clear hp
    go_wp2
    go_ret
    exact ⟨ret_bool HD.out.symm, bc⟩
  | true =>
    have HP := Lib.hid hp
    clear hp
    go_wp2_with fail
    refine (l1In_any o 1 3 wb).mono ?_
    rintro e w1 ⟨rfl, rfl⟩
    cases ho : inB o 1 3 with
    | false =>
      have HD := Lib.hid (show R = false by rw [← HQ.out]; exact condB_o ho)
      clear ho
      go_wp2
      go_ret
      exact ⟨ret_bool HD.out.symm, bc⟩
    | true =>
      have HD := Lib.hid (show R = if i = true then inB t (-1000) 1000 else inB t 0 5 by rw [← HQ.out]; exact condB_t HP.out ho)
      clear ho
      cases i
      · go_wp2_with fail
        refine (l1In_any t 0 5 wb).mono ?_
        rintro e w1 ⟨rfl, rfl⟩
        generalize hx : inB t 0 5 = x at *
        have HX := Lib.hid hx
        clear hx
        go_wp2
        go_ret
        exact ⟨ret_bool (by rw [HD.out, ← HX.out]; rfl), bc⟩
      · go_wp2_with fail
        refine (l1In_any t (-1000) 1000 wb).mono ?_
        rintro e w1 ⟨rfl, rfl⟩
        generalize hx : inB t (-1000) 1000 = x at *
        have HX := Lib.hid hx
        clear hx
        go_wp2
        go_ret
        exact ⟨ret_bool (by rw [HD.out, ← HX.out]; rfl), bc⟩

set_option maxRecDepth 100000 in
set_option maxHeartbeats 2000000 in
theorem l7Right_any (A : Option Addr) (c : Nat) (l : List Cnd) (w : World) (hC : Cnds w w.heap.size A l) (hl : l.length ≤ 1099511627776) :
    Calls Tryz.prog 39 #[.slice A l.length c] w fun e w' => e = .returned (.bool (rightB l)) ∧ Below w.heap.size w w' := by
  go_enter Tryz.func39, Tryz.ntmps39
  go_wp2
  go_loopw [3] (fun i wr => ∃ k : Nat, k ≤ l.length ∧ i = .int .i64 k ∧ (l.take k).all condB = true ∧ Below w.heap.size w wr) (fun i _ => l.length - (intOf i).toNat)
  case atStart => exact ⟨0, Nat.zero_le _, rfl, by simp, Below.refl _ _⟩
  case round =>
    obtain ⟨k, hk, rfl, ht, hW⟩ := hrel
    have HT := Lib.hid ht
    clear ht
    by_cases hlt : k < l.length
    · have hCr := hC.on hW
      obtain ⟨b, off, rfl, _, h0, h1, h2, h3⟩ := hCr.here hlt
      clear hC hCr
      go_wp2_with fail
      refine (l7Cond_any (cx l k).p (cx l k).o (cx l k).t (cx l k).i wr).mono ?_
      rintro e w1 ⟨rfl, hb1⟩
      rw [cnd_eta]
      have hW1 := bel_step hW hb1
      clear h0 h1 h2 h3 hW hb1
      cases hc : condB (cx l k) with
      | false =>
        have HF := Lib.hid (rightB_stop hlt hc)
        clear hc
        go_wp2
        go_ret
        exact ⟨ret_bool HF.out.symm, hW1⟩
      | true =>
        have HS := Lib.hid (show (l.take (k + 1)).all condB = true by rw [all_snocC _ _ _ hlt, HT.out, hc]; rfl)
        clear hc
        go_wp2
        go_roundw
        case rel => exact ⟨k + 1, by omega, by go_num, HS.out, hW1⟩
        case measure => simp [intOf]; omega
    · have HR := Lib.hid (show rightB l = decide (l.length ≤ 3) by
        have := HT.out
        rw [List.take_of_length_le (by omega)] at this
        unfold rightB; rw [this]; rfl)
      have hd : decide (k < l.length) = false := by simpa using hlt
      go_wp2
      go_ret
      exact ⟨ret_bool (by rw [HR.out]; exact decide_eq_decide.2 (by omega)), hW⟩

theorem fitC_p {wd : Int} {c : Cnd} (h : wd ≤ c.p) : fitC wd c = false := by unfold fitC; rw [decide_eq_false (by omega)]; rfl
theorem fitC_i {wd : Int} {c : Cnd} (h : ¬ wd ≤ c.p) (h2 : c.i = true) : fitC wd c = true := by unfold fitC; rw [decide_eq_true (by omega), h2]; rfl
theorem fitC_t {wd : Int} {c : Cnd} (h : ¬ wd ≤ c.p) (h2 : c.i = false) : fitC wd c = decide (c.t < wd) := by unfold fitC; rw [decide_eq_true (by omega), h2]; rfl

end Go.Proofs.YtpadhcoboapodaaGreatDoor

/- What holds for a row: the model's Holds; nothing that lay has turned. -/
namespace Go.Proofs.YtpadhcoboapodaaGreatDoor
open Go.RowKit

theorem holdsB_conds {l : List Cnd} {row : List Int} (h : condsB l row.length = false) : holdsB l row = false := by unfold holdsB; rw [h]; rfl
theorem holdsB_row {l : List Cnd} {row : List Int} (h : rowOkB row = false) : holdsB l row = false := by unfold holdsB; rw [h]; simp
theorem holdsB_is {l : List Cnd} {row : List Int} (h : condsB l row.length = true) (h2 : rowOkB row = true) : holdsB l row = l.all (holdC row) := by unfold holdsB; rw [h, h2]; rfl
theorem holdC_is {row : List Int} {c : Cnd} {pn : Nat} (hp : c.p = pn) : holdC row c = opH c.o (ix row pn) (otherC row c) := by unfold holdC; rw [hp]; rfl
theorem other_i {row : List Int} {c : Cnd} (h : c.i = true) : otherC row c = c.t := by unfold otherC; rw [if_pos h]
theorem other_t {row : List Int} {c : Cnd} {tn : Nat} (h : c.i = false) (ht : c.t = tn) : otherC row c = ix row tn := by unfold otherC; rw [if_neg (by rw [h]; simp), ht]; rfl
/-- What the conds say of the cond at place k, for a row that they are right for. -/
theorem cond_at {l : List Cnd} {wd : Int} (h : condsB l wd = true) {k : Nat} (hk : k < l.length) : (0 ≤ (cx l k).p ∧ (cx l k).p < wd) ∧ (1 ≤ (cx l k).o ∧ (cx l k).o ≤ 3) ∧ ((cx l k).i = true ∨ ((cx l k).i = false ∧ 0 ≤ (cx l k).t ∧ (cx l k).t < wd)) := by
  obtain ⟨⟨h1, _⟩, h2⟩ := condsB_iff.1 h
  obtain ⟨hp, ho, ht⟩ := condB_iff.1 (h1 _ (cx_mem hk))
  obtain ⟨f1, f2⟩ := fitC_iff.1 (h2 _ (cx_mem hk))
  refine ⟨⟨hp.1, f1⟩, ho, ?_⟩
  rcases ht with ht | ht
  · exact .inl ht.1
  · right
    refine ⟨ht.1, ht.2.1, ?_⟩
    rcases f2 with f2 | f2
    · rw [ht.1] at f2; cases f2
    · exact f2

end Go.Proofs.YtpadhcoboapodaaGreatDoor

/- The program's words on conds: its table of ops, which conds are right; nothing that lay has turned. -/
namespace Go.Proofs.YtpadhcoboapodaaGreatDoor
open Go.RowKit

def opsA : Array Value := #[.int .i64 1, .string ⟨#[60]⟩, .func (.func 72) #[] #[], .int .i64 2, .string ⟨#[61]⟩, .func (.func 73) #[] #[], .int .i64 3, .string ⟨#[62]⟩, .func (.func 74) #[] #[]]
theorem condOps_any (w : World) :
    Calls Tryz.prog 56 #[] w fun e w' => e = .returned (.slice (some ⟨w.heap.size, 0, none⟩) 3 3) ∧ Blk w' w.heap.size 96 opsA ∧ Below w.heap.size w w' := by
  go_enter Tryz.func56, Tryz.ntmps56
  go_wp2
  go_ret
  exact ⟨rfl, Blk.new _ _ _, (Below.refl _ _).alloc (Nat.le_refl _) _⟩

def opV (o : Int) : Value := if o = 1 then .agg #[.int .i64 1, .string ⟨#[60]⟩, .func (.func 72) #[] #[]] else if o = 2 then .agg #[.int .i64 2, .string ⟨#[61]⟩, .func (.func 73) #[] #[]] else if o = 3 then .agg #[.int .i64 3, .string ⟨#[62]⟩, .func (.func 74) #[] #[]] else .agg #[.int .i64 0, .string ⟨#[]⟩, .nilFunc]
def opB (o : Int) : Bool := inB o 1 3

theorem opV_1 : opV 1 = .agg #[.int .i64 1, .string ⟨#[60]⟩, .func (.func 72) #[] #[]] := rfl
theorem opV_2 : opV 2 = .agg #[.int .i64 2, .string ⟨#[61]⟩, .func (.func 73) #[] #[]] := rfl
theorem opV_3 : opV 3 = .agg #[.int .i64 3, .string ⟨#[62]⟩, .func (.func 74) #[] #[]] := rfl
theorem opV_no {o : Int} (h : opB o = false) : opV o = .agg #[.int .i64 0, .string ⟨#[]⟩, .nilFunc] := by
  unfold opB inB at h
  rw [Bool.and_eq_false_iff, decide_eq_false_iff_not, decide_eq_false_iff_not] at h
  unfold opV
  rw [if_neg (by omega), if_neg (by omega), if_neg (by omega)]
theorem blk3 {w : World} {G : Nat} (h : Blk w G 96 opsA) : (w.cell? ⟨G, 0, none⟩ = some (.int .i64 1) ∧ w.cell? ⟨G, 1, none⟩ = some (.string ⟨#[60]⟩) ∧ w.cell? ⟨G, 2, none⟩ = some (.func (.func 72) #[] #[])) ∧ (w.cell? ⟨G, 3, none⟩ = some (.int .i64 2) ∧ w.cell? ⟨G, 4, none⟩ = some (.string ⟨#[61]⟩) ∧ w.cell? ⟨G, 5, none⟩ = some (.func (.func 73) #[] #[])) ∧ (w.cell? ⟨G, 6, none⟩ = some (.int .i64 3) ∧ w.cell? ⟨G, 7, none⟩ = some (.string ⟨#[62]⟩) ∧ w.cell? ⟨G, 8, none⟩ = some (.func (.func 74) #[] #[])) :=
  ⟨⟨h.cell 0, h.cell 1, h.cell 2⟩, ⟨h.cell 3, h.cell 4, h.cell 5⟩, ⟨h.cell 6, h.cell 7, h.cell 8⟩⟩

set_option maxRecDepth 100000 in
set_option maxHeartbeats 4000000 in
theorem opOf_any (o : Int) (w : World) :
    Calls Tryz.prog 78 #[.int .i64 o] w fun e w' => e = .returned (.tuple #[opV o, .bool (opB o)]) ∧ Below w.heap.size w w' := by
  obtain ⟨V, hV⟩ : ∃ V, opV o = V := ⟨_, rfl⟩
  obtain ⟨R, hR⟩ : ∃ R, opB o = R := ⟨_, rfl⟩
  have HQ := Lib.hid (And.intro hV hR)
  rw [hV, hR]
  clear hV hR
  have bc := (Below.refl w.heap.size w).alloc (Nat.le_refl _) (.cells #[.int .i64 0, .string ⟨#[]⟩, .nilFunc] 96)
  have BR := Blk.new w 96 #[.int .i64 0, .string ⟨#[]⟩, .nilFunc]
  go_enter Tryz.func78, Tryz.ntmps78
  go_wp2_with fail
  generalize w.alloc (.cells #[.int .i64 0, .string ⟨#[]⟩, .nilFunc] 96) = wa at *
  refine (condOps_any wa).mono ?_
  rintro e w1 ⟨rfl, BA, hb1⟩
  have hW1 := bel_step bc hb1
  have BR1 := BR.on hb1
  have hAR : w.heap.size < wa.heap.size := BR.lt
  generalize wa.heap.size = ga at *
  clear BR bc hb1
  go_wp2
  go_loopw [8] (fun i wr => ∃ k : Nat, k ≤ 3 ∧ i = .int .i64 k ∧ (∀ j : Nat, j < k → o ≠ (j : Int) + 1) ∧ Blk wr w.heap.size 96 #[.int .i64 0, .string ⟨#[]⟩, .nilFunc] ∧ Blk wr ga 96 opsA ∧ Below w.heap.size w wr) (fun i _ => 3 - (intOf i).toNat)
  case atStart => exact ⟨0, by omega, rfl, fun j hj => absurd hj (by omega), BR1, BA, hW1⟩
  case round =>
    clear BR1 BA hW1
    obtain ⟨k, hk, rfl, ht, BR, BA, hW⟩ := hrel
    have HT := Lib.hid ht
    clear ht
    obtain ⟨⟨a0, a1, a2⟩, ⟨a3, a4, a5⟩, a6, a7, a8⟩ := blk3 BA
    have hGl := BR.lt
    have hGa := BA.lt
    obtain ⟨q0, q1, q2⟩ := BR.c3
    have e0 := BR.frozen 0
    have e1 := BR.frozen 1
    have e2 := BR.frozen 2
    obtain rfl | rfl | rfl | rfl : k = 0 ∨ k = 1 ∨ k = 2 ∨ k = 3 := by omega
    · by_cases ho : o = 1
      · have HD := Lib.hid (show V = .agg #[.int .i64 1, .string ⟨#[60]⟩, .func (.func 72) #[] #[]] ∧ R = true by rw [← HQ.out.1, ← HQ.out.2, ho]; exact ⟨rfl, rfl⟩)
        have hoB : ((1 : Int) == o) = true := by simp [ho]
        have hb3 := ((((hW.setCell (p := ⟨w.heap.size, 0, none⟩) (Nat.le_refl _) (.int .i64 1)).setCell (p := ⟨w.heap.size, 1, none⟩) (Nat.le_refl _) (.string ⟨#[60]⟩)).setCell (p := ⟨w.heap.size, 2, none⟩) (Nat.le_refl _) (.func (.func 72) #[] #[]))).alloc (by simp [World.setCell]; omega) (.cells #[.int .i64 1, .string ⟨#[60]⟩, .func (.func 72) #[] #[]] 96)
        have HB3 := Lib.hid hb3
        clear ho hb3
        go_wp2
        refine bodyPost_ret (v := .tuple #[.agg #[.int .i64 1, .string ⟨#[60]⟩, .func (.func 72) #[] #[]], .bool true]) (by simp [results, Tryz.f78, go_sem, *]) rfl ?_
        exact ⟨by rw [HD.out.1, HD.out.2], HB3.out⟩
      · have HO := Lib.hid ho
        have hoB : ((1 : Int) == o) = false := by simp; omega
        have BR2 := BR.alloc (.cells #[.int .i64 1, .string ⟨#[60]⟩, .func (.func 72) #[] #[]] 96)
        have BA2 := BA.alloc (.cells #[.int .i64 1, .string ⟨#[60]⟩, .func (.func 72) #[] #[]] 96)
        have hW2 := hW.alloc hW.size (.cells #[.int .i64 1, .string ⟨#[60]⟩, .func (.func 72) #[] #[]] 96)
        clear ho
        go_wp2
        go_roundw
        case rel => exact ⟨1, by omega, by go_num, fun j hj => by
          by_cases e : j = 0
          · subst e; have := HO.out; omega
          · exact HT.out j (by omega), BR2, BA2, hW2⟩
        case measure => simp [intOf]
    · by_cases ho : o = 2
      · have HD := Lib.hid (show V = .agg #[.int .i64 2, .string ⟨#[61]⟩, .func (.func 73) #[] #[]] ∧ R = true by rw [← HQ.out.1, ← HQ.out.2, ho]; exact ⟨rfl, rfl⟩)
        have hoB : ((2 : Int) == o) = true := by simp [ho]
        have hb3 := ((((hW.setCell (p := ⟨w.heap.size, 0, none⟩) (Nat.le_refl _) (.int .i64 2)).setCell (p := ⟨w.heap.size, 1, none⟩) (Nat.le_refl _) (.string ⟨#[61]⟩)).setCell (p := ⟨w.heap.size, 2, none⟩) (Nat.le_refl _) (.func (.func 73) #[] #[]))).alloc (by simp [World.setCell]; omega) (.cells #[.int .i64 2, .string ⟨#[61]⟩, .func (.func 73) #[] #[]] 96)
        have HB3 := Lib.hid hb3
        clear ho hb3
        go_wp2
        refine bodyPost_ret (v := .tuple #[.agg #[.int .i64 2, .string ⟨#[61]⟩, .func (.func 73) #[] #[]], .bool true]) (by simp [results, Tryz.f78, go_sem, *]) rfl ?_
        exact ⟨by rw [HD.out.1, HD.out.2], HB3.out⟩
      · have HO := Lib.hid ho
        have hoB : ((2 : Int) == o) = false := by simp; omega
        have BR2 := BR.alloc (.cells #[.int .i64 2, .string ⟨#[61]⟩, .func (.func 73) #[] #[]] 96)
        have BA2 := BA.alloc (.cells #[.int .i64 2, .string ⟨#[61]⟩, .func (.func 73) #[] #[]] 96)
        have hW2 := hW.alloc hW.size (.cells #[.int .i64 2, .string ⟨#[61]⟩, .func (.func 73) #[] #[]] 96)
        clear ho
        go_wp2
        go_roundw
        case rel => exact ⟨2, by omega, by go_num, fun j hj => by
          by_cases e : j = 1
          · subst e; have := HO.out; omega
          · exact HT.out j (by omega), BR2, BA2, hW2⟩
        case measure => simp [intOf]
    · by_cases ho : o = 3
      · have HD := Lib.hid (show V = .agg #[.int .i64 3, .string ⟨#[62]⟩, .func (.func 74) #[] #[]] ∧ R = true by rw [← HQ.out.1, ← HQ.out.2, ho]; exact ⟨rfl, rfl⟩)
        have hoB : ((3 : Int) == o) = true := by simp [ho]
        have hb3 := ((((hW.setCell (p := ⟨w.heap.size, 0, none⟩) (Nat.le_refl _) (.int .i64 3)).setCell (p := ⟨w.heap.size, 1, none⟩) (Nat.le_refl _) (.string ⟨#[62]⟩)).setCell (p := ⟨w.heap.size, 2, none⟩) (Nat.le_refl _) (.func (.func 74) #[] #[]))).alloc (by simp [World.setCell]; omega) (.cells #[.int .i64 3, .string ⟨#[62]⟩, .func (.func 74) #[] #[]] 96)
        have HB3 := Lib.hid hb3
        clear ho hb3
        go_wp2
        refine bodyPost_ret (v := .tuple #[.agg #[.int .i64 3, .string ⟨#[62]⟩, .func (.func 74) #[] #[]], .bool true]) (by simp [results, Tryz.f78, go_sem, *]) rfl ?_
        exact ⟨by rw [HD.out.1, HD.out.2], HB3.out⟩
      · have HO := Lib.hid ho
        have hoB : ((3 : Int) == o) = false := by simp; omega
        have BR2 := BR.alloc (.cells #[.int .i64 3, .string ⟨#[62]⟩, .func (.func 74) #[] #[]] 96)
        have BA2 := BA.alloc (.cells #[.int .i64 3, .string ⟨#[62]⟩, .func (.func 74) #[] #[]] 96)
        have hW2 := hW.alloc hW.size (.cells #[.int .i64 3, .string ⟨#[62]⟩, .func (.func 74) #[] #[]] 96)
        clear ho
        go_wp2
        go_roundw
        case rel => exact ⟨3, by omega, by go_num, fun j hj => by
          by_cases e : j = 2
          · subst e; have := HO.out; omega
          · exact HT.out j (by omega), BR2, BA2, hW2⟩
        case measure => simp [intOf]
    · have hno : opB o = false := by
        have h0 := HT.out 0 (by omega)
        have h1 := HT.out 1 (by omega)
        have h2 := HT.out 2 (by omega)
        unfold opB inB
        rw [Bool.and_eq_false_iff, decide_eq_false_iff_not, decide_eq_false_iff_not]
        omega
      have HD := Lib.hid (show V = .agg #[.int .i64 0, .string ⟨#[]⟩, .nilFunc] ∧ R = false by rw [← HQ.out.1, ← HQ.out.2]; exact ⟨opV_no hno, hno⟩)
      have hb3 := ((hW.setCell (p := ⟨w.heap.size, 0, none⟩) (Nat.le_refl _) (.int .i64 0)).setCell (p := ⟨w.heap.size, 1, none⟩) (Nat.le_refl _) (.string ⟨#[]⟩)).setCell (p := ⟨w.heap.size, 2, none⟩) (Nat.le_refl _) .nilFunc
      have HB3 := Lib.hid hb3
      clear hb3 hno
      go_wp2
      refine bodyPost_ret (v := .tuple #[.agg #[.int .i64 0, .string ⟨#[]⟩, .nilFunc], .bool false]) (by simp [results, Tryz.f78, go_sem, *]) rfl ?_
      exact ⟨by rw [HD.out.1, HD.out.2], HB3.out⟩
theorem placeOk_any (x : Int) (w : World) :
    Calls Tryz.prog 82 #[.int .i64 x] w fun e w' => e = .returned (.bool (inB x 0 5)) ∧ w = w' := by
  unfold inB
  by_cases h1 : 0 ≤ x
  · have e : decide (x ≤ 5) = decide (x < 6) := decide_eq_decide.2 (by omega)
    rw [decide_eq_true h1, e]
    go_enter Tryz.func82, Tryz.ntmps82
    go_wp2
    go_ret
    exact ⟨by simp, rfl⟩
  · have hd := decide_eq_false h1
    rw [hd]
    go_enter Tryz.func82, Tryz.ntmps82
    go_wp2
    go_ret
    exact ⟨by simp, rfl⟩
end Go.Proofs.YtpadhcoboapodaaGreatDoor

/- The program's CondsOk; nothing that lay has turned. -/
namespace Go.Proofs.YtpadhcoboapodaaGreatDoor
open Go.RowKit

theorem op1_any (x y : Int) (w : World) : Calls Tryz.prog 72 #[.int .i64 x, .int .i64 y] w fun e w' => e = .returned (.bool (opH 1 x y)) ∧ w = w' := by
  have e : opH 1 x y = decide (x < y) := rfl
  rw [e]
  go_enter Tryz.func72, Tryz.ntmps72
  go_wp2
  go_ret
  exact ⟨rfl, rfl⟩
theorem op2_any (x y : Int) (w : World) : Calls Tryz.prog 73 #[.int .i64 x, .int .i64 y] w fun e w' => e = .returned (.bool (opH 2 x y)) ∧ w = w' := by
  have e : opH 2 x y = (x == y) := by
    show decide (x = y) = _
    rw [Bool.eq_iff_iff]; simp
  rw [e]
  go_enter Tryz.func73, Tryz.ntmps73
  go_wp2
  go_ret
  exact ⟨rfl, rfl⟩
theorem op3_any (x y : Int) (w : World) : Calls Tryz.prog 74 #[.int .i64 x, .int .i64 y] w fun e w' => e = .returned (.bool (opH 3 x y)) ∧ w = w' := by
  have e : opH 3 x y = decide (y < x) := rfl
  rw [e]
  go_enter Tryz.func74, Tryz.ntmps74
  go_wp2
  go_ret
  exact ⟨rfl, rfl⟩
theorem op_yes {o : Int} (h : opB o = true) : ∃ sg f, opV o = .agg #[.int .i64 o, .string sg, .func (.func f) #[] #[]] := by
  unfold opB inB at h
  rw [Bool.and_eq_true, decide_eq_true_eq, decide_eq_true_eq] at h
  have : o = 1 ∨ o = 2 ∨ o = 3 := by omega
  rcases this with rfl | rfl | rfl
  · exact ⟨_, _, opV_1⟩
  · exact ⟨_, _, opV_2⟩
  · exact ⟨_, _, opV_3⟩

set_option maxRecDepth 100000 in
set_option maxHeartbeats 4000000 in
theorem condOk_any (p o t : Int) (i : Bool) (w : World) :
    Calls Tryz.prog 89 #[.agg #[.int .i64 p, .int .i64 o, .int .i64 t, .bool i]] w fun e w' => e = .returned (.bool (condB ⟨p, o, t, i⟩)) ∧ Below w.heap.size w w' := by
  obtain ⟨R, hR⟩ : ∃ R, condB ⟨p, o, t, i⟩ = R := ⟨_, rfl⟩
  have HQ := Lib.hid hR
  rw [hR]
  clear hR
  have bc := (Below.refl w.heap.size w).alloc (Nat.le_refl _) (.cells #[.int .i64 p, .int .i64 o, .int .i64 t, .bool i] 63)
  have BC := Blk.new w 63 #[.int .i64 p, .int .i64 o, .int .i64 t, .bool i]
  obtain ⟨c0, c1, c2, c3⟩ := BC.c4
  go_enter Tryz.func89, Tryz.ntmps89
  go_wp2_with fail
  generalize w.alloc (.cells #[.int .i64 p, .int .i64 o, .int .i64 t, .bool i] 63) = wb at *
  refine (opOf_any o wb).mono ?_
  rintro e w1 ⟨rfl, hb1⟩
  have hW1 := bel_step bc hb1
  have BC1 := BC.on hb1
  clear c0 c1 c2 c3 BC bc hb1
  cases ho : opB o with
  | false =>
    have HD := Lib.hid (show R = false by rw [← HQ.out]; exact condB_o ho)
    have hWx := hW1.alloc hW1.size (.cells #[.int .i64 0, .string ⟨#[]⟩, .nilFunc] 96)
    rw [opV_no ho]
    clear ho BC1
    go_wp2
    go_ret
    exact ⟨ret_bool HD.out.symm, hWx⟩
  | true =>
    obtain ⟨sg, f, hv⟩ := op_yes ho
    have HO := Lib.hid ho
    have hWx := hW1.alloc hW1.size (.cells #[.int .i64 o, .string sg, .func (.func f) #[] #[]] 96)
    have BCx := BC1.alloc (.cells #[.int .i64 o, .string sg, .func (.func f) #[] #[]] 96)
    obtain ⟨c0, c1, c2, c3⟩ := BCx.c4
    obtain ⟨a0, a1, a2, a3⟩ := BC1.c4
    rw [hv]
    clear ho hv hW1
    go_wp2_with fail
    generalize w1.alloc (.cells #[.int .i64 o, .string sg, .func (.func f) #[] #[]] 96) = wx at *
    clear BC1 BCx a0 a1 a2 a3
    refine (placeOk_any p wx).mono ?_
    rintro e w2 ⟨rfl, rfl⟩
    cases hp : inB p 0 5 with
    | false =>
      have HD := Lib.hid (show R = false by rw [← HQ.out]; exact condB_p hp)
      clear hp
      go_wp2
      go_ret
      exact ⟨ret_bool HD.out.symm, hWx⟩
    | true =>
      have HD := Lib.hid (show R = if i = true then inB t (-1000) 1000 else inB t 0 5 by rw [← HQ.out]; exact condB_t hp HO.out)
      clear hp
      cases i
      · go_wp2_with fail
        refine (placeOk_any t wx).mono ?_
        rintro e w2 ⟨rfl, rfl⟩
        generalize hx : inB t 0 5 = x at *
        have HX := Lib.hid hx
        clear hx
        go_wp2
        go_ret
        exact ⟨ret_bool (by rw [HD.out]; rfl), hWx⟩
      · have HX := Lib.hid (show R = (decide (-1000 ≤ t) && decide (t ≤ 1000)) from HD.out)
        clear HD
        by_cases h1 : -1000 ≤ t
        · have HY := Lib.hid (show R = decide (t ≤ 1000) by rw [HX.out, decide_eq_true h1]; rfl)
          clear HX
          go_wp2
          go_ret
          exact ⟨ret_bool HY.out.symm, hWx⟩
        · have hd := decide_eq_false h1
          have HY := Lib.hid (show R = false by rw [HX.out, hd]; rfl)
          clear HX h1
          go_wp2
          go_ret
          exact ⟨ret_bool HY.out.symm, hWx⟩

set_option maxRecDepth 100000 in
set_option maxHeartbeats 4000000 in
theorem implCondsOk_any (A : Option Addr) (c : Nat) (l : List Cnd) (wd : Int) (w : World) (hC : Cnds w w.heap.size A l) (hl : l.length ≤ 1099511627776) :
    Calls Tryz.prog 77 #[.slice A l.length c, .int .i64 wd] w fun e w' => e = .returned (.bool (condsB l wd)) ∧ Below w.heap.size w w' := by
  obtain ⟨R, hR⟩ : ∃ R, condsB l wd = R := ⟨_, rfl⟩
  have HQ := Lib.hid hR
  rw [hR]
  clear hR
  by_cases hbig : (3 : Int) < l.length
  · have HD := Lib.hid (show R = false by rw [← HQ.out]; exact condsB_long (by omega))
    go_enter Tryz.func77, Tryz.ntmps77
    go_wp2
    go_ret
    exact ⟨ret_bool HD.out.symm, Below.refl _ _⟩
  have hbd : decide ((3 : Int) < l.length) = false := by simpa using hbig
  have hl3 : l.length ≤ 3 := by omega
  clear hbig
  go_enter Tryz.func77, Tryz.ntmps77
  go_wp2
  clear hbd
  go_loopw [12] (fun i wr => ∃ k : Nat, k ≤ l.length ∧ i = .int .i64 k ∧ (l.take k).all condB = true ∧ (l.take k).all (fitC wd) = true ∧ Below w.heap.size w wr) (fun i _ => l.length - (intOf i).toNat)
  case atStart => exact ⟨0, Nat.zero_le _, rfl, by simp, by simp, Below.refl _ _⟩
  case round =>
    obtain ⟨k, hk, rfl, ht, hu, hW⟩ := hrel
    have HT := Lib.hid (And.intro ht hu)
    clear ht hu
    have hCr := hC.on hW
    by_cases hlt : k < l.length
    · obtain ⟨b, off, rfl, _, h0, h1, h2, h3⟩ := hCr.here hlt
      have HE := Lib.hid (cnd_eta (cx l k))
      generalize hp : (cx l k).p = p at *
      generalize ho : (cx l k).o = o at *
      generalize ht : (cx l k).t = t at *
      generalize hi : (cx l k).i = i at *
      have HP := Lib.hid hp
      have HT2 := Lib.hid ht
      have HI := Lib.hid hi
      clear hC hCr hp ho ht hi
      have bc := (Below.refl wr.heap.size wr).alloc (Nat.le_refl _) (.cells #[.int .i64 p, .int .i64 o, .int .i64 t, .bool i] 63)
      have BC := Blk.new wr 63 #[.int .i64 p, .int .i64 o, .int .i64 t, .bool i]
      go_wp2_with fail
      generalize wr.alloc (.cells #[.int .i64 p, .int .i64 o, .int .i64 t, .bool i] 63) = wa at *
      refine (condOk_any p o t i wa).mono ?_
      rintro e w1 ⟨rfl, hb1⟩
      rw [HE.out]
      have hW1 := bel_step (bel_step hW bc) hb1
      obtain ⟨c0, c1, c2, c3⟩ := (BC.on hb1).c4
      clear h0 h1 h2 h3 BC bc hW hb1
      cases hc : condB (cx l k) with
      | false =>
        have HF := Lib.hid (show R = false by rw [← HQ.out]; exact condsB_stop1 hlt hc)
        clear hc
        go_wp2
        go_ret
        exact ⟨ret_bool HF.out.symm, hW1⟩
      | true =>
        have HS1 := Lib.hid (show (l.take (k + 1)).all condB = true by rw [all_snocC _ _ _ hlt, HT.out.1, hc]; rfl)
        clear hc
        by_cases hpw : wd ≤ p
        · have HF := Lib.hid (show R = false by rw [← HQ.out]; exact condsB_stop2 hlt (fitC_p (by rw [HP.out]; exact hpw)))
          go_wp2
          go_ret
          exact ⟨ret_bool HF.out.symm, hW1⟩
        · have hpd : decide (wd ≤ p) = false := by simpa using hpw
          cases i with
          | true =>
            have HS := Lib.hid (show (l.take (k + 1)).all (fitC wd) = true by rw [all_snocC _ _ _ hlt, HT.out.2, fitC_i (by rw [HP.out]; exact hpw) HI.out]; rfl)
            clear hpw
            go_wp2
            go_roundw
            case rel => exact ⟨k + 1, by omega, by go_num, HS1.out, HS.out, hW1⟩
            case measure => simp [intOf]; omega
          | false =>
            have HFT := Lib.hid (fitC_t (wd := wd) (by rw [HP.out]; exact hpw) HI.out)
            clear hpw
            by_cases htw : wd ≤ t
            · have HF := Lib.hid (show R = false by rw [← HQ.out]; exact condsB_stop2 hlt (by rw [HFT.out, HT2.out]; exact decide_eq_false (by omega)))
              go_wp2
              go_ret
              exact ⟨ret_bool HF.out.symm, hW1⟩
            · have htd : decide (wd ≤ t) = false := by simpa using htw
              have HS := Lib.hid (show (l.take (k + 1)).all (fitC wd) = true by rw [all_snocC _ _ _ hlt, HT.out.2, HFT.out, HT2.out, decide_eq_true (by omega)]; rfl)
              clear htw HFT
              go_wp2
              go_roundw
              case rel => exact ⟨k + 1, by omega, by go_num, HS1.out, HS.out, hW1⟩
              case measure => simp [intOf]; omega
    · have HD := Lib.hid (show R = true by
        have h1 := HT.out.1
        have h2 := HT.out.2
        rw [List.take_of_length_le (by omega)] at h1 h2
        rw [← HQ.out]
        unfold condsB rightB
        rw [h1, h2, decide_eq_true hl3]; rfl)
      have hd : decide (k < l.length) = false := by simpa using hlt
      go_wp2
      go_ret
      exact ⟨ret_bool HD.out.symm, hW⟩
end Go.Proofs.YtpadhcoboapodaaGreatDoor

/- What holds for a row: the program's Holds; nothing that lay has turned. -/
namespace Go.Proofs.YtpadhcoboapodaaGreatDoor
open Go.RowKit

end Go.Proofs.YtpadhcoboapodaaGreatDoor
