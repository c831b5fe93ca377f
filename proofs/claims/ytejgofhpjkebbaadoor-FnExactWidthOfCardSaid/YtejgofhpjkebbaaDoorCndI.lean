/- The program's words on conds: its table of ops, which conds are right; nothing that lay has turned. -/
import Derived.Test.YtejgofhpjkebbaaDoorCndL
import Derived.Test.YtejgofhpjkebbaaDoorQuietB
import Derived.Laws.EntriesVeiled
namespace Go.Proofs.YtejgofhpjkebbaaDoor
open Go.RowKit

def opsA : Array Value := #[.int .i64 1, .string ⟨#[60]⟩, .func (.func 71) #[] #[], .int .i64 2, .string ⟨#[61]⟩, .func (.func 72) #[] #[], .int .i64 3, .string ⟨#[62]⟩, .func (.func 73) #[] #[]]
theorem condOps_any (w : World) :
    Calls Tryd.prog 70 #[] w fun e w' => e = .returned (.slice (some ⟨w.heap.size, 0, none⟩) 3 3) ∧ Blk w' w.heap.size 97 opsA ∧ Below w.heap.size w w' := by
  go_enter Tryd.func70, Tryd.ntmps70
  go_wp2
  go_ret
  exact ⟨rfl, Blk.new _ _ _, (Below.refl _ _).alloc (Nat.le_refl _) _⟩

def opV (o : Int) : Value := if o = 1 then .agg #[.int .i64 1, .string ⟨#[60]⟩, .func (.func 71) #[] #[]] else if o = 2 then .agg #[.int .i64 2, .string ⟨#[61]⟩, .func (.func 72) #[] #[]] else if o = 3 then .agg #[.int .i64 3, .string ⟨#[62]⟩, .func (.func 73) #[] #[]] else .agg #[.int .i64 0, .string ⟨#[]⟩, .nilFunc]
def opB (o : Int) : Bool := inB o 1 3

theorem opV_1 : opV 1 = .agg #[.int .i64 1, .string ⟨#[60]⟩, .func (.func 71) #[] #[]] := rfl
theorem opV_2 : opV 2 = .agg #[.int .i64 2, .string ⟨#[61]⟩, .func (.func 72) #[] #[]] := rfl
theorem opV_3 : opV 3 = .agg #[.int .i64 3, .string ⟨#[62]⟩, .func (.func 73) #[] #[]] := rfl
theorem opV_no {o : Int} (h : opB o = false) : opV o = .agg #[.int .i64 0, .string ⟨#[]⟩, .nilFunc] := by
  unfold opB inB at h
  rw [Bool.and_eq_false_iff, decide_eq_false_iff_not, decide_eq_false_iff_not] at h
  unfold opV
  rw [if_neg (by omega), if_neg (by omega), if_neg (by omega)]
theorem blk3 {w : World} {G : Nat} (h : Blk w G 97 opsA) : (w.cell? ⟨G, 0, none⟩ = some (.int .i64 1) ∧ w.cell? ⟨G, 1, none⟩ = some (.string ⟨#[60]⟩) ∧ w.cell? ⟨G, 2, none⟩ = some (.func (.func 71) #[] #[])) ∧ (w.cell? ⟨G, 3, none⟩ = some (.int .i64 2) ∧ w.cell? ⟨G, 4, none⟩ = some (.string ⟨#[61]⟩) ∧ w.cell? ⟨G, 5, none⟩ = some (.func (.func 72) #[] #[])) ∧ (w.cell? ⟨G, 6, none⟩ = some (.int .i64 3) ∧ w.cell? ⟨G, 7, none⟩ = some (.string ⟨#[62]⟩) ∧ w.cell? ⟨G, 8, none⟩ = some (.func (.func 73) #[] #[])) :=
  ⟨⟨h.cell 0, h.cell 1, h.cell 2⟩, ⟨h.cell 3, h.cell 4, h.cell 5⟩, ⟨h.cell 6, h.cell 7, h.cell 8⟩⟩

set_option maxRecDepth 100000 in
set_option maxHeartbeats 4000000 in
theorem opOf_any (o : Int) (w : World) :
    Calls Tryd.prog 67 #[.int .i64 o] w fun e w' => e = .returned (.tuple #[opV o, .bool (opB o)]) ∧ Below w.heap.size w w' := by
  obtain ⟨V, hV⟩ : ∃ V, opV o = V := ⟨_, rfl⟩
  obtain ⟨R, hR⟩ : ∃ R, opB o = R := ⟨_, rfl⟩
  have HQ := Lib.hid (And.intro hV hR)
  rw [hV, hR]
  clear hV hR
  have bc := (Below.refl w.heap.size w).alloc (Nat.le_refl _) (.cells #[.int .i64 0, .string ⟨#[]⟩, .nilFunc] 97)
  have BR := Blk.new w 97 #[.int .i64 0, .string ⟨#[]⟩, .nilFunc]
  go_enter Tryd.func67, Tryd.ntmps67
  go_wp2_with fail
  generalize w.alloc (.cells #[.int .i64 0, .string ⟨#[]⟩, .nilFunc] 97) = wa at *
  refine (condOps_any wa).mono ?_
  rintro e w1 ⟨rfl, BA, hb1⟩
  have hW1 := bel_step bc hb1
  have BR1 := BR.on hb1
  have hAR : w.heap.size < wa.heap.size := BR.lt
  generalize wa.heap.size = ga at *
  clear BR bc hb1
  go_wp2
  go_loopw [8] (fun i wr => ∃ k : Nat, k ≤ 3 ∧ i = .int .i64 k ∧ (∀ j : Nat, j < k → o ≠ (j : Int) + 1) ∧ Blk wr w.heap.size 97 #[.int .i64 0, .string ⟨#[]⟩, .nilFunc] ∧ Blk wr ga 97 opsA ∧ Below w.heap.size w wr) (fun i _ => 3 - (intOf i).toNat)
  case atStart => exact ⟨0, by omega, rfl, fun j hj => absurd hj (by omega), BR1, BA, hW1⟩
  case round =>
    clear BR1 BA hW1
    obtain ⟨k, hk, rfl, ht, BR, BA, hW⟩ := hrel
    have HT := Lib.hid ht
    clear ht
    obtain ⟨⟨a0, a1, a2⟩, ⟨a3, a4, a5⟩, a6, a7, a8⟩ := blk3 BA
    have hGl := BR.lt
    have hGa := BA.lt
    obtain ⟨q0, q1, q2⟩ := BR.c3
    have e0 := BR.frozen 0
    have e1 := BR.frozen 1
    have e2 := BR.frozen 2
    obtain rfl | rfl | rfl | rfl : k = 0 ∨ k = 1 ∨ k = 2 ∨ k = 3 := by omega
    · by_cases ho : o = 1
      · have HD := Lib.hid (show V = .agg #[.int .i64 1, .string ⟨#[60]⟩, .func (.func 71) #[] #[]] ∧ R = true by rw [← HQ.out.1, ← HQ.out.2, ho]; exact ⟨rfl, rfl⟩)
        have hoB : ((1 : Int) == o) = true := by simp [ho]
        have hb3 := ((((hW.setCell (p := ⟨w.heap.size, 0, none⟩) (Nat.le_refl _) (.int .i64 1)).setCell (p := ⟨w.heap.size, 1, none⟩) (Nat.le_refl _) (.string ⟨#[60]⟩)).setCell (p := ⟨w.heap.size, 2, none⟩) (Nat.le_refl _) (.func (.func 71) #[] #[]))).alloc (by simp [World.setCell]; omega) (.cells #[.int .i64 1, .string ⟨#[60]⟩, .func (.func 71) #[] #[]] 97)
        have HB3 := Lib.hid hb3
        clear ho hb3
        go_wp2
        refine bodyPost_ret (v := .tuple #[.agg #[.int .i64 1, .string ⟨#[60]⟩, .func (.func 71) #[] #[]], .bool true]) (by simp [results, Tryd.f67, go_sem, *]) rfl ?_
        exact ⟨by rw [HD.out.1, HD.out.2], HB3.out⟩
      · have HO := Lib.hid ho
        have hoB : ((1 : Int) == o) = false := by simp; omega
        have BR2 := BR.alloc (.cells #[.int .i64 1, .string ⟨#[60]⟩, .func (.func 71) #[] #[]] 97)
        have BA2 := BA.alloc (.cells #[.int .i64 1, .string ⟨#[60]⟩, .func (.func 71) #[] #[]] 97)
        have hW2 := hW.alloc hW.size (.cells #[.int .i64 1, .string ⟨#[60]⟩, .func (.func 71) #[] #[]] 97)
        clear ho
        go_wp2
        go_roundw
        case rel => exact ⟨1, by omega, by go_num, fun j hj => by
          by_cases e : j = 0
          · subst e; have := HO.out; omega
          · exact HT.out j (by omega), BR2, BA2, hW2⟩
        case measure => simp [intOf]
    · by_cases ho : o = 2
      · have HD := Lib.hid (show V = .agg #[.int .i64 2, .string ⟨#[61]⟩, .func (.func 72) #[] #[]] ∧ R = true by rw [← HQ.out.1, ← HQ.out.2, ho]; exact ⟨rfl, rfl⟩)
        have hoB : ((2 : Int) == o) = true := by simp [ho]
        have hb3 := ((((hW.setCell (p := ⟨w.heap.size, 0, none⟩) (Nat.le_refl _) (.int .i64 2)).setCell (p := ⟨w.heap.size, 1, none⟩) (Nat.le_refl _) (.string ⟨#[61]⟩)).setCell (p := ⟨w.heap.size, 2, none⟩) (Nat.le_refl _) (.func (.func 72) #[] #[]))).alloc (by simp [World.setCell]; omega) (.cells #[.int .i64 2, .string ⟨#[61]⟩, .func (.func 72) #[] #[]] 97)
        have HB3 := Lib.hid hb3
        clear ho hb3
        go_wp2
        refine bodyPost_ret (v := .tuple #[.agg #[.int .i64 2, .string ⟨#[61]⟩, .func (.func 72) #[] #[]], .bool true]) (by simp [results, Tryd.f67, go_sem, *]) rfl ?_
        exact ⟨by rw [HD.out.1, HD.out.2], HB3.out⟩
      · have HO := Lib.hid ho
        have hoB : ((2 : Int) == o) = false := by simp; omega
        have BR2 := BR.alloc (.cells #[.int .i64 2, .string ⟨#[61]⟩, .func (.func 72) #[] #[]] 97)
        have BA2 := BA.alloc (.cells #[.int .i64 2, .string ⟨#[61]⟩, .func (.func 72) #[] #[]] 97)
        have hW2 := hW.alloc hW.size (.cells #[.int .i64 2, .string ⟨#[61]⟩, .func (.func 72) #[] #[]] 97)
        clear ho
        go_wp2
        go_roundw
        case rel => exact ⟨2, by omega, by go_num, fun j hj => by
          by_cases e : j = 1
          · subst e; have := HO.out; omega
          · exact HT.out j (by omega), BR2, BA2, hW2⟩
        case measure => simp [intOf]
    · by_cases ho : o = 3
      · have HD := Lib.hid (show V = .agg #[.int .i64 3, .string ⟨#[62]⟩, .func (.func 73) #[] #[]] ∧ R = true by rw [← HQ.out.1, ← HQ.out.2, ho]; exact ⟨rfl, rfl⟩)
        have hoB : ((3 : Int) == o) = true := by simp [ho]
        have hb3 := ((((hW.setCell (p := ⟨w.heap.size, 0, none⟩) (Nat.le_refl _) (.int .i64 3)).setCell (p := ⟨w.heap.size, 1, none⟩) (Nat.le_refl _) (.string ⟨#[62]⟩)).setCell (p := ⟨w.heap.size, 2, none⟩) (Nat.le_refl _) (.func (.func 73) #[] #[]))).alloc (by simp [World.setCell]; omega) (.cells #[.int .i64 3, .string ⟨#[62]⟩, .func (.func 73) #[] #[]] 97)
        have HB3 := Lib.hid hb3
        clear ho hb3
        go_wp2
        refine bodyPost_ret (v := .tuple #[.agg #[.int .i64 3, .string ⟨#[62]⟩, .func (.func 73) #[] #[]], .bool true]) (by simp [results, Tryd.f67, go_sem, *]) rfl ?_
        exact ⟨by rw [HD.out.1, HD.out.2], HB3.out⟩
      · have HO := Lib.hid ho
        have hoB : ((3 : Int) == o) = false := by simp; omega
        have BR2 := BR.alloc (.cells #[.int .i64 3, .string ⟨#[62]⟩, .func (.func 73) #[] #[]] 97)
        have BA2 := BA.alloc (.cells #[.int .i64 3, .string ⟨#[62]⟩, .func (.func 73) #[] #[]] 97)
        have hW2 := hW.alloc hW.size (.cells #[.int .i64 3, .string ⟨#[62]⟩, .func (.func 73) #[] #[]] 97)
        clear ho
        go_wp2
        go_roundw
        case rel => exact ⟨3, by omega, by go_num, fun j hj => by
          by_cases e : j = 2
          · subst e; have := HO.out; omega
          · exact HT.out j (by omega), BR2, BA2, hW2⟩
        case measure => simp [intOf]
    · have hno : opB o = false := by
        have h0 := HT.out 0 (by omega)
        have h1 := HT.out 1 (by omega)
        have h2 := HT.out 2 (by omega)
        unfold opB inB
        rw [Bool.and_eq_false_iff, decide_eq_false_iff_not, decide_eq_false_iff_not]
        omega
      have HD := Lib.hid (show V = .agg #[.int .i64 0, .string ⟨#[]⟩, .nilFunc] ∧ R = false by rw [← HQ.out.1, ← HQ.out.2]; exact ⟨opV_no hno, hno⟩)
      have hb3 := ((hW.setCell (p := ⟨w.heap.size, 0, none⟩) (Nat.le_refl _) (.int .i64 0)).setCell (p := ⟨w.heap.size, 1, none⟩) (Nat.le_refl _) (.string ⟨#[]⟩)).setCell (p := ⟨w.heap.size, 2, none⟩) (Nat.le_refl _) .nilFunc
      have HB3 := Lib.hid hb3
      clear hb3 hno
      go_wp2
      refine bodyPost_ret (v := .tuple #[.agg #[.int .i64 0, .string ⟨#[]⟩, .nilFunc], .bool false]) (by simp [results, Tryd.f67, go_sem, *]) rfl ?_
      exact ⟨by rw [HD.out.1, HD.out.2], HB3.out⟩
theorem placeOk_any (x : Int) (w : World) :
    Calls Tryd.prog 66 #[.int .i64 x] w fun e w' => e = .returned (.bool (inB x 0 5)) ∧ w = w' := by
  unfold inB
  by_cases h1 : 0 ≤ x
  · have e : decide (x ≤ 5) = decide (x < 6) := decide_eq_decide.2 (by omega)
    rw [decide_eq_true h1, e]
    go_enter Tryd.func66, Tryd.ntmps66
    go_wp2
    go_ret
    exact ⟨by simp, rfl⟩
  · have hd := decide_eq_false h1
    rw [hd]
    go_enter Tryd.func66, Tryd.ntmps66
    go_wp2
    go_ret
    exact ⟨by simp, rfl⟩
end Go.Proofs.YtejgofhpjkebbaaDoor
