/- A deed: what DeedOk says of it, of the model and of the program; the laws' copies and sizes of one; nothing that lay has turned. -/
import Derived.Test.YtdjoiehknpfigaaGreatJC
import Derived.Test.YtdjoiehknpfigaaGreatJA
import Derived.Test.YtdjoiehknpfigaaGreatJB
namespace Go.Proofs.YtdjoiehknpfigaaGreat
open Go.RowKit

/-- What a deed's kind asks of how many numbers there are. -/
def kindB (k : Int) (n : Nat) : Bool := if k = 1 ∨ k = 3 then decide (0 < n) else if k = 2 ∨ k = 4 ∨ k = 5 then decide (n = 1) else decide (k = 6) && decide (n = 0)
def deedB (k : Int) (s : ByteArray) (zs : List Int) : Bool := nameB s && (rowOkB zs && kindB k zs.length)
theorem deedB_name {k : Int} {s : ByteArray} {zs : List Int} (h : nameB s = false) : deedB k s zs = false := by unfold deedB; rw [h]; rfl
theorem deedB_row {k : Int} {s : ByteArray} {zs : List Int} (h : rowOkB zs = false) : deedB k s zs = false := by unfold deedB; rw [h, Bool.false_and, Bool.and_false]
theorem deedB_is {k : Int} {s : ByteArray} {zs : List Int} (h : nameB s = true) (h2 : rowOkB zs = true) : deedB k s zs = kindB k zs.length := by unfold deedB; rw [h, h2]; rfl
theorem deedB_all {k : Int} {s : ByteArray} {zs : List Int} (h : deedB k s zs = true) : nameB s = true ∧ rowOkB zs = true ∧ kindB k zs.length = true := by
  unfold deedB at h
  rw [Bool.and_eq_true, Bool.and_eq_true] at h
  exact h
theorem rowOkB_six {zs : List Int} (h : rowOkB zs = true) : zs.length ≤ 6 := by
  unfold rowOkB at h
  rw [Bool.and_eq_true] at h
  exact of_decide_eq_true h.2
theorem kind_cases (k : Int) : k = 1 ∨ k = 2 ∨ k = 3 ∨ k = 4 ∨ k = 5 ∨ k = 6 ∨ (k ≠ 1 ∧ k ≠ 2 ∧ k ≠ 3 ∧ k ≠ 4 ∧ k ≠ 5 ∧ k ≠ 6) := by omega

/-- A deed in memory: its value. -/
def deedV (k : Int) (s : ByteArray) (A : Option Addr) (n c : Nat) : Value := .agg #[.int .i64 k, .string s, .slice A n c]

def SzD (s : ByteArray) (n : Nat) (w : World) (e : Ending) (w' : World) : Prop :=
  ∃ x, e = .returned (.int .i64 x) ∧ (0 ≤ x → s.size ≤ 1048576 ∧ n ≤ 1048576) ∧ Below w.heap.size w w'
set_option maxRecDepth 100000 in
set_option maxHeartbeats 2000000 in
theorem szDeed_any (k : Int) (s : ByteArray) (A : Option Addr) (n c : Nat) (w : World) (hs : s.size ≤ maxLen) (hl : n ≤ maxLen) :
    Calls Tryz.prog 6 #[.agg #[.int .i64 k, .string s, .slice A n c], .int .i64 1048576] w (SzD s n w) := by
  unfold maxLen at hs
  have bc := (Below.refl w.heap.size w).alloc (Nat.le_refl _) (.cells #[.int .i64 k, .string s, .slice A n c] 25)
  by_cases hbig : 1048576 < s.size
  · go_enter Tryz.func6, Tryz.ntmps6
    go_wp2
    go_ret
    exact ⟨-1, rfl, fun h => absurd h (by omega), bc⟩
  have hx2 : 0 ≤ 1048576 - (s.size : Int) ∧ 1048576 - (s.size : Int) ≤ 1048576 := by omega
  go_enter Tryz.func6, Tryz.ntmps6
  go_wp2_with fail
  generalize w.alloc (.cells #[.int .i64 k, .string s, .slice A n c] 25) = wb at *
  refine (szInt64S_any A n c (1048576 - (s.size : Int)) wb hl hx2.1 hx2.2).mono ?_
  rintro e w1 ⟨rfl, rfl⟩
  by_cases h0 : szI n (1048576 - (s.size : Int)) < 0
  · rw [szI_no h0]
    clear h0
    go_wp2
    go_ret
    exact ⟨-1, rfl, fun h => absurd h (by omega), bc⟩
  · have hle := szI_le (n := n) (left := 1048576 - (s.size : Int)) (by omega)
    have hs0 : 0 ≤ szI n (1048576 - (s.size : Int)) := by omega
    have HN := Lib.hid (show n ≤ 1048576 by omega)
    clear hle
    generalize szI n (1048576 - (s.size : Int)) = x at *
    go_wp2
    go_ret
    exact ⟨x, rfl, fun h => ⟨by omega, HN.out⟩, bc⟩

/-- A deed that the laws copied. -/
def DeedAt (k : Int) (s : ByteArray) (zs : List Int) (w : World) (e : Ending) (w' : World) : Prop :=
  ∃ g, e = .returned (.agg #[.int .i64 k, .string s, .slice (some ⟨g, 0, none⟩) zs.length zs.length]) ∧ w.heap.size ≤ g ∧ Blk w' g 2 (i64s zs) ∧ Below w.heap.size w w'
set_option maxRecDepth 100000 in
set_option maxHeartbeats 2000000 in
theorem toDeed_any (k : Int) (s : ByteArray) (A : Option Addr) (c : Nat) (zs : List Int) (w : World) (hR : Ints w w.heap.size A zs) (hl : zs.length ≤ 1099511627776) :
    Calls Tryz.prog 9 #[.agg #[.int .i64 k, .string s, .slice A zs.length c]] w (DeedAt k s zs w) := by
  have bc := (bel_two (w := w) (.cells #[.int .i64 k, .string s, .slice A zs.length c] 25) (.cells #[.int .i64 0, .string ⟨#[]⟩, .slice none 0 0] 32)).alloc (by simp; omega) (.cells #[.int .i64 k, .string s, .slice none 0 0] 32)
  have BR := (Blk.new (w.alloc (.cells #[.int .i64 k, .string s, .slice A zs.length c] 25)) 32 #[.int .i64 0, .string ⟨#[]⟩, .slice none 0 0]).alloc (.cells #[.int .i64 k, .string s, .slice none 0 0] 32)
  have BO := Blk.new ((w.alloc (.cells #[.int .i64 k, .string s, .slice A zs.length c] 25)).alloc (.cells #[.int .i64 0, .string ⟨#[]⟩, .slice none 0 0] 32)) 32 #[.int .i64 k, .string s, .slice none 0 0]
  have e2 : (w.alloc (.cells #[.int .i64 k, .string s, .slice A zs.length c] 25)).heap.size = w.heap.size + 1 := by simp
  have e3 : ((w.alloc (.cells #[.int .i64 k, .string s, .slice A zs.length c] 25)).alloc (.cells #[.int .i64 0, .string ⟨#[]⟩, .slice none 0 0] 32)).heap.size = w.heap.size + 1 + 1 := by simp
  rw [e2] at BR
  rw [e3] at BO
  have hRb := hR.on bc
  clear e2 e3 hR
  go_enter Tryz.func9, Tryz.ntmps9
  go_wp2_with fail
  generalize ((w.alloc (.cells #[.int .i64 k, .string s, .slice A zs.length c] 25)).alloc (.cells #[.int .i64 0, .string ⟨#[]⟩, .slice none 0 0] 32)).alloc (.cells #[.int .i64 k, .string s, .slice none 0 0] 32) = wb at *
  refine (toInt64S_any A c zs wb hRb hl).mono ?_
  rintro e w1 ⟨rfl, hO1, hb1, _⟩
  have hbs := BO.lt
  have hW1 : Below w.heap.size w w1 := bc.trans (hb1.mono (by omega))
  have BO1 := BO.below hb1 hbs
  have BR1 := BR.below hb1 BR.lt
  have o0 := BO1.cell 0
  have o1 := BO1.cell 1
  have o2 := BO1.cell 2
  have fo2 := BO1.frozen 2
  have r0 := BR1.cell 0
  have r1 := BR1.cell 1
  have r2 := BR1.cell 2
  have fr0 := BR1.frozen 0
  have fr1 := BR1.frozen 1
  have fr2 := BR1.frozen 2
  simp only [List.getElem?_toArray, List.getElem?_cons_zero, List.getElem?_cons_succ] at o0 o1 o2 r0 r1 r2
  clear BO BR hRb bc hb1 BO1 BR1
  go_wp2
  refine bodyPost_ret (v := .agg #[.int .i64 k, .string s, .slice (some ⟨wb.heap.size, 0, none⟩) zs.length zs.length]) (by simp [results, Tryz.f9, go_sem, *]) rfl ?_
  refine ⟨wb.heap.size, rfl, by omega, ?_, ?_⟩
  · exact (((hO1.far (p := ⟨w.heap.size + 1 + 1, 2, none⟩) (by simp; omega) _).far (p := ⟨w.heap.size + 1, 0, none⟩) (by simp; omega) _).far (p := ⟨w.heap.size + 1, 1, none⟩) (by simp; omega) _).far (p := ⟨w.heap.size + 1, 2, none⟩) (by simp; omega) _
  · exact (((hW1.setCell (p := ⟨w.heap.size + 1 + 1, 2, none⟩) (by simp; omega) _).setCell (p := ⟨w.heap.size + 1, 0, none⟩) (by simp) _).setCell (p := ⟨w.heap.size + 1, 1, none⟩) (by simp) _).setCell (p := ⟨w.heap.size + 1, 2, none⟩) (by simp) _
set_option maxRecDepth 100000 in
set_option maxHeartbeats 2000000 in
/-- Two deeds alike: the laws' eqDeed says so. -/
theorem eqDeed_same (k : Int) (s : ByteArray) (A A' : Option Addr) (c c' : Nat) (zs : List Int) (w : World) (hR : Ints w w.heap.size A zs) (hR' : Ints w w.heap.size A' zs) (hl : zs.length ≤ 1099511627776) :
    Calls Tryz.prog 12 #[.agg #[.int .i64 k, .string s, .slice A zs.length c], .agg #[.int .i64 k, .string s, .slice A' zs.length c']] w fun e w' => e = .returned (.bool true) ∧ Below w.heap.size w w' := by
  have bc := bel_two (w := w) (.cells #[.int .i64 k, .string s, .slice A zs.length c] 32) (.cells #[.int .i64 k, .string s, .slice A' zs.length c'] 32)
  have hRb := hR.on bc
  have hRb' := hR'.on bc
  have hkk : (k != k) = false := by simp
  go_enter Tryz.func12, Tryz.ntmps12
  go_wp2_with fail
  generalize (w.alloc (.cells #[.int .i64 k, .string s, .slice A zs.length c] 32)).alloc (.cells #[.int .i64 k, .string s, .slice A' zs.length c'] 32) = wb at *
  refine (eqInt64S_any A A' c c' zs zs wb _ _ hRb hRb' hl hl).mono ?_
  rintro e w1 ⟨rfl, n1, hw1⟩
  rw [decide_eq_true (rfl : zs = zs)]
  have hb1 : Below w.heap.size w w1 := by rw [hw1]; exact bel_drewN bc n1
  clear hw1
  go_wp2
  go_ret
  exact ⟨rfl, hb1⟩
end Go.Proofs.YtdjoiehknpfigaaGreat
