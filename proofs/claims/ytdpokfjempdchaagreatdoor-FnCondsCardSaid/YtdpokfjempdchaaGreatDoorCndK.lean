/- What holds for a row: the program's Holds; nothing that lay has turned. -/
import Derived.Test.YtdpokfjempdchaaGreatDoorCndH
import Derived.Test.YtdpokfjempdchaaGreatDoorCndJ
import Derived.Test.YtdpokfjempdchaaGreatDoorJA
namespace Go.Proofs.YtdpokfjempdchaaGreatDoor
open Go.RowKit

set_option maxRecDepth 100000 in
set_option maxHeartbeats 8000000 in
theorem condHolds_1 (p : Nat) (t : Int) (i : Bool) (y : Int) (A' : Option Addr) (c' : Nat) (row : List Int) (w : World) (hI : Ints w w.heap.size A' row) (hp : p < row.length) (ht : i = true → y = t) (ht2 : i = false → ∃ tn : Nat, t = tn ∧ tn < row.length ∧ y = ix row tn) (hl' : row.length ≤ 1099511627776) :
    Calls Tryz.prog 37 #[.agg #[.int .i64 p, .int .i64 1, .int .i64 t, .bool i], .slice A' row.length c'] w fun e w' => e = .returned (.bool (opH 1 (ix row p) y)) ∧ Below w.heap.size w w' := by
  obtain ⟨R, hR⟩ : ∃ R, opH 1 (ix row p) y = R := ⟨_, rfl⟩
  have HQ := Lib.hid hR
  rw [hR]
  clear hR
  have bc := (Below.refl w.heap.size w).alloc (Nat.le_refl _) (.cells #[.int .i64 p, .int .i64 1, .int .i64 t, .bool i] 44)
  have BC := Blk.new w 44 #[.int .i64 p, .int .i64 1, .int .i64 t, .bool i]
  have hIb := hI.on bc
  obtain ⟨c0, c1, c2, c3⟩ := BC.c4
  obtain ⟨br, offr, rfl, hbr, hcr⟩ := hIb (by omega)
  have hx := hcr p hp
  have hpi : (p : Int) < (row.length : Int) := by omega
  cases i with
  | true =>
    have hy := ht rfl
    clear ht ht2 hI hcr
    subst hy
    go_enter Tryz.func37, Tryz.ntmps37
    go_wp2_with fail
    generalize w.alloc (.cells #[.int .i64 p, .int .i64 1, .int .i64 y, .bool true] 44) = wb at *
    refine (opOf_any 1 wb).mono ?_
    rintro e w1 ⟨rfl, hb1⟩
    have hW1 := bel_step bc hb1
    have hWx := hW1.alloc hW1.size (.cells #[.int .i64 1, .string ⟨#[60]⟩, .func (.func 64) #[] #[]] 65)
    have BX := Blk.new w1 65 #[.int .i64 1, .string ⟨#[60]⟩, .func (.func 64) #[] #[]]
    have BC1 := (BC.on hb1).alloc (.cells #[.int .i64 1, .string ⟨#[60]⟩, .func (.func 64) #[] #[]] 65)
    have hx1 := (((Below.refl w1.heap.size w1).alloc (Nat.le_refl _) (.cells #[.int .i64 1, .string ⟨#[60]⟩, .func (.func 64) #[] #[]] 65)).cell (p := ⟨br, offr + p, none⟩) (show br < w1.heap.size from by have := hb1.size; omega)).trans ((hb1.cell (p := ⟨br, offr + p, none⟩) hbr).trans hx)
    rw [opV_1, show opB 1 = true from rfl]
    have hgc := BC1.lt
    have hgx := BX.lt
    have hgb : br < (w1.alloc (.cells #[.int .i64 1, .string ⟨#[60]⟩, .func (.func 64) #[] #[]] 65)).heap.size := cell_lt hx1
    clear c0 c1 c2 c3 hx BC bc hb1 hW1
    go_wp2_with fail
    generalize w1.alloc (.cells #[.int .i64 1, .string ⟨#[60]⟩, .func (.func 64) #[] #[]] 65) = wx at *
    generalize w1.heap.size = gx at *
    obtain ⟨c0, c1, c2, c3⟩ := BC1.c4
    obtain ⟨x0, x1, x2⟩ := BX.c3
    have b0 := cell_bel hgc c0
    have b1 := cell_bel hgx x2
    have b2 := cell_bel hgb hx1
    have HC := Lib.hid (show ∀ v : World, Calls Tryz.prog 64 #[.int .i64 (ix row p), .int .i64 y] v fun e w' => e = .returned (.bool R) ∧ v = w' from fun v => by rw [← HQ.out]; exact op1_any _ _ v)
    clear c0 c1 c2 c3 x0 x1 x2 hx1
    generalize ix row p = x at *
    refine wp_quiet_bel (by kernel_rfl) (by kernel_rfl) ?_
    repeat (go_big_quiet_step (first | (go_at_call 64; exact bel_same (HC.out _))))
    refine wpQuiet_nil ?_
    rintro w4 ⟨⟨_, hk4⟩, rfl⟩
    clear b0 b1 b2
    go_wp2
    go_ret
    exact ⟨rfl, bel_step hWx hk4⟩
  | false =>
    obtain ⟨tn, rfl, htn, hy⟩ := ht2 rfl
    have hty := hcr tn htn
    have hti : (tn : Int) < (row.length : Int) := by omega
    rw [← hy] at hty
    clear ht ht2 hI hy hcr
    go_enter Tryz.func37, Tryz.ntmps37
    go_wp2_with fail
    generalize w.alloc (.cells #[.int .i64 p, .int .i64 1, .int .i64 tn, .bool false] 44) = wb at *
    clear hty
    refine (opOf_any 1 wb).mono ?_
    rintro e w1 ⟨rfl, hb1⟩
    have hW1 := bel_step bc hb1
    have hWx := hW1.alloc hW1.size (.cells #[.int .i64 1, .string ⟨#[60]⟩, .func (.func 64) #[] #[]] 65)
    have BX := Blk.new w1 65 #[.int .i64 1, .string ⟨#[60]⟩, .func (.func 64) #[] #[]]
    have BC1 := (BC.on hb1).alloc (.cells #[.int .i64 1, .string ⟨#[60]⟩, .func (.func 64) #[] #[]] 65)
    have hx1 := (((Below.refl w1.heap.size w1).alloc (Nat.le_refl _) (.cells #[.int .i64 1, .string ⟨#[60]⟩, .func (.func 64) #[] #[]] 65)).cell (p := ⟨br, offr + p, none⟩) (show br < w1.heap.size from by have := hb1.size; omega)).trans ((hb1.cell (p := ⟨br, offr + p, none⟩) hbr).trans hx)
    rw [opV_1, show opB 1 = true from rfl]
    have hgc := BC1.lt
    have hgx := BX.lt
    have hgb : br < (w1.alloc (.cells #[.int .i64 1, .string ⟨#[60]⟩, .func (.func 64) #[] #[]] 65)).heap.size := cell_lt hx1
    clear c0 c1 c2 c3 hx BC bc hb1 hW1
    go_wp2_with fail
    generalize w1.alloc (.cells #[.int .i64 1, .string ⟨#[60]⟩, .func (.func 64) #[] #[]] 65) = wx at *
    generalize w1.heap.size = gx at *
    obtain ⟨c0, c1, c2, c3⟩ := BC1.c4
    obtain ⟨x0, x1, x2⟩ := BX.c3
    have b0 := cell_bel hgc c0
    have b1 := cell_bel hgx x2
    have b2 := cell_bel hgb hx1
    have HC := Lib.hid (show ∀ v : World, Calls Tryz.prog 64 #[.int .i64 (ix row p), .int .i64 y] v fun e w' => e = .returned (.bool R) ∧ v = w' from fun v => by rw [← HQ.out]; exact op1_any _ _ v)
    clear c0 c1 c2 c3 x0 x1 x2 hx1
    generalize ix row p = x at *
    refine wp_quiet_bel (by kernel_rfl) (by kernel_rfl) ?_
    repeat (go_big_quiet_step (first | (go_at_call 64; exact bel_same (HC.out _))))
    refine wpQuiet_nil ?_
    rintro w4 ⟨⟨_, hk4⟩, rfl⟩
    clear b0 b1 b2
    go_wp2
    go_ret
    exact ⟨rfl, bel_step hWx hk4⟩

set_option maxRecDepth 100000 in
set_option maxHeartbeats 8000000 in
theorem condHolds_2 (p : Nat) (t : Int) (i : Bool) (y : Int) (A' : Option Addr) (c' : Nat) (row : List Int) (w : World) (hI : Ints w w.heap.size A' row) (hp : p < row.length) (ht : i = true → y = t) (ht2 : i = false → ∃ tn : Nat, t = tn ∧ tn < row.length ∧ y = ix row tn) (hl' : row.length ≤ 1099511627776) :
    Calls Tryz.prog 37 #[.agg #[.int .i64 p, .int .i64 2, .int .i64 t, .bool i], .slice A' row.length c'] w fun e w' => e = .returned (.bool (opH 2 (ix row p) y)) ∧ Below w.heap.size w w' := by
  obtain ⟨R, hR⟩ : ∃ R, opH 2 (ix row p) y = R := ⟨_, rfl⟩
  have HQ := Lib.hid hR
  rw [hR]
  clear hR
  have bc := (Below.refl w.heap.size w).alloc (Nat.le_refl _) (.cells #[.int .i64 p, .int .i64 2, .int .i64 t, .bool i] 44)
  have BC := Blk.new w 44 #[.int .i64 p, .int .i64 2, .int .i64 t, .bool i]
  have hIb := hI.on bc
  obtain ⟨c0, c1, c2, c3⟩ := BC.c4
  obtain ⟨br, offr, rfl, hbr, hcr⟩ := hIb (by omega)
  have hx := hcr p hp
  have hpi : (p : Int) < (row.length : Int) := by omega
  cases i with
  | true =>
    have hy := ht rfl
    clear ht ht2 hI hcr
    subst hy
    go_enter Tryz.func37, Tryz.ntmps37
    go_wp2_with fail
    generalize w.alloc (.cells #[.int .i64 p, .int .i64 2, .int .i64 y, .bool true] 44) = wb at *
    refine (opOf_any 2 wb).mono ?_
    rintro e w1 ⟨rfl, hb1⟩
    have hW1 := bel_step bc hb1
    have hWx := hW1.alloc hW1.size (.cells #[.int .i64 2, .string ⟨#[61]⟩, .func (.func 65) #[] #[]] 65)
    have BX := Blk.new w1 65 #[.int .i64 2, .string ⟨#[61]⟩, .func (.func 65) #[] #[]]
    have BC1 := (BC.on hb1).alloc (.cells #[.int .i64 2, .string ⟨#[61]⟩, .func (.func 65) #[] #[]] 65)
    have hx1 := (((Below.refl w1.heap.size w1).alloc (Nat.le_refl _) (.cells #[.int .i64 2, .string ⟨#[61]⟩, .func (.func 65) #[] #[]] 65)).cell (p := ⟨br, offr + p, none⟩) (show br < w1.heap.size from by have := hb1.size; omega)).trans ((hb1.cell (p := ⟨br, offr + p, none⟩) hbr).trans hx)
    rw [opV_2, show opB 2 = true from rfl]
    have hgc := BC1.lt
    have hgx := BX.lt
    have hgb : br < (w1.alloc (.cells #[.int .i64 2, .string ⟨#[61]⟩, .func (.func 65) #[] #[]] 65)).heap.size := cell_lt hx1
    clear c0 c1 c2 c3 hx BC bc hb1 hW1
    go_wp2_with fail
    generalize w1.alloc (.cells #[.int .i64 2, .string ⟨#[61]⟩, .func (.func 65) #[] #[]] 65) = wx at *
    generalize w1.heap.size = gx at *
    obtain ⟨c0, c1, c2, c3⟩ := BC1.c4
    obtain ⟨x0, x1, x2⟩ := BX.c3
    have b0 := cell_bel hgc c0
    have b1 := cell_bel hgx x2
    have b2 := cell_bel hgb hx1
    have HC := Lib.hid (show ∀ v : World, Calls Tryz.prog 65 #[.int .i64 (ix row p), .int .i64 y] v fun e w' => e = .returned (.bool R) ∧ v = w' from fun v => by rw [← HQ.out]; exact op2_any _ _ v)
    clear c0 c1 c2 c3 x0 x1 x2 hx1
    generalize ix row p = x at *
    refine wp_quiet_bel (by kernel_rfl) (by kernel_rfl) ?_
    repeat (go_big_quiet_step (first | (go_at_call 65; exact bel_same (HC.out _))))
    refine wpQuiet_nil ?_
    rintro w4 ⟨⟨_, hk4⟩, rfl⟩
    clear b0 b1 b2
    go_wp2
    go_ret
    exact ⟨rfl, bel_step hWx hk4⟩
  | false =>
    obtain ⟨tn, rfl, htn, hy⟩ := ht2 rfl
    have hty := hcr tn htn
    have hti : (tn : Int) < (row.length : Int) := by omega
    rw [← hy] at hty
    clear ht ht2 hI hy hcr
    go_enter Tryz.func37, Tryz.ntmps37
    go_wp2_with fail
    generalize w.alloc (.cells #[.int .i64 p, .int .i64 2, .int .i64 tn, .bool false] 44) = wb at *
    clear hty
    refine (opOf_any 2 wb).mono ?_
    rintro e w1 ⟨rfl, hb1⟩
    have hW1 := bel_step bc hb1
    have hWx := hW1.alloc hW1.size (.cells #[.int .i64 2, .string ⟨#[61]⟩, .func (.func 65) #[] #[]] 65)
    have BX := Blk.new w1 65 #[.int .i64 2, .string ⟨#[61]⟩, .func (.func 65) #[] #[]]
    have BC1 := (BC.on hb1).alloc (.cells #[.int .i64 2, .string ⟨#[61]⟩, .func (.func 65) #[] #[]] 65)
    have hx1 := (((Below.refl w1.heap.size w1).alloc (Nat.le_refl _) (.cells #[.int .i64 2, .string ⟨#[61]⟩, .func (.func 65) #[] #[]] 65)).cell (p := ⟨br, offr + p, none⟩) (show br < w1.heap.size from by have := hb1.size; omega)).trans ((hb1.cell (p := ⟨br, offr + p, none⟩) hbr).trans hx)
    rw [opV_2, show opB 2 = true from rfl]
    have hgc := BC1.lt
    have hgx := BX.lt
    have hgb : br < (w1.alloc (.cells #[.int .i64 2, .string ⟨#[61]⟩, .func (.func 65) #[] #[]] 65)).heap.size := cell_lt hx1
    clear c0 c1 c2 c3 hx BC bc hb1 hW1
    go_wp2_with fail
    generalize w1.alloc (.cells #[.int .i64 2, .string ⟨#[61]⟩, .func (.func 65) #[] #[]] 65) = wx at *
    generalize w1.heap.size = gx at *
    obtain ⟨c0, c1, c2, c3⟩ := BC1.c4
    obtain ⟨x0, x1, x2⟩ := BX.c3
    have b0 := cell_bel hgc c0
    have b1 := cell_bel hgx x2
    have b2 := cell_bel hgb hx1
    have HC := Lib.hid (show ∀ v : World, Calls Tryz.prog 65 #[.int .i64 (ix row p), .int .i64 y] v fun e w' => e = .returned (.bool R) ∧ v = w' from fun v => by rw [← HQ.out]; exact op2_any _ _ v)
    clear c0 c1 c2 c3 x0 x1 x2 hx1
    generalize ix row p = x at *
    refine wp_quiet_bel (by kernel_rfl) (by kernel_rfl) ?_
    repeat (go_big_quiet_step (first | (go_at_call 65; exact bel_same (HC.out _))))
    refine wpQuiet_nil ?_
    rintro w4 ⟨⟨_, hk4⟩, rfl⟩
    clear b0 b1 b2
    go_wp2
    go_ret
    exact ⟨rfl, bel_step hWx hk4⟩

set_option maxRecDepth 100000 in
set_option maxHeartbeats 8000000 in
theorem condHolds_3 (p : Nat) (t : Int) (i : Bool) (y : Int) (A' : Option Addr) (c' : Nat) (row : List Int) (w : World) (hI : Ints w w.heap.size A' row) (hp : p < row.length) (ht : i = true → y = t) (ht2 : i = false → ∃ tn : Nat, t = tn ∧ tn < row.length ∧ y = ix row tn) (hl' : row.length ≤ 1099511627776) :
    Calls Tryz.prog 37 #[.agg #[.int .i64 p, .int .i64 3, .int .i64 t, .bool i], .slice A' row.length c'] w fun e w' => e = .returned (.bool (opH 3 (ix row p) y)) ∧ Below w.heap.size w w' := by
  obtain ⟨R, hR⟩ : ∃ R, opH 3 (ix row p) y = R := ⟨_, rfl⟩
  have HQ := Lib.hid hR
  rw [hR]
  clear hR
  have bc := (Below.refl w.heap.size w).alloc (Nat.le_refl _) (.cells #[.int .i64 p, .int .i64 3, .int .i64 t, .bool i] 44)
  have BC := Blk.new w 44 #[.int .i64 p, .int .i64 3, .int .i64 t, .bool i]
  have hIb := hI.on bc
  obtain ⟨c0, c1, c2, c3⟩ := BC.c4
  obtain ⟨br, offr, rfl, hbr, hcr⟩ := hIb (by omega)
  have hx := hcr p hp
  have hpi : (p : Int) < (row.length : Int) := by omega
  cases i with
  | true =>
    have hy := ht rfl
    clear ht ht2 hI hcr
    subst hy
    go_enter Tryz.func37, Tryz.ntmps37
    go_wp2_with fail
    generalize w.alloc (.cells #[.int .i64 p, .int .i64 3, .int .i64 y, .bool true] 44) = wb at *
    refine (opOf_any 3 wb).mono ?_
    rintro e w1 ⟨rfl, hb1⟩
    have hW1 := bel_step bc hb1
    have hWx := hW1.alloc hW1.size (.cells #[.int .i64 3, .string ⟨#[62]⟩, .func (.func 66) #[] #[]] 65)
    have BX := Blk.new w1 65 #[.int .i64 3, .string ⟨#[62]⟩, .func (.func 66) #[] #[]]
    have BC1 := (BC.on hb1).alloc (.cells #[.int .i64 3, .string ⟨#[62]⟩, .func (.func 66) #[] #[]] 65)
    have hx1 := (((Below.refl w1.heap.size w1).alloc (Nat.le_refl _) (.cells #[.int .i64 3, .string ⟨#[62]⟩, .func (.func 66) #[] #[]] 65)).cell (p := ⟨br, offr + p, none⟩) (show br < w1.heap.size from by have := hb1.size; omega)).trans ((hb1.cell (p := ⟨br, offr + p, none⟩) hbr).trans hx)
    rw [opV_3, show opB 3 = true from rfl]
    have hgc := BC1.lt
    have hgx := BX.lt
    have hgb : br < (w1.alloc (.cells #[.int .i64 3, .string ⟨#[62]⟩, .func (.func 66) #[] #[]] 65)).heap.size := cell_lt hx1
    clear c0 c1 c2 c3 hx BC bc hb1 hW1
    go_wp2_with fail
    generalize w1.alloc (.cells #[.int .i64 3, .string ⟨#[62]⟩, .func (.func 66) #[] #[]] 65) = wx at *
    generalize w1.heap.size = gx at *
    obtain ⟨c0, c1, c2, c3⟩ := BC1.c4
    obtain ⟨x0, x1, x2⟩ := BX.c3
    have b0 := cell_bel hgc c0
    have b1 := cell_bel hgx x2
    have b2 := cell_bel hgb hx1
    have HC := Lib.hid (show ∀ v : World, Calls Tryz.prog 66 #[.int .i64 (ix row p), .int .i64 y] v fun e w' => e = .returned (.bool R) ∧ v = w' from fun v => by rw [← HQ.out]; exact op3_any _ _ v)
    clear c0 c1 c2 c3 x0 x1 x2 hx1
    generalize ix row p = x at *
    refine wp_quiet_bel (by kernel_rfl) (by kernel_rfl) ?_
    repeat (go_big_quiet_step (first | (go_at_call 66; exact bel_same (HC.out _))))
    refine wpQuiet_nil ?_
    rintro w4 ⟨⟨_, hk4⟩, rfl⟩
    clear b0 b1 b2
    go_wp2
    go_ret
    exact ⟨rfl, bel_step hWx hk4⟩
  | false =>
    obtain ⟨tn, rfl, htn, hy⟩ := ht2 rfl
    have hty := hcr tn htn
    have hti : (tn : Int) < (row.length : Int) := by omega
    rw [← hy] at hty
    clear ht ht2 hI hy hcr
    go_enter Tryz.func37, Tryz.ntmps37
    go_wp2_with fail
    generalize w.alloc (.cells #[.int .i64 p, .int .i64 3, .int .i64 tn, .bool false] 44) = wb at *
    clear hty
    refine (opOf_any 3 wb).mono ?_
    rintro e w1 ⟨rfl, hb1⟩
    have hW1 := bel_step bc hb1
    have hWx := hW1.alloc hW1.size (.cells #[.int .i64 3, .string ⟨#[62]⟩, .func (.func 66) #[] #[]] 65)
    have BX := Blk.new w1 65 #[.int .i64 3, .string ⟨#[62]⟩, .func (.func 66) #[] #[]]
    have BC1 := (BC.on hb1).alloc (.cells #[.int .i64 3, .string ⟨#[62]⟩, .func (.func 66) #[] #[]] 65)
    have hx1 := (((Below.refl w1.heap.size w1).alloc (Nat.le_refl _) (.cells #[.int .i64 3, .string ⟨#[62]⟩, .func (.func 66) #[] #[]] 65)).cell (p := ⟨br, offr + p, none⟩) (show br < w1.heap.size from by have := hb1.size; omega)).trans ((hb1.cell (p := ⟨br, offr + p, none⟩) hbr).trans hx)
    rw [opV_3, show opB 3 = true from rfl]
    have hgc := BC1.lt
    have hgx := BX.lt
    have hgb : br < (w1.alloc (.cells #[.int .i64 3, .string ⟨#[62]⟩, .func (.func 66) #[] #[]] 65)).heap.size := cell_lt hx1
    clear c0 c1 c2 c3 hx BC bc hb1 hW1
    go_wp2_with fail
    generalize w1.alloc (.cells #[.int .i64 3, .string ⟨#[62]⟩, .func (.func 66) #[] #[]] 65) = wx at *
    generalize w1.heap.size = gx at *
    obtain ⟨c0, c1, c2, c3⟩ := BC1.c4
    obtain ⟨x0, x1, x2⟩ := BX.c3
    have b0 := cell_bel hgc c0
    have b1 := cell_bel hgx x2
    have b2 := cell_bel hgb hx1
    have HC := Lib.hid (show ∀ v : World, Calls Tryz.prog 66 #[.int .i64 (ix row p), .int .i64 y] v fun e w' => e = .returned (.bool R) ∧ v = w' from fun v => by rw [← HQ.out]; exact op3_any _ _ v)
    clear c0 c1 c2 c3 x0 x1 x2 hx1
    generalize ix row p = x at *
    refine wp_quiet_bel (by kernel_rfl) (by kernel_rfl) ?_
    repeat (go_big_quiet_step (first | (go_at_call 66; exact bel_same (HC.out _))))
    refine wpQuiet_nil ?_
    rintro w4 ⟨⟨_, hk4⟩, rfl⟩
    clear b0 b1 b2
    go_wp2
    go_ret
    exact ⟨rfl, bel_step hWx hk4⟩

theorem condHolds_any (row : List Int) (cd : Cnd) (wd : Int) (A' : Option Addr) (c' : Nat) (w : World) (hI : Ints w w.heap.size A' row) (hw : wd = row.length) (h1 : 0 ≤ cd.p ∧ cd.p < wd) (h2 : 1 ≤ cd.o ∧ cd.o ≤ 3) (h3 : cd.i = true ∨ (cd.i = false ∧ 0 ≤ cd.t ∧ cd.t < wd)) (hl' : row.length ≤ 1099511627776) :
    Calls Tryz.prog 37 #[.agg #[.int .i64 cd.p, .int .i64 cd.o, .int .i64 cd.t, .bool cd.i], .slice A' row.length c'] w fun e w' => e = .returned (.bool (holdC row cd)) ∧ Below w.heap.size w w' := by
  obtain ⟨pn, hpn⟩ : ∃ pn : Nat, cd.p = pn := ⟨cd.p.toNat, by omega⟩
  rw [holdC_is hpn, hpn]
  have hp : pn < row.length := by omega
  have ht : cd.i = true → otherC row cd = cd.t := fun h => other_i h
  have ht2 : cd.i = false → ∃ tn : Nat, cd.t = tn ∧ tn < row.length ∧ otherC row cd = ix row tn := fun h => by
    rcases h3 with h3 | h3
    · rw [h] at h3; cases h3
    · obtain ⟨tn, htn⟩ : ∃ tn : Nat, cd.t = tn := ⟨cd.t.toNat, by omega⟩
      exact ⟨tn, htn, by omega, other_t h htn⟩
  have ho : cd.o = 1 ∨ cd.o = 2 ∨ cd.o = 3 := by omega
  rcases ho with ho | ho | ho
  · rw [ho]; exact condHolds_1 pn cd.t cd.i _ A' c' row w hI hp ht ht2 hl'
  · rw [ho]; exact condHolds_2 pn cd.t cd.i _ A' c' row w hI hp ht ht2 hl'
  · rw [ho]; exact condHolds_3 pn cd.t cd.i _ A' c' row w hI hp ht ht2 hl'

set_option maxRecDepth 100000 in
set_option maxHeartbeats 8000000 in
theorem implHolds_any (A A' : Option Addr) (c c' : Nat) (l : List Cnd) (row : List Int) (w : World) (hC : Cnds w w.heap.size A l) (hI : Ints w w.heap.size A' row) (hl : l.length ≤ 1099511627776) (hl' : row.length ≤ 1099511627776) :
    Calls Tryz.prog 16 #[.slice A l.length c, .slice A' row.length c'] w fun e w' => e = .returned (.bool (holdsB l row)) ∧ Below w.heap.size w w' := by
  obtain ⟨R, hR⟩ : ∃ R, holdsB l row = R := ⟨_, rfl⟩
  have HQ := Lib.hid hR
  rw [hR]
  clear hR
  go_enter Tryz.func16, Tryz.ntmps16
  go_wp2_with fail
  refine (implRowOk_any A' c' row hl' w hI).mono ?_
  rintro e w1 ⟨rfl, hb1⟩
  cases hr : rowOkB row with
  | false =>
    have HD := Lib.hid (show R = false by rw [← HQ.out]; exact holdsB_row hr)
    clear hr
    go_wp2
    go_ret
    exact ⟨ret_bool HD.out.symm, hb1⟩
  | true =>
    have HR := Lib.hid hr
    clear hr
    have hI1 := hI.on hb1
    have hC1 := hC.on hb1
    clear hI hC
    go_wp2_with fail
    refine (implCondsOk_any A c l row.length w1 hC1 hl).mono ?_
    rintro e w2 ⟨rfl, hb2⟩
    have hW2 := bel_step hb1 hb2
    have hI2 := hI1.on hb2
    have hC2 := hC1.on hb2
    clear hI1 hC1 hb1 hb2
    cases hcd : condsB l row.length with
    | false =>
      have HD := Lib.hid (show R = false by rw [← HQ.out]; exact holdsB_conds hcd)
      clear hcd
      go_wp2
      go_ret
      exact ⟨ret_bool HD.out.symm, hW2⟩
    | true =>
      have HCD := Lib.hid hcd
      have HA := Lib.hid (show R = l.all (holdC row) by rw [← HQ.out]; exact holdsB_is hcd HR.out)
      clear hcd
      go_wp2
      go_loopw [19] (fun i wr => ∃ k : Nat, k ≤ l.length ∧ i = .int .i64 k ∧ (l.take k).all (holdC row) = true ∧ Below w.heap.size w wr ∧ Cnds wr wr.heap.size A l ∧ Ints wr wr.heap.size A' row) (fun i _ => l.length - (intOf i).toNat)
      case atStart => exact ⟨0, Nat.zero_le _, rfl, by simp, hW2, hC2, hI2⟩
      case round =>
        clear hW2 hC2 hI2
        obtain ⟨k, hk, rfl, ht, hW, hCr, hIr⟩ := hrel
        have HT := Lib.hid ht
        clear ht
        by_cases hlt : k < l.length
        · obtain ⟨hp, ho, hti⟩ := cond_at HCD.out hlt
          have HK := Lib.hid (And.intro hp (And.intro ho hti))
          obtain ⟨b, off, rfl, _, h0, h1, h2, h3⟩ := hCr.here hlt
          have bc := (Below.refl wr.heap.size wr).alloc (Nat.le_refl _) (.cells #[.int .i64 (cx l k).p, .int .i64 (cx l k).o, .int .i64 (cx l k).t, .bool (cx l k).i] 44)
          have hWb := bel_step hW bc
          have hCb := hCr.on bc
          have hIb := hIr.on bc
          obtain ⟨c0, c1, c2, c3⟩ := (Blk.new wr 44 #[.int .i64 (cx l k).p, .int .i64 (cx l k).o, .int .i64 (cx l k).t, .bool (cx l k).i]).c4
          clear hp ho hti hCr hIr hW bc
          go_wp2_with fail
          generalize wr.alloc (.cells #[.int .i64 (cx l k).p, .int .i64 (cx l k).o, .int .i64 (cx l k).t, .bool (cx l k).i] 44) = wa at *
          refine (condHolds_any row (cx l k) row.length A' c' wa hIb rfl HK.out.1 HK.out.2.1 HK.out.2.2 hl').mono ?_
          rintro e w4 ⟨rfl, hb4⟩
          have hW4 := bel_step hWb hb4
          have hC4 := hCb.on hb4
          have hI4 := hIb.on hb4
          clear h0 h1 h2 h3 c0 c1 c2 c3 hWb hCb hIb hb4
          cases hh : holdC row (cx l k) with
          | false =>
            have HD := Lib.hid (show R = false by rw [HA.out]; exact all_noC hlt hh)
            clear hh
            go_wp2
            go_ret
            exact ⟨ret_bool HD.out.symm, hW4⟩
          | true =>
            have HS := Lib.hid (show (l.take (k + 1)).all (holdC row) = true by rw [all_snocC _ _ _ hlt, HT.out, hh]; rfl)
            clear hh
            go_wp2
            go_roundw
            case rel => exact ⟨k + 1, by omega, by go_num, HS.out, hW4, hC4, hI4⟩
            case measure => simp [intOf]; omega
        · have HD := Lib.hid (show R = true by
            have := HT.out
            rw [List.take_of_length_le (by omega)] at this
            rw [HA.out, this])
          have hd : decide (k < l.length) = false := by simpa using hlt
          go_wp2
          go_ret
          exact ⟨ret_bool HD.out.symm, hW⟩
end Go.Proofs.YtdpokfjempdchaaGreatDoor
