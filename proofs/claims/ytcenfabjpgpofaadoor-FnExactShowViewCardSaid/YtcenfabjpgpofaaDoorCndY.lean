/- Conds shown: the program's ShowConds; for every list of conds. -/
import Derived.Test.YtcenfabjpgpofaaDoorCndW
import Derived.Test.YtcenfabjpgpofaaDoorText1
namespace Go.Proofs.YtcenfabjpgpofaaDoor
open Go.RowKit

def shwT (l : List Cnd) : List ByteArray := l.map fun c => mkB (showC c)
theorem shwT_length (l : List Cnd) : (shwT l).length = l.length := by simp [shwT]
theorem shwT_get (l : List Cnd) {k : Nat} (h : k < l.length) : (shwT l)[k]? = some (mkB (showC (cx l k))) := by
  simp [shwT, cx_eq l k h, h]
/-- The texts made so far: the first k, then empty ones. -/
def shwA (l : List Cnd) (k : Nat) : Array Value := ((shwT (l.take k)).map Value.string ++ List.replicate (l.length - k) (Value.string ⟨#[]⟩)).toArray
theorem shwA_size (l : List Cnd) {k : Nat} (h : k ≤ l.length) : (shwA l k).size = l.length := by simp [shwA, shwT]; omega
theorem shwA_zero (l : List Cnd) : shwA l 0 = madeCells #[Value.string ⟨#[]⟩] l.length := by
  apply Array.toList_inj.1
  rw [toList_madeCells_one]
  simp [shwA, shwT]
theorem shwA_all (l : List Cnd) : shwA l l.length = ((shwT l).map Value.string).toArray := by simp [shwA]
theorem shwA_step (l : List Cnd) {k : Nat} (h : k < l.length) : (shwA l k).setIfInBounds k (.string (mkB (showC (cx l k)))) = shwA l (k + 1) := by
  apply Array.ext_getElem?
  intro j
  rw [Array.getElem?_setIfInBounds, shwA_size l (by omega)]
  unfold shwA
  by_cases e : k = j
  · subst e
    rw [if_pos rfl, if_pos h]
    rw [List.getElem?_toArray, List.getElem?_append_left (by simp [shwT]; omega), List.getElem?_map, shwT, List.getElem?_map, List.getElem?_take, if_pos (by omega), List.getElem?_eq_getElem h, cx_eq l k h]
    rfl
  · rw [if_neg e, List.getElem?_toArray, List.getElem?_toArray]
    by_cases hj : j < k
    · rw [List.getElem?_append_left (by simp [shwT]; omega), List.getElem?_append_left (by simp [shwT]; omega), List.getElem?_map, List.getElem?_map, shwT, shwT, List.getElem?_map, List.getElem?_map, List.getElem?_take, List.getElem?_take, if_pos hj, if_pos (by omega)]
    · rw [List.getElem?_append_right (by simp [shwT]; omega), List.getElem?_append_right (by simp [shwT]; omega), List.getElem?_replicate, List.getElem?_replicate]
      simp only [shwT, List.length_map, List.length_take]
      rw [Nat.min_eq_left (by omega), Nat.min_eq_left (by omega)]
      congr 1
      exact propext ⟨fun h => by omega, fun h => by omega⟩
theorem join_cat (ws : List (List UInt8)) : Lib.join ws [44] = cat [44] ws := by
  induction ws with
  | nil => rfl
  | cons w r ih =>
    cases r with
    | nil => simp [Lib.join, cat]
    | cons v q => rw [cat, ← ih]; simp [Lib.join]
theorem showC_len (c : Cnd) (h : condB c = true) : (showC c).length ≤ 46 := by
  obtain ⟨hp, ho, ht⟩ := condB_iff.1 h
  have hx := condB_other h
  have h1 := Lib.itoa_length_le c.p (by omega) (by omega)
  have h2 := Lib.itoa_length_le c.t (by omega) (by omega)
  unfold showC otherL
  split <;> simp <;> omega
theorem cat_le (n : Nat) : ∀ ws : List (List UInt8), (∀ w ∈ ws, w.length ≤ n) → (cat [44] ws).length ≤ ws.length * (n + 1)
  | [], _ => by simp [cat]
  | [w], h => by have := h w (by simp); simp [cat]; omega
  | w :: v :: r, h => by
    have h1 := h w (by simp)
    have h2 := cat_le n (v :: r) (fun x hx => h x (by simp [hx]))
    rw [cat]
    simp only [List.length_append, List.length_cons, List.length_nil] at h2 ⊢
    rw [Nat.add_mul] at h2 ⊢
    rw [Nat.add_mul]
    omega
theorem showCs_len {l : List Cnd} (h : rightB l = true) : (cat [44] (l.map showC)).length ≤ 141 := by
  obtain ⟨h1, h3⟩ := rightB_iff.1 h
  have := cat_le 46 (l.map showC) (fun w hw => by obtain ⟨c, hc, rfl⟩ := List.mem_map.1 hw; exact showC_len c (h1 c hc))
  rw [List.length_map] at this
  omega
theorem mkB_bl_map (l : List Cnd) : (shwT l).map (fun s => s.data.toList) = l.map showC := by
  unfold shwT
  rw [List.map_map]
  exact List.map_congr_left fun c _ => bl_mkB (showC c)

set_option maxRecDepth 100000 in
set_option maxHeartbeats 4000000 in
theorem implShowConds_any (A : Option Addr) (c : Nat) (l : List Cnd) (w : World) (hC : Cnds w w.heap.size A l) (hl : l.length ≤ 1099511627776) (htab : Lib.TabBelow Tryd.prog w.heap.size w "internal/strconv.uint64pow10" .u64 Lib.pow10Tab) :
    Calls Tryd.prog 47 #[.slice A l.length c] w fun e w' => e = .returned (.string (mkB (showCs l))) ∧ Below w.heap.size w w' := by
  obtain ⟨S, hS⟩ : ∃ S, mkB (showCs l) = S := ⟨_, rfl⟩
  have HS := Lib.hid hS
  rw [hS]
  clear hS
  have HT := Lib.hid htab
  clear htab
  go_enter Tryd.func47, Tryd.ntmps47
  go_wp2_with fail
  refine (condsRight_any A c l w hC hl).mono ?_
  rintro e w1 ⟨rfl, hb1⟩
  cases hr : rightB l with
  | false =>
    have HD := Lib.hid (show S = ⟨#[]⟩ by rw [← HS.out]; unfold showCs; rw [hr]; rfl)
    clear hr
    go_wp2
    go_ret
    exact ⟨congrArg (fun s => Ending.returned (.string s)) HD.out.symm, hb1⟩
  | true =>
    have HR := Lib.hid hr
    have HC1 := Lib.hid (rightB_iff.1 hr)
    have hl3 : l.length ≤ 3 := HC1.out.2
    have hCr := hC.on hb1
    have HCW := Lib.hid (show ∀ W, Below w.heap.size w W → Cnds W W.heap.size A l from fun W h => hC.on h)
    clear hr hC
    by_cases h0 : l.length = 0
    · have HD := Lib.hid (show S = ⟨#[45]⟩ by
        rw [← HS.out]; unfold showCs
        rw [if_pos HR.out, if_pos (List.length_eq_zero_iff.1 h0)]; rfl)
      have hz : ((l.length : Int) == 0) = true := by simp [h0]
      have HZ := Lib.hid h0
      clear h0
      go_wp2
      go_ret
      exact ⟨congrArg (fun s => Ending.returned (.string s)) HD.out.symm, hb1⟩
    · have HD := Lib.hid (show S = mkB (cat [44] (l.map showC)) by
        rw [← HS.out]; unfold showCs
        rw [if_pos HR.out, if_neg (fun e => h0 (by rw [e]; rfl))])
      have hz : ((l.length : Int) == 0) = false := by simp; exact fun e => h0 (by rw [e]; rfl)
      have h1 : 0 < l.length := by omega
      have hmk := fun wx => run_make_row' (P := Tryd.prog) 56 9 (.string ⟨#[]⟩) 16 Tryd.underlying56 info_str rfl .i64 .i64 l.length (by omega) (by omega) wx
      have hWm := hb1.alloc hb1.size (.cells (madeCells #[Value.string ⟨#[]⟩] l.length) 9)
      have hBm := Blk.new w1 9 (madeCells #[Value.string ⟨#[]⟩] l.length)
      rw [← shwA_zero] at hBm hWm
      have hG1 : w.heap.size ≤ w1.heap.size := hb1.size
      clear h0 hb1 hCr
      go_wp2_with fail
      clear hmk hz
      go_loopw [17] (fun i wr => ∃ k : Nat, k ≤ l.length ∧ i = .int .i64 k ∧ Blk wr w1.heap.size 9 (shwA l k) ∧ Below w.heap.size w wr) (fun i _ => l.length - (intOf i).toNat)
      case atStart => exact ⟨0, Nat.zero_le _, rfl, by rw [shwA_zero] at hBm ⊢; exact hBm, by rw [shwA_zero] at hWm; exact hWm⟩
      case round =>
        clear hBm hWm
        obtain ⟨k, hk, rfl, hB, hW⟩ := hrel
        have hCr := HCW.out wr hW
        by_cases hlt : k < l.length
        · have hcb := HC1.out.1 _ (cx_mem hlt)
          obtain ⟨b, off, rfl, _, h0, h1', h2, h3⟩ := hCr.here hlt
          have bc := (Below.refl wr.heap.size wr).alloc (Nat.le_refl _) (.cells #[.int .i64 (cx l k).p, .int .i64 (cx l k).o, .int .i64 (cx l k).t, .bool (cx l k).i] 61)
          obtain ⟨c0, c1, c2, c3⟩ := (Blk.new wr 61 #[.int .i64 (cx l k).p, .int .i64 (cx l k).o, .int .i64 (cx l k).t, .bool (cx l k).i]).c4
          have hWb := bel_step hW bc
          have hBb := hB.on bc
          have HCB := Lib.hid hcb
          clear hcb hCr hW hB bc
          go_wp2_with fail
          generalize wr.alloc (.cells #[.int .i64 (cx l k).p, .int .i64 (cx l k).o, .int .i64 (cx l k).t, .bool (cx l k).i] 61) = wa at *
          refine (showCond_any (cx l k) wa HCB.out (fun w' h => HT.out w' (hWb.trans (h.mono hWb.size)))).mono ?_
          rintro e w2 ⟨rfl, hb2⟩
          have hW2 := bel_step hWb hb2
          have hB2 := hBb.on hb2
          have hsz := shwA_size l (k := k) (by omega)
          obtain ⟨dv, d0⟩ : ∃ dv, w2.cell? ⟨w1.heap.size, k, none⟩ = some dv := ⟨(shwA l k)[k]'(by omega), by rw [hB2.cell k, Array.getElem?_eq_getElem (by omega)]⟩
          have f0 := hB2.frozen k
          have hB3 := hB2.set_ k (.string (mkB (showC (cx l k))))
          rw [shwA_step l hlt] at hB3
          have HB3 := Lib.hid hB3
          have hW3 := hW2.setCell (p := ⟨w1.heap.size, k, none⟩) hG1 (.string (mkB (showC (cx l k))))
          have HW3 := Lib.hid hW3
          generalize mkB (showC (cx l k)) = sc at *
          clear h0 h1' h2 h3 c0 c1 c2 c3 hWb hBb hb2 hB3 hW3 hB2 hW2 hsz
          go_wp2
          go_roundw
          case rel => exact ⟨k + 1, by omega, by go_num, HB3.out, HW3.out⟩
          case measure => simp [intOf]; omega
        · have hd : decide (k < l.length) = false := by simpa using hlt
          obtain rfl : k = l.length := by omega
          rw [shwA_all] at hB
          have hcells : ∀ (j : Nat) x, (shwT l)[j]? = some x → wr.cell? ⟨w1.heap.size, 0 + j, none⟩ = some (.string x) := fun j x hx => by
            rw [Nat.zero_add, hB.cell j]
            simp [hx]
          have hlen := showCs_len HR.out
          have hjl : (Lib.join ((shwT l).map (·.data.toList)) (bl ⟨#[44]⟩)).length ≤ 140737488355328 := by
            rw [mkB_bl_map, show bl ⟨#[44]⟩ = [44] from rfl, join_cat]; omega
          have hJ := Tryd.strings_Join w1.heap.size 0 l.length (shwT l) ⟨#[44]⟩ wr hcells hB.lt (by rw [shwT_length]; omega) (by rw [shwT_length]; exact Nat.le_refl _) hjl
          rw [shwT_length] at hJ
          have HJ := Lib.hid hJ
          have HJE := Lib.hid (show (⟨(Lib.join ((shwT l).map (·.data.toList)) (bl ⟨#[44]⟩)).toArray⟩ : ByteArray) = S by rw [mkB_bl_map, show bl ⟨#[44]⟩ = [44] from rfl, join_cat, HD.out]; rfl)
          clear hcells hjl hJ hlen
          go_wp2_with fail
          refine HJ.out.mono ?_
          rintro e w3 ⟨rfl, hb3⟩
          rw [show (⟨(Lib.join ((shwT l).map (·.data.toList)) (ByteArray.data ⟨#[44]⟩).toList).toArray⟩ : ByteArray) = S from HJE.out]
          have hW3 := bel_step hW hb3
          go_wp2
          go_ret
          exact ⟨rfl, hW3⟩
end Go.Proofs.YtcenfabjpgpofaaDoor
