/- Places and the Place behind sum read of words: the program's readPlaces; it reads variables of the library's, which lie as its text lays them. -/
import Derived.Test.YtpadhcoboapodaaGreatDoorNodK
namespace Go.Proofs.YtpadhcoboapodaaGreatDoor
open Go.RowKit

theorem Strs.take {w : World} {B : Nat} {A : Option Addr} {ts : List ByteArray} (h : Strs w B A ts) (n : Nat) : Strs w B A (ts.take n) := fun hn => by
  have hl : (ts.take n).length = min n ts.length := List.length_take
  obtain ⟨b, off, e, hb, hc⟩ := h (by omega)
  refine ⟨b, off, e, hb, fun j hj => ?_⟩
  rw [hc j (by omega)]
  unfold sx
  rw [List.getElem?_take, if_pos (by omega)]
theorem Strs.drop {w : World} {B b off : Nat} {ts : List ByteArray} (h : Strs w B (some ⟨b, off, none⟩) ts) (n : Nat) : Strs w B (some ⟨b, off + n, none⟩) (ts.drop n) := fun hn => by
  have hl : (ts.drop n).length = ts.length - n := List.length_drop
  obtain ⟨b', off', e, hb, hc⟩ := h (by omega)
  injection e with e
  injection e with e1 e2 _
  subst e1 e2
  refine ⟨b, off + n, rfl, hb, fun j hj => ?_⟩
  rw [show off + n + j = off + (n + j) by omega, hc (n + j) (by omega)]
  unfold sx
  rw [List.getElem?_drop]
theorem sx_take {ts : List ByteArray} {n j : Nat} (h : j < (ts.take n).length) : sx (ts.take n) j = sx ts j := by
  have hl : (ts.take n).length = min n ts.length := List.length_take
  unfold sx
  rw [List.getElem?_take, if_pos (by omega)]
theorem sx_drop {ts : List ByteArray} {n j : Nat} : sx (ts.drop n) j = sx ts (n + j) := by
  unfold sx
  rw [List.getElem?_drop]
/-- What readPlaces answers. -/
def PlAns (o : Option (List Int × Int)) (w : World) (e : Ending) (w' : World) : Prop :=
  match o with
  | some (z, p) => ∃ g, e = .returned (.tuple #[.slice (some ⟨g, 0, none⟩) z.length z.length, .int .i64 p, .bool true]) ∧ w.heap.size ≤ g ∧ Blk w' g 2 (i64s z) ∧ Below w.heap.size w w'
  | none => e = .returned (.tuple #[.slice none 0 0, .int .i64 (-1), .bool false]) ∧ Below w.heap.size w w'
theorem readP_no {l : List (List UInt8)} (h : idxW l sumL = -1) : readP l = match numsI l with | some z => some (z, -1) | none => none := by
  have hm : sumL ∉ l := fun hm => by
    unfold idxW at h
    rw [if_pos hm] at h
    omega
  unfold readP
  rw [if_neg hm]
  cases numsI l <;> rfl
theorem readP_at {ws : List ByteArray} {k : Nat} (h : idxW (ws.map bl) sumL = k) : k < ws.length ∧ readP (ws.map bl) = match numsI ((ws.take k).map bl), numsI ((ws.drop (k + 1)).map bl) with | some z, some [p] => some (z, p) | _, _ => none := by
  unfold idxW at h
  split at h
  · rename_i hm
    have e : (ws.map bl).findIdx (· == sumL) = k := by omega
    have hlt := List.findIdx_lt_length_of_exists (p := (· == sumL)) (xs := ws.map bl) ⟨_, hm, by simp⟩
    rw [e, List.length_map] at hlt
    refine ⟨hlt, ?_⟩
    unfold readP
    rw [if_pos hm, e, List.map_take, List.map_drop]
    rfl
  · omega
theorem nums_got {N : Option (List Int)} {W W' : World} {e : Ending} (h : NumsAns N W e W') : ∃ A l c, e = .returned (.tuple #[.slice A l c, .bool N.isSome]) ∧ Below W.heap.size W W' ∧ ∀ z, N = some z → ∃ g, A = some ⟨g, 0, none⟩ ∧ l = z.length ∧ c = z.length ∧ W.heap.size ≤ g ∧ Blk W' g 2 (i64s z) := by
  cases N with
  | none => exact ⟨none, 0, 0, h.1, h.2, fun z e => by cases e⟩
  | some z =>
    obtain ⟨g, rfl, hg, hB, hb⟩ := h
    exact ⟨_, _, _, rfl, hb, fun z' e => by cases e; exact ⟨g, rfl, rfl, rfl, hg, hB⟩⟩
theorem idxW_nat {l : List (List UInt8)} {x : List UInt8} (h : idxW l x ≠ -1) : ∃ k : Nat, idxW l x = k := by
  unfold idxW at h ⊢
  split
  · exact ⟨_, rfl⟩
  · rename_i hm; rw [if_neg hm] at h; exact absurd rfl h
/-- The value that readNumbers answers. -/
def numsV (o : Option (List Int)) (g : Nat) : Value := match o with | some z => .tuple #[.slice (some ⟨g, 0, none⟩) z.length z.length, .bool true] | none => .tuple #[.slice none 0 0, .bool false]
set_option maxRecDepth 100000 in
set_option maxHeartbeats 1000000 in
theorem readPlaces_any (A : Option Addr) (c : Nat) (ws : List ByteArray) (w : World) (hS : Strs w w.heap.size A ws) (hz : ∀ j, j < ws.length → (sx ws j).size ≤ 1073741824) (hl : ws.length ≤ 1073741825) (hc : ws.length ≤ c) (hL : LaidAll w) :
    Calls Tryz.prog 30 #[.slice A ws.length c] w (PlAns (readP (ws.map bl)) w) := by
  have hI := slicesIndex_any A c ws ⟨#[115, 117, 109]⟩ w hS hl
  obtain ⟨I, hIe⟩ : ∃ I, idxW (ws.map bl) (bl ⟨#[115, 117, 109]⟩) = I := ⟨_, rfl⟩
  rw [hIe] at hI
  have HI := Lib.hid hI
  clear hI
  by_cases hneg : I = -1
  · subst hneg
    obtain ⟨N, hN⟩ : ∃ N, numsI (ws.map bl) = N := ⟨_, rfl⟩
    have hR := readP_no hIe
    have hq := readNumbers_any A c ws w hS hz hl hL
    rw [hN] at hR hq
    have HR := Lib.hid hR
    have HQ := Lib.hid hq
    clear hR hq hN hIe hS hz hL
    cases N with
    | none =>
      go_enter Tryz.func30, Tryz.ntmps30
      go_wp2_with fail
      refine HI.out.mono ?_
      rintro e w1 ⟨rfl, rfl⟩
      go_wp2_with fail
      refine HQ.out.mono ?_
      rintro e w2 hq
      obtain ⟨rfl, hb⟩ := hq
      go_wp2
      refine bodyPost_ret (v := .tuple #[.slice none 0 0, .int .i64 (-1), .bool false]) (by simp [results, Tryz.f30, go_sem, *]) rfl ?_
      rw [HR.out]
      exact ⟨rfl, hb⟩
    | some z =>
      go_enter Tryz.func30, Tryz.ntmps30
      go_wp2_with fail
      refine HI.out.mono ?_
      rintro e w1 ⟨rfl, rfl⟩
      go_wp2_with fail
      refine HQ.out.mono ?_
      rintro e w2 hq
      obtain ⟨g, rfl, hg, hB, hb⟩ := hq
      go_wp2
      refine bodyPost_ret (v := .tuple #[.slice (some ⟨g, 0, none⟩) z.length z.length, .int .i64 (-1), .bool true]) (by simp [results, Tryz.f30, go_sem, *]) rfl ?_
      rw [HR.out]
      exact ⟨g, rfl, hg, hB, hb⟩
  · obtain ⟨k, hk⟩ := idxW_nat (by rw [hIe]; exact hneg)
    obtain rfl : I = k := by rw [← hIe]; exact hk
    obtain ⟨hlt, hR⟩ := readP_at hIe
    obtain ⟨b, off, rfl, hb, hcc⟩ := hS (by omega)
    obtain ⟨N1, hN1⟩ : ∃ N, numsI ((ws.take k).map bl) = N := ⟨_, rfl⟩
    obtain ⟨N2, hN2⟩ : ∃ N, numsI ((ws.drop (k + 1)).map bl) = N := ⟨_, rfl⟩
    have e1 : (ws.take k).length = k := by rw [List.length_take]; omega
    have e2 : (ws.drop (k + 1)).length = ws.length - (k + 1) := List.length_drop
    have HQ1 := Lib.hid (show ∀ c' W, Below w.heap.size w W → Calls Tryz.prog 48 #[.slice (some ⟨b, off, none⟩) k c'] W (NumsAns N1 W) from fun c' W h => by
      have := readNumbers_any (some ⟨b, off, none⟩) c' (ws.take k) W ((hS.on h).take k) (fun j hj => by rw [sx_take hj]; exact hz j (by omega)) (by omega) (hL.on h)
      rw [e1, hN1] at this
      exact this)
    have HQ2 := Lib.hid (show ∀ A' c' W, Below w.heap.size w W → (A' = some ⟨b, off + (k + 1), none⟩ ∨ ws.length = k + 1) → Calls Tryz.prog 48 #[.slice A' (ws.length - (k + 1)) c'] W (NumsAns N2 W) from fun A' c' W h hA => by
      have hSd : Strs W W.heap.size A' (ws.drop (k + 1)) := by
        rcases hA with rfl | hA
        · exact (hS.on h).drop (k + 1)
        · exact fun hn => absurd hn (by omega)
      have := readNumbers_any A' c' (ws.drop (k + 1)) W hSd (fun j hj => by rw [sx_drop]; exact hz _ (by omega)) (by omega) (hL.on h)
      rw [e2, hN2] at this
      exact this)
    rw [hN1, hN2] at hR
    have HR := Lib.hid hR
    have hki : decide ((k : Int) < 0) = false := by simp
    have hwk : IntKind.i64.wrap ((k : Int) + 1) = (k : Int) + 1 := by rw [IntKind.wrap_i64]; omega
    have hW0 := Below.refl w.heap.size w
    clear hR hN1 hN2 hIe hz hL hneg hk hcc hS
    go_enter Tryz.func30, Tryz.ntmps30
    go_wp2_with fail
    refine HI.out.mono ?_
    rintro e w1 ⟨rfl, hw1⟩
    cases hw1
    go_wp2_with fail
    refine (HQ1.out _ _ hW0).mono ?_
    rintro e w2 hq1
    obtain ⟨A1, l1, c1, rfl, hb2, hz1⟩ := nums_got hq1
    have HZ1 := Lib.hid hz1
    clear hq1 hz1
    go_wp2_with fail
    all_goals
      refine (HQ2.out _ _ _ hb2 (by first | exact .inl rfl | exact .inr (by omega))).mono ?_
      rintro e w3 hq2
      obtain ⟨A2, l2, c2, rfl, hb3, hz2⟩ := nums_got hq2
      have HZ2 := Lib.hid hz2
      have hW3 := bel_step hb2 hb3
      have HB3 := Lib.hid hb3
      clear hq2 hz2
      cases N1 with
      | none =>
        have HD := Lib.hid (show readP (ws.map bl) = none by rw [HR.out])
        go_wp2
        refine bodyPost_ret (v := .tuple #[.slice none 0 0, .int .i64 (-1), .bool false]) (by simp [results, Tryz.f30, go_sem, *]) rfl ?_
        rw [HD.out]
        exact ⟨rfl, hW3⟩
      | some z =>
        cases N2 with
        | none =>
          have HD := Lib.hid (show readP (ws.map bl) = none by rw [HR.out])
          go_wp2
          refine bodyPost_ret (v := .tuple #[.slice none 0 0, .int .i64 (-1), .bool false]) (by simp [results, Tryz.f30, go_sem, *]) rfl ?_
          rw [HD.out]
          exact ⟨rfl, hW3⟩
        | some p =>
          obtain ⟨g1, rfl, rfl, rfl, hg1, hB1⟩ := HZ1.out z rfl
          obtain ⟨g2, rfl, rfl, rfl, hg2, hB2⟩ := HZ2.out p rfl
          have hB1' := hB1.on HB3.out
          by_cases h1 : p.length = 1
          · obtain ⟨x, hx⟩ : ∃ x, p = [x] := List.length_eq_one_iff.1 h1
            have HD := Lib.hid (show readP (ws.map bl) = some (z, x) by rw [HR.out, hx])
            have hcx : w3.cell? ⟨g2, 0, none⟩ = some (.int .i64 x) := by rw [hB2.cell 0, hx]; rfl
            rw [h1]
            clear h1 hx hB2
            go_wp2_with fail
            go_quiet (first | fail)
            go_wp2
            refine bodyPost_ret (v := .tuple #[.slice (some ⟨g1, 0, none⟩) z.length z.length, .int .i64 x, .bool true]) (by simp [results, Tryz.f30, go_sem, *]) rfl ?_
            rw [HD.out]
            exact ⟨g1, rfl, hg1, hB1'.drewN _, bel_drewN hW3 _⟩
          · have HD := Lib.hid (show readP (ws.map bl) = none by
              rw [HR.out]
              match p, h1 with
              | [], _ => rfl
              | [x], h => exact absurd rfl h
              | x :: y :: r, _ => rfl)
            have hne : ((p.length : Int) != 1) = true := by simp; omega
            go_wp2
            refine bodyPost_ret (v := .tuple #[.slice none 0 0, .int .i64 (-1), .bool false]) (by simp [results, Tryz.f30, go_sem, *]) rfl ?_
            rw [HD.out]
            exact ⟨rfl, hW3⟩
end Go.Proofs.YtpadhcoboapodaaGreatDoor
