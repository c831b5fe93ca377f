/- A slice of counts that reads as a bag; contracts of the model's reading functions over bags: TimesIn, BagOk, and of l1Same. Each says what the call returns; no memory has turned. For bags and rows of at most 2^40. -/
import Derived.Test.YtoncfodlffofdaaLess1
import Derived.Test.YtoncfodlffofdaaOwn0
import Derived.Test.YtoncfodlffofdaaApp
namespace Go.Proofs.Ytoncfodlffofdaa
open Go.RowKit

/-- The row and the number at place k (names of their own, so that the walk does not respell them). -/
def rx (bag : List (List Int × Int)) (k : Nat) : List Int := (bag[k]?.getD ([], 0)).1
def nx (bag : List (List Int × Int)) (k : Nat) : Int := (bag[k]?.getD ([], 0)).2
theorem bag_drop (bag : List (List Int × Int)) (k : Nat) (h : k < bag.length) : bag.drop k = (rx bag k, nx bag k) :: bag.drop (k + 1) := by
  have e : (rx bag k, nx bag k) = bag[k] := by simp [rx, nx, h]
  rw [e]; exact List.drop_eq_getElem_cons h
/-- A slice of counts reads as the bag: its cells and its rows lie below B. -/
def Bag (w : World) (B : Nat) (A : Option Addr) (bag : List (List Int × Int)) : Prop :=
  0 < bag.length → ∃ b off, A = some ⟨b, off, none⟩ ∧ b < B ∧ ∀ j, j < bag.length → ∃ Ar cap, w.cell? ⟨b, off + j * 2, none⟩ = some (.slice Ar (rx bag j).length cap) ∧ w.cell? ⟨b, off + j * 2 + 1, none⟩ = some (.int .i64 (nx bag j)) ∧ Ints w B Ar (rx bag j) ∧ (rx bag j).length ≤ 1099511627776
theorem Bag.keep {w w' : World} {B : Nat} {A : Option Addr} {bag : List (List Int × Int)} (h : Bag w B A bag) (hk : ∀ p : Addr, p.block < B → w'.cell? p = w.cell? p) : Bag w' B A bag := fun hn => by
  obtain ⟨b, off, e, hb, hc⟩ := h hn
  refine ⟨b, off, e, hb, fun j hj => ?_⟩
  obtain ⟨Ar, cap, h1, h2, h3, h4⟩ := hc j hj
  exact ⟨Ar, cap, (hk _ hb).trans h1, (hk _ hb).trans h2, h3.keep hk, h4⟩
theorem Bag.below {w w' : World} {B : Nat} {A : Option Addr} {bag : List (List Int × Int)} (h : Bag w B A bag) (hb : Below B w w') : Bag w' B A bag := h.keep fun _ hp => hb.cell hp
theorem Bag.more {w : World} {B B' : Nat} {A : Option Addr} {bag : List (List Int × Int)} (h : Bag w B A bag) (hB : B ≤ B') : Bag w B' A bag := fun hn => by
  obtain ⟨b, off, e, hb, hc⟩ := h hn
  refine ⟨b, off, e, by omega, fun j hj => ?_⟩
  obtain ⟨Ar, cap, h1, h2, h3, h4⟩ := hc j hj
  exact ⟨Ar, cap, h1, h2, h3.more hB, h4⟩
theorem Bag.on {w w' : World} {A : Option Addr} {bag : List (List Int × Int)} (h : Bag w w.heap.size A bag) (hb : Below w.heap.size w w') : Bag w' w'.heap.size A bag := (h.below hb).more hb.size
theorem Bag.drewN {w : World} {B : Nat} {A : Option Addr} {bag : List (List Int × Int)} (h : Bag w B A bag) (k : Nat) : Bag (w.drewN k) B A bag := h

theorem drew_more {w wr : World} (h : ∃ n, wr = w.drewN n) (m : Nat) : ∃ n, wr.drewN m = w.drewN n := by
  obtain ⟨n, rfl⟩ := h
  exact ⟨n + m, World.drewN_drewN ..⟩
theorem quiet_same {P : Program} {f : FuncId} {args : Array Value} {w : World} {n : Nat} {v : Value}
    (h : Calls P f args (w.drewN n) fun e w' => e = .returned v ∧ w.drewN n = w') : Calls P f args (w.drewN n) fun e w'' => e = .returned v ∧ ∃ m, w'' = w.drewN m :=
  h.mono fun _ _ ⟨he, hm⟩ => ⟨he, n, hm.symm⟩
theorem less_same_iff (a b : List Int) : (!lessB a b && !lessB b a) = decide (a = b) := by
  have key : ∀ a b : List Int, (a = b ∧ lessB a b = false ∧ lessB b a = false) ∨ (a ≠ b ∧ (lessB a b = true ∨ lessB b a = true)) := by
    intro a
    induction a with
    | nil => intro b; cases b with
      | nil => exact .inl ⟨rfl, rfl, rfl⟩
      | cons y ys => exact .inr ⟨by simp, .inl rfl⟩
    | cons x xs ih => intro b; cases b with
      | nil => exact .inr ⟨by simp, .inr rfl⟩
      | cons y ys =>
        by_cases e : x = y
        · subst e
          have := ih ys
          simpa [lessB] using this
        · have e' : ¬ y = x := fun h => e h.symm
          simp only [lessB, if_neg e, if_neg e']
          right
          refine ⟨by simp [e], ?_⟩
          simp; omega
  rcases key a b with ⟨h, h1, h2⟩ | ⟨h, h1 | h1⟩
  · rw [h1, h2, decide_eq_true h]; rfl
  · rw [h1, decide_eq_false h]; rfl
  · rw [h1, decide_eq_false h]; simp

set_option maxHeartbeats 1000000 in
theorem l1Same_any (A A' : Option Addr) (c c' : Nat) (zs ys : List Int) (w : World) (B B' : Nat) (hI : Ints w B A zs) (hI' : Ints w B' A' ys) (hl : zs.length ≤ 1099511627776) (hl' : ys.length ≤ 1099511627776) :
    Calls Try.prog 104 #[.slice A zs.length c, .slice A' ys.length c'] w fun e w' => e = .returned (.bool (decide (zs = ys))) ∧ ∃ n, w' = w.drewN n := by
  have hs := Lib.hid (less_same_iff zs ys)
  go_enter Try.func104, Try.ntmps104
  go_wp2_with fail
  refine (specRowLess_any A A' c c' zs ys w B B' hI hI' hl hl').mono ?_
  rintro e w1 ⟨rfl, n1, rfl⟩
  cases h1 : lessB zs ys with
  | true =>
    have h1' := Lib.hid h1
    clear h1
    go_wp2
    go_ret
    exact ⟨ret_bool (by rw [← hs.out, h1'.out]; rfl), n1, rfl⟩
  | false =>
    have h1' := Lib.hid h1
    clear h1
    go_wp2_with fail
    refine (specRowLess_any A' A c' c ys zs (w.drewN n1) B' B (hI'.drewN n1) (hI.drewN n1) hl' hl).mono ?_
    rintro e w2 ⟨rfl, n2, rfl⟩
    go_wp2
    go_ret
    exact ⟨ret_bool (by rw [← hs.out, h1'.out]; rfl), n1 + n2, by simp⟩

def timesL : List (List Int × Int) → List Int → Int
  | [], _ => 0
  | (r, n) :: bs, row => if r = row then n else timesL bs row
theorem times_yes {bag : List (List Int × Int)} {row : List Int} {k : Nat} (h : k < bag.length) (e : rx bag k = row) : timesL (bag.drop k) row = nx bag k := by
  rw [bag_drop bag k h, timesL, if_pos e]
theorem times_no {bag : List (List Int × Int)} {row : List Int} {k : Nat} (h : k < bag.length) (e : ¬ rx bag k = row) : timesL (bag.drop k) row = timesL (bag.drop (k + 1)) row := by
  rw [bag_drop bag k h, timesL, if_neg e]

set_option maxRecDepth 100000 in
set_option maxHeartbeats 1000000 in
theorem specTimesIn_any (A A' : Option Addr) (c c' : Nat) (bag : List (List Int × Int)) (row : List Int) (w : World) (B B' : Nat) (hB : Bag w B A bag) (hI : Ints w B' A' row) (hl : bag.length ≤ 1099511627776) (hl' : row.length ≤ 1099511627776) :
    Calls Try.prog 34 #[.slice A bag.length c, .slice A' row.length c'] w fun e w' => e = .returned (.int .i64 (timesL bag row)) ∧ ∃ n, w' = w.drewN n := by
  go_enter Try.func34, Try.ntmps34
  go_wp2
  go_loopw [5] (fun i wr => ∃ k : Nat, k ≤ bag.length ∧ i = .int .i64 k ∧ timesL bag row = timesL (bag.drop k) row ∧ ∃ n, wr = w.drewN n) (fun i _ => bag.length - (intOf i).toNat)
  case atStart => exact ⟨0, Nat.zero_le _, rfl, rfl, 0, rfl⟩
  case round =>
    obtain ⟨k, hk, rfl, ht, n, rfl⟩ := hrel
    have HT := Lib.hid ht
    clear ht
    by_cases hlt : k < bag.length
    · obtain ⟨b, off, rfl, _, hc⟩ := hB (by omega)
      obtain ⟨Ar, cap, h1, h2, h3, h4⟩ := hc k hlt
      clear hc
      go_wp2_with fail
      refine (l1Same_any Ar A' cap c' (rx bag k) row (w.drewN n) B B' (h3.drewN n) (hI.drewN n) h4 hl').mono ?_
      rintro e w1 ⟨rfl, n1, rfl⟩
      by_cases he : rx bag k = row
      · rw [decide_eq_true he]
        have HE := Lib.hid he
        clear he
        go_wp2
        go_ret
        exact ⟨ret_int (by rw [HT.out, times_yes hlt HE.out]), n + n1, by simp⟩
      · rw [decide_eq_false he]
        have HE := Lib.hid he
        clear he
        go_wp2
        go_roundw
        case rel => exact ⟨k + 1, by omega, by go_num, by rw [HT.out, times_no hlt HE.out], n + n1, by simp⟩
        case measure => simp [intOf]; omega
    · have hd : decide (k < bag.length) = false := by simpa using hlt
      go_wp2
      go_ret
      refine ⟨ret_int ?_, n, rfl⟩
      rw [HT.out, List.drop_of_length_le (by omega)]; rfl

/-- Whether the counts are as a bag's, behind a row. -/
def okFrom : Option (List Int) → List (List Int × Int) → Bool
  | _, [] => true
  | p, (r, n) :: bs => rowOkB r && (n != 0) && inB n (-1000000) 1000000 && (match p with | none => true | some q => lessB q r) && okFrom (some r) bs
def bagOkB (bag : List (List Int × Int)) : Bool := okFrom none bag && decide (bag.length ≤ 300)

theorem specRowLess_yes (A A' : Option Addr) (c c' : Nat) (zs ys : List Int) (w : World) (B B' : Nat) (hI : Ints w B A zs) (hI' : Ints w B' A' ys) (hl : zs.length ≤ 1099511627776) (hl' : ys.length ≤ 1099511627776) (h : lessB zs ys = true) :
    Calls Try.prog 47 #[.slice A zs.length c, .slice A' ys.length c'] w fun e w' => e = .returned (.bool true) ∧ ∃ n, w' = w.drewN n := by rw [← h]; exact specRowLess_any A A' c c' zs ys w B B' hI hI' hl hl'
theorem specRowLess_no (A A' : Option Addr) (c c' : Nat) (zs ys : List Int) (w : World) (B B' : Nat) (hI : Ints w B A zs) (hI' : Ints w B' A' ys) (hl : zs.length ≤ 1099511627776) (hl' : ys.length ≤ 1099511627776) (h : lessB zs ys = false) :
    Calls Try.prog 47 #[.slice A zs.length c, .slice A' ys.length c'] w fun e w' => e = .returned (.bool false) ∧ ∃ n, w' = w.drewN n := by rw [← h]; exact specRowLess_any A A' c c' zs ys w B B' hI hI' hl hl'
/-- The row before place k. -/
def prevRow (bag : List (List Int × Int)) : Nat → Option (List Int)
  | 0 => none
  | k + 1 => some (rx bag k)
theorem ok_step {bag : List (List Int × Int)} {k : Nat} (h : k < bag.length) : okFrom (prevRow bag k) (bag.drop k) = (rowOkB (rx bag k) && (nx bag k != 0) && inB (nx bag k) (-1000000) 1000000 && (match prevRow bag k with | none => true | some q => lessB q (rx bag k)) && okFrom (prevRow bag (k + 1)) (bag.drop (k + 1))) := by
  rw [bag_drop bag k h]; rfl
theorem bag_not {bag : List (List Int × Int)} (h : okFrom none bag = false) : bagOkB bag = false := by unfold bagOkB; rw [h]; rfl

set_option maxRecDepth 100000 in
set_option maxHeartbeats 4000000 in
theorem specBagOk_any (A : Option Addr) (c : Nat) (bag : List (List Int × Int)) (w : World) (B : Nat) (hB : Bag w B A bag) (hl : bag.length ≤ 1099511627776) :
    Calls Try.prog 30 #[.slice A bag.length c] w fun e w' => e = .returned (.bool (bagOkB bag)) ∧ ∃ n, w' = w.drewN n := by
  go_enter Try.func30, Try.ntmps30
  go_wp2
  go_loopw [3] (fun i wr => ∃ k : Nat, k ≤ bag.length ∧ i = .int .i64 k ∧ okFrom none bag = okFrom (prevRow bag k) (bag.drop k) ∧ ∃ n, wr = w.drewN n) (fun i _ => bag.length - (intOf i).toNat)
  case atStart => exact ⟨0, Nat.zero_le _, rfl, rfl, 0, rfl⟩
  case round =>
    obtain ⟨k, hk, rfl, ht, hW⟩ := hrel
    have hBr : Bag wr B A bag := by obtain ⟨n, rfl⟩ := hW; exact hB
    have HW := Lib.hid hW
    clear hW hB
    have HT := Lib.hid ht
    clear ht
    by_cases hlt : k < bag.length
    · obtain ⟨b, off, rfl, _, hc⟩ := hBr (by omega)
      obtain ⟨Ar, cap, h1, h2, h3, h4⟩ := hc k hlt
      have HC := Lib.hid hc
      clear hc
      cases hr : rowOkB (rx bag k) with
      | false =>
        have HR := Lib.hid hr
        clear hr
        go_wp2_with fail
        go_quiet (first | (go_at_call 31; exact quiet_same (specRowOk_no Ar cap (rx bag k) _ B (by exact h3) h4 HR.out)))
        go_wp2
        go_ret
        exact ⟨ret_bool (by rw [bag_not]; rw [HT.out, ok_step hlt, HR.out]; rfl), drew_more HW.out _⟩
      | true =>
        have HR := Lib.hid hr
        clear hr
        cases hz : nx bag k == 0 with
        | true =>
          go_wp2_with fail
          go_quiet (first | (go_at_call 31; exact quiet_same (specRowOk_yes Ar cap (rx bag k) _ B (by exact h3) h4 HR.out)))
          go_wp2
          go_ret
          exact ⟨ret_bool (by rw [bag_not]; rw [HT.out, ok_step hlt, HR.out, bne, hz]; rfl), drew_more HW.out _⟩
        | false =>
          cases hn : inB (nx bag k) (-1000000) 1000000 with
          | false =>
            have HN := Lib.hid hn
            clear hn
            go_wp2_with fail
            go_quiet (first | (go_at_call 31; exact quiet_same (specRowOk_yes Ar cap (rx bag k) _ B (by exact h3) h4 HR.out)) | (go_at_call 100; exact quiet_same (l1In_no (nx bag k) (-1000000) 1000000 _ HN.out)))
            go_wp2
            go_ret
            exact ⟨ret_bool (by rw [bag_not]; rw [HT.out, ok_step hlt, HR.out, bne, hz, HN.out]; rfl), drew_more HW.out _⟩
          | true =>
            have HN := Lib.hid hn
            clear hn
            by_cases h0 : 0 < k
            · obtain ⟨k0, hk0⟩ : ∃ k0 : Nat, k = k0 + 1 := ⟨k - 1, by omega⟩
              obtain ⟨Ap, capp, p1, p2, p3, p4⟩ := HC.out k0 (by omega)
              have hwr : IntKind.i64.wrap ((k : Int) - 1) = (k0 : Int) := by rw [IntKind.wrap_i64]; omega
              have hk0l : k0 < bag.length := by omega
              have hpr : prevRow bag k = some (rx bag k0) := by rw [hk0]; rfl
              have HPR := Lib.hid hpr
              clear hpr hk0 p2
              cases hls : lessB (rx bag k0) (rx bag k) with
              | false =>
                have HL := Lib.hid hls
                clear hls
                go_wp2_with fail
                go_quiet (first | (go_at_call 31; exact quiet_same (specRowOk_yes Ar cap (rx bag k) _ B (by exact h3) h4 HR.out)) | (go_at_call 100; exact quiet_same (l1In_yes (nx bag k) (-1000000) 1000000 _ HN.out)) | (go_at_call 47; exact Calls.quiet_of (specRowLess_no Ap Ar capp cap (rx bag k0) (rx bag k) _ B B (by exact p3) (by exact h3) p4 h4 HL.out)))
                go_wp2
                go_ret
                exact ⟨ret_bool (by rw [bag_not]; rw [HT.out, ok_step hlt, HR.out, bne, hz, HN.out, HPR.out]; simp only [HL.out]; rfl), drew_more HW.out _⟩
              | true =>
                have HL := Lib.hid hls
                clear hls
                go_wp2_with fail
                go_quiet (first | (go_at_call 31; exact quiet_same (specRowOk_yes Ar cap (rx bag k) _ B (by exact h3) h4 HR.out)) | (go_at_call 100; exact quiet_same (l1In_yes (nx bag k) (-1000000) 1000000 _ HN.out)) | (go_at_call 47; exact Calls.quiet_of (specRowLess_yes Ap Ar capp cap (rx bag k0) (rx bag k) _ B B (by exact p3) (by exact h3) p4 h4 HL.out)))
                go_wp2
                go_roundw
                case rel => exact ⟨k + 1, by omega, by go_num, by rw [HT.out, ok_step hlt, HR.out, bne, hz, HN.out, HPR.out]; simp only [HL.out]; rfl, drew_more HW.out _⟩
                case measure => simp [intOf]; omega
            · have hd0 : decide (0 < k) = false := by simpa using h0
              have hpr : prevRow bag k = none := by rw [show k = 0 by omega]; rfl
              have HPR := Lib.hid hpr
              have H0 := Lib.hid h0
              clear hpr h0
              go_wp2_with fail
              go_quiet (first | (go_at_call 31; exact quiet_same (specRowOk_yes Ar cap (rx bag k) _ B (by exact h3) h4 HR.out)) | (go_at_call 100; exact quiet_same (l1In_yes (nx bag k) (-1000000) 1000000 _ HN.out)))
              go_wp2
              go_roundw
              case rel => exact ⟨k + 1, by omega, by go_num, by rw [HT.out, ok_step hlt, HR.out, bne, hz, HN.out, HPR.out]; rfl, drew_more HW.out _⟩
              case measure => simp [intOf]; omega
    · have hd : decide (k < bag.length) = false := by simpa using hlt
      go_wp2
      go_ret
      refine ⟨ret_bool ?_, HW.out⟩
      unfold bagOkB
      rw [HT.out, List.drop_of_length_le (by omega)]
      have e : okFrom (prevRow bag k) [] = true := by cases prevRow bag k <;> rfl
      rw [e, Bool.true_and]
      exact decide_eq_decide.2 (by omega)
end Go.Proofs.Ytoncfodlffofdaa
