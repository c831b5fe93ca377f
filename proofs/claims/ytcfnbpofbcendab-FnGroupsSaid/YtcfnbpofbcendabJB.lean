/- Texts joined: Bag1, Bag5, Bag2, Bag3, BagI1, BagOwn, CopyRow0, Bag6, BagMark, BagMark2, Sz0, Bag4, BagOpen, RowsRws, RowsRows: contracts and plain facts; each says its own below. -/
import Derived.Test.YtcfnbpofbcendabJA
import Derived.StillTailTactics
import Derived.Deep.RegionHeld3
import Derived.Deep.AppendLies
import Derived.Deep.DrawnRows
import Derived.Deep.SlicePairs
import Derived.ChangeSlices
import Derived.ProofKit
/- A slice of counts that reads as a bag; contracts of the model's reading functions over bags: TimesIn, BagOk, and of l1Same. Each says what the call returns; no memory has turned. For bags and rows of at most 2^40. -/
namespace Go.Proofs.Ytcfnbpofbcendab
open Go.RowKit

/-- The row and the number at place k (names of their own, so that the walk does not respell them). -/
def rx (bag : List (List Int × Int)) (k : Nat) : List Int := (bag[k]?.getD ([], 0)).1
def nx (bag : List (List Int × Int)) (k : Nat) : Int := (bag[k]?.getD ([], 0)).2
theorem bag_drop (bag : List (List Int × Int)) (k : Nat) (h : k < bag.length) : bag.drop k = (rx bag k, nx bag k) :: bag.drop (k + 1) := by
  have e : (rx bag k, nx bag k) = bag[k] := by simp [rx, nx, h]
  rw [e]; exact List.drop_eq_getElem_cons h
/-- A slice of counts reads as the bag: its cells and its rows lie below B. -/
def Bag (w : World) (B : Nat) (A : Option Addr) (bag : List (List Int × Int)) : Prop :=
  0 < bag.length → ∃ b off, A = some ⟨b, off, none⟩ ∧ b < B ∧ ∀ j, j < bag.length → ∃ Ar cap, w.cell? ⟨b, off + j * 2, none⟩ = some (.slice Ar (rx bag j).length cap) ∧ w.cell? ⟨b, off + j * 2 + 1, none⟩ = some (.int .i64 (nx bag j)) ∧ Ints w B Ar (rx bag j) ∧ (rx bag j).length ≤ 1099511627776
theorem Bag.keep {w w' : World} {B : Nat} {A : Option Addr} {bag : List (List Int × Int)} (h : Bag w B A bag) (hk : ∀ p : Addr, p.block < B → w'.cell? p = w.cell? p) : Bag w' B A bag := fun hn => by
  obtain ⟨b, off, e, hb, hc⟩ := h hn
  refine ⟨b, off, e, hb, fun j hj => ?_⟩
  obtain ⟨Ar, cap, h1, h2, h3, h4⟩ := hc j hj
  exact ⟨Ar, cap, (hk _ hb).trans h1, (hk _ hb).trans h2, h3.keep hk, h4⟩
theorem Bag.below {w w' : World} {B : Nat} {A : Option Addr} {bag : List (List Int × Int)} (h : Bag w B A bag) (hb : Below B w w') : Bag w' B A bag := h.keep fun _ hp => hb.cell hp
theorem Bag.more {w : World} {B B' : Nat} {A : Option Addr} {bag : List (List Int × Int)} (h : Bag w B A bag) (hB : B ≤ B') : Bag w B' A bag := fun hn => by
  obtain ⟨b, off, e, hb, hc⟩ := h hn
  refine ⟨b, off, e, by omega, fun j hj => ?_⟩
  obtain ⟨Ar, cap, h1, h2, h3, h4⟩ := hc j hj
  exact ⟨Ar, cap, h1, h2, h3.more hB, h4⟩
theorem Bag.on {w w' : World} {A : Option Addr} {bag : List (List Int × Int)} (h : Bag w w.heap.size A bag) (hb : Below w.heap.size w w') : Bag w' w'.heap.size A bag := (h.below hb).more hb.size
theorem Bag.drewN {w : World} {B : Nat} {A : Option Addr} {bag : List (List Int × Int)} (h : Bag w B A bag) (k : Nat) : Bag (w.drewN k) B A bag := h

theorem drew_more {w wr : World} (h : ∃ n, wr = w.drewN n) (m : Nat) : ∃ n, wr.drewN m = w.drewN n := by
  obtain ⟨n, rfl⟩ := h
  exact ⟨n + m, World.drewN_drewN ..⟩
theorem quiet_same {P : Program} {f : FuncId} {args : Array Value} {w : World} {n : Nat} {v : Value}
    (h : Calls P f args (w.drewN n) fun e w' => e = .returned v ∧ w.drewN n = w') : Calls P f args (w.drewN n) fun e w'' => e = .returned v ∧ ∃ m, w'' = w.drewN m :=
  h.mono fun _ _ ⟨he, hm⟩ => ⟨he, n, hm.symm⟩
theorem less_same_iff (a b : List Int) : (!lessB a b && !lessB b a) = decide (a = b) := by
  have key : ∀ a b : List Int, (a = b ∧ lessB a b = false ∧ lessB b a = false) ∨ (a ≠ b ∧ (lessB a b = true ∨ lessB b a = true)) := by
    intro a
    induction a with
    | nil => intro b; cases b with
      | nil => exact .inl ⟨rfl, rfl, rfl⟩
      | cons y ys => exact .inr ⟨by simp, .inl rfl⟩
    | cons x xs ih => intro b; cases b with
      | nil => exact .inr ⟨by simp, .inr rfl⟩
      | cons y ys =>
        by_cases e : x = y
        · subst e
          have := ih ys
          simpa [lessB] using this
        · have e' : ¬ y = x := fun h => e h.symm
          simp only [lessB, if_neg e, if_neg e']
          right
          refine ⟨by simp [e], ?_⟩
          simp; omega
  rcases key a b with ⟨h, h1, h2⟩ | ⟨h, h1 | h1⟩
  · rw [h1, h2, decide_eq_true h]; rfl
  · rw [h1, decide_eq_false h]; rfl
  · rw [h1, decide_eq_false h]; simp

set_option maxHeartbeats 1000000 in
theorem l1Same_any (A A' : Option Addr) (c c' : Nat) (zs ys : List Int) (w : World) (B B' : Nat) (hI : Ints w B A zs) (hI' : Ints w B' A' ys) (hl : zs.length ≤ 1099511627776) (hl' : ys.length ≤ 1099511627776) :
    Calls Try.prog 41 #[.slice A zs.length c, .slice A' ys.length c'] w fun e w' => e = .returned (.bool (decide (zs = ys))) ∧ ∃ n, w' = w.drewN n := by
  have hs := Lib.hid (less_same_iff zs ys)
  go_enter Try.func41, Try.ntmps41
  go_wp2_with fail
  refine (specRowLess_any A A' c c' zs ys w B B' hI hI' hl hl').mono ?_
  rintro e w1 ⟨rfl, n1, rfl⟩
  cases h1 : lessB zs ys with
  | true =>
    have h1' := Lib.hid h1
    clear h1
    go_wp2
    go_ret
    exact ⟨ret_bool (by rw [← hs.out, h1'.out]; rfl), n1, rfl⟩
  | false =>
    have h1' := Lib.hid h1
    clear h1
    go_wp2_with fail
    refine (specRowLess_any A' A c' c ys zs (w.drewN n1) B' B (hI'.drewN n1) (hI.drewN n1) hl' hl).mono ?_
    rintro e w2 ⟨rfl, n2, rfl⟩
    go_wp2
    go_ret
    exact ⟨ret_bool (by rw [← hs.out, h1'.out]; rfl), n1 + n2, by simp⟩

def timesL : List (List Int × Int) → List Int → Int
  | [], _ => 0
  | (r, n) :: bs, row => if r = row then n else timesL bs row
theorem times_yes {bag : List (List Int × Int)} {row : List Int} {k : Nat} (h : k < bag.length) (e : rx bag k = row) : timesL (bag.drop k) row = nx bag k := by
  rw [bag_drop bag k h, timesL, if_pos e]
theorem times_no {bag : List (List Int × Int)} {row : List Int} {k : Nat} (h : k < bag.length) (e : ¬ rx bag k = row) : timesL (bag.drop k) row = timesL (bag.drop (k + 1)) row := by
  rw [bag_drop bag k h, timesL, if_neg e]

/-- Whether the counts are as a bag's, behind a row. -/
def okFrom : Option (List Int) → List (List Int × Int) → Bool
  | _, [] => true
  | p, (r, n) :: bs => rowOkB r && (n != 0) && inB n (-1000000) 1000000 && (match p with | none => true | some q => lessB q r) && okFrom (some r) bs
def bagOkB (bag : List (List Int × Int)) : Bool := okFrom none bag && decide (bag.length ≤ 300)

theorem specRowLess_yes (A A' : Option Addr) (c c' : Nat) (zs ys : List Int) (w : World) (B B' : Nat) (hI : Ints w B A zs) (hI' : Ints w B' A' ys) (hl : zs.length ≤ 1099511627776) (hl' : ys.length ≤ 1099511627776) (h : lessB zs ys = true) :
    Calls Try.prog 27 #[.slice A zs.length c, .slice A' ys.length c'] w fun e w' => e = .returned (.bool true) ∧ ∃ n, w' = w.drewN n := by rw [← h]; exact specRowLess_any A A' c c' zs ys w B B' hI hI' hl hl'
theorem specRowLess_no (A A' : Option Addr) (c c' : Nat) (zs ys : List Int) (w : World) (B B' : Nat) (hI : Ints w B A zs) (hI' : Ints w B' A' ys) (hl : zs.length ≤ 1099511627776) (hl' : ys.length ≤ 1099511627776) (h : lessB zs ys = false) :
    Calls Try.prog 27 #[.slice A zs.length c, .slice A' ys.length c'] w fun e w' => e = .returned (.bool false) ∧ ∃ n, w' = w.drewN n := by rw [← h]; exact specRowLess_any A A' c c' zs ys w B B' hI hI' hl hl'
/-- The row before place k. -/
def prevRow (bag : List (List Int × Int)) : Nat → Option (List Int)
  | 0 => none
  | k + 1 => some (rx bag k)
theorem ok_step {bag : List (List Int × Int)} {k : Nat} (h : k < bag.length) : okFrom (prevRow bag k) (bag.drop k) = (rowOkB (rx bag k) && (nx bag k != 0) && inB (nx bag k) (-1000000) 1000000 && (match prevRow bag k with | none => true | some q => lessB q (rx bag k)) && okFrom (prevRow bag (k + 1)) (bag.drop (k + 1))) := by
  rw [bag_drop bag k h]; rfl
theorem bag_not {bag : List (List Int × Int)} (h : okFrom none bag = false) : bagOkB bag = false := by unfold bagOkB; rw [h]; rfl

set_option maxRecDepth 100000 in
set_option maxHeartbeats 4000000 in
theorem specBagOk_any (A : Option Addr) (c : Nat) (bag : List (List Int × Int)) (w : World) (B : Nat) (hB : Bag w B A bag) (hl : bag.length ≤ 1099511627776) :
    Calls Try.prog 9 #[.slice A bag.length c] w fun e w' => e = .returned (.bool (bagOkB bag)) ∧ ∃ n, w' = w.drewN n := by
  go_enter Try.func9, Try.ntmps9
  go_wp2
  go_loopw [3] (fun i wr => ∃ k : Nat, k ≤ bag.length ∧ i = .int .i64 k ∧ okFrom none bag = okFrom (prevRow bag k) (bag.drop k) ∧ ∃ n, wr = w.drewN n) (fun i _ => bag.length - (intOf i).toNat)
  case atStart => exact ⟨0, Nat.zero_le _, rfl, rfl, 0, rfl⟩
  case round =>
    obtain ⟨k, hk, rfl, ht, hW⟩ := hrel
    have hBr : Bag wr B A bag := by obtain ⟨n, rfl⟩ := hW; exact hB
    have HW := Lib.hid hW
    clear hW hB
    have HT := Lib.hid ht
    clear ht
    by_cases hlt : k < bag.length
    · obtain ⟨b, off, rfl, _, hc⟩ := hBr (by omega)
      obtain ⟨Ar, cap, h1, h2, h3, h4⟩ := hc k hlt
      have HC := Lib.hid hc
      clear hc
      cases hr : rowOkB (rx bag k) with
      | false =>
        have HR := Lib.hid hr
        clear hr
        go_wp2_with fail
        go_quiet (first | (go_at_call 25; exact quiet_same (specRowOk_no Ar cap (rx bag k) _ B (by exact h3) h4 HR.out)))
        go_wp2
        go_ret
        exact ⟨ret_bool (by rw [bag_not]; rw [HT.out, ok_step hlt, HR.out]; rfl), drew_more HW.out _⟩
      | true =>
        have HR := Lib.hid hr
        clear hr
        cases hz : nx bag k == 0 with
        | true =>
          go_wp2_with fail
          go_quiet (first | (go_at_call 25; exact quiet_same (specRowOk_yes Ar cap (rx bag k) _ B (by exact h3) h4 HR.out)))
          go_wp2
          go_ret
          exact ⟨ret_bool (by rw [bag_not]; rw [HT.out, ok_step hlt, HR.out, bne, hz]; rfl), drew_more HW.out _⟩
        | false =>
          cases hn : inB (nx bag k) (-1000000) 1000000 with
          | false =>
            have HN := Lib.hid hn
            clear hn
            go_wp2_with fail
            go_quiet (first | (go_at_call 25; exact quiet_same (specRowOk_yes Ar cap (rx bag k) _ B (by exact h3) h4 HR.out)) | (go_at_call 26; exact quiet_same (l1In_no (nx bag k) (-1000000) 1000000 _ HN.out)))
            go_wp2
            go_ret
            exact ⟨ret_bool (by rw [bag_not]; rw [HT.out, ok_step hlt, HR.out, bne, hz, HN.out]; rfl), drew_more HW.out _⟩
          | true =>
            have HN := Lib.hid hn
            clear hn
            by_cases h0 : 0 < k
            · obtain ⟨k0, hk0⟩ : ∃ k0 : Nat, k = k0 + 1 := ⟨k - 1, by omega⟩
              obtain ⟨Ap, capp, p1, p2, p3, p4⟩ := HC.out k0 (by omega)
              have hwr : IntKind.i64.wrap ((k : Int) - 1) = (k0 : Int) := by rw [IntKind.wrap_i64]; omega
              have hk0l : k0 < bag.length := by omega
              have hpr : prevRow bag k = some (rx bag k0) := by rw [hk0]; rfl
              have HPR := Lib.hid hpr
              clear hpr hk0 p2
              cases hls : lessB (rx bag k0) (rx bag k) with
              | false =>
                have HL := Lib.hid hls
                clear hls
                go_wp2_with fail
                go_quiet (first | (go_at_call 25; exact quiet_same (specRowOk_yes Ar cap (rx bag k) _ B (by exact h3) h4 HR.out)) | (go_at_call 26; exact quiet_same (l1In_yes (nx bag k) (-1000000) 1000000 _ HN.out)) | (go_at_call 27; exact Calls.quiet_of (specRowLess_no Ap Ar capp cap (rx bag k0) (rx bag k) _ B B (by exact p3) (by exact h3) p4 h4 HL.out)))
                go_wp2
                go_ret
                exact ⟨ret_bool (by rw [bag_not]; rw [HT.out, ok_step hlt, HR.out, bne, hz, HN.out, HPR.out]; simp only [HL.out]; rfl), drew_more HW.out _⟩
              | true =>
                have HL := Lib.hid hls
                clear hls
                go_wp2_with fail
                go_quiet (first | (go_at_call 25; exact quiet_same (specRowOk_yes Ar cap (rx bag k) _ B (by exact h3) h4 HR.out)) | (go_at_call 26; exact quiet_same (l1In_yes (nx bag k) (-1000000) 1000000 _ HN.out)) | (go_at_call 27; exact Calls.quiet_of (specRowLess_yes Ap Ar capp cap (rx bag k0) (rx bag k) _ B B (by exact p3) (by exact h3) p4 h4 HL.out)))
                go_wp2
                go_roundw
                case rel => exact ⟨k + 1, by omega, by go_num, by rw [HT.out, ok_step hlt, HR.out, bne, hz, HN.out, HPR.out]; simp only [HL.out]; rfl, drew_more HW.out _⟩
                case measure => simp [intOf]; omega
            · have hd0 : decide (0 < k) = false := by simpa using h0
              have hpr : prevRow bag k = none := by rw [show k = 0 by omega]; rfl
              have HPR := Lib.hid hpr
              have H0 := Lib.hid h0
              clear hpr h0
              go_wp2_with fail
              go_quiet (first | (go_at_call 25; exact quiet_same (specRowOk_yes Ar cap (rx bag k) _ B (by exact h3) h4 HR.out)) | (go_at_call 26; exact quiet_same (l1In_yes (nx bag k) (-1000000) 1000000 _ HN.out)))
              go_wp2
              go_roundw
              case rel => exact ⟨k + 1, by omega, by go_num, by rw [HT.out, ok_step hlt, HR.out, bne, hz, HN.out, HPR.out]; rfl, drew_more HW.out _⟩
              case measure => simp [intOf]; omega
    · have hd : decide (k < bag.length) = false := by simpa using hlt
      go_wp2
      go_ret
      refine ⟨ret_bool ?_, HW.out⟩
      unfold bagOkB
      rw [HT.out, List.drop_of_length_le (by omega)]
      have e : okFrom (prevRow bag k) [] = true := by cases prevRow bag k <;> rfl
      rw [e, Bool.true_and]
      exact decide_eq_decide.2 (by omega)
end Go.Proofs.Ytcfnbpofbcendab

/- The contract of the model's copy of a row: new memory, the same numbers; nothing that lay has turned. For rows of at most 2^40. -/
namespace Go.Proofs.Ytcfnbpofbcendab
open Go.RowKit

theorem reads_ints {w : World} {B : Nat} {A : Option Addr} {zs : List Int} (h : Ints w B A zs) : Reads w B 1 A zs.length (i64l zs) := by
  refine ⟨by rw [i64l_length, Nat.mul_one], fun hn => ?_⟩
  obtain ⟨b, off, e, hb, hc⟩ := h hn
  refine ⟨_, e, hb, fun j u hu => ?_⟩
  have hj : j < zs.length := by
    rcases Nat.lt_or_ge j zs.length with hj | hj
    · exact hj
    · rw [List.getElem?_eq_none (by rw [i64l_length]; exact hj)] at hu; cases hu
  have ea : Addr.add ⟨b, off, none⟩ j = ⟨b, off + j, none⟩ := by unfold Addr.add; split <;> simp_all
  rw [ea, hc j hj, ← hu]
  simp [i64l, ix, hj]
theorem i64l_one (zs : List Int) : ∀ u ∈ i64l zs, u.oneCell' = true := by
  intro u hu
  obtain ⟨y, _, rfl⟩ := List.mem_map.1 hu
  rfl
set_option maxRecDepth 100000 in
set_option maxHeartbeats 1000000 in
theorem l1Row_any (A : Option Addr) (c : Nat) (zs : List Int) (w : World) (hI : Ints w w.heap.size A zs) (hl : zs.length ≤ 1099511627776) :
    Calls Try.prog 42 #[.slice A zs.length c] w fun e w' => ∃ v, e = .returned v ∧ w'.ownsRow w.heap.size 2 1 v zs.length (i64l zs) ∧ Below w.heap.size w w' := by
  obtain ⟨i0, hi0, hz0, hz1, hz2⟩ := info_parts info_i64
  have hE := ownsRow_empty w 2 w.heap.size (Nat.le_refl _)
  have hR := (reads_ints hI).alloc (Nat.le_refl _) (.cells #[] 2)
  have b1 := (Below.refl w.heap.size w).alloc (Nat.le_refl _) (.cells #[] 2)
  go_enter Try.func42, Try.ntmps42
  go_wp2_with (at_builtin; refine wpList_append_any _ rfl (.tmp 3) (.tmp 4) 25 rfl w.heap.size 2 i0 (.int .i64 0) 1 8 Try.underlying25 hi0 hz0 hz1 hz2 rfl (by decide) _ _ _ rfl hE _ A zs.length c (i64l zs) rfl hR (i64l_one _) (by simp only [maxLen]; omega) (by omega) (by simp) ?_; intro v5 w5 hown5 hg5 hat5)
  simp only [Nat.zero_add, List.nil_append] at hown5
  have hr5 : ∀ k, (Value.slice (some ⟨w.heap.size, 0, none⟩) 0 0).ownBlock = some k → w.heap.size ≤ k := fun k e => by
    have : w.heap.size = k := Option.some.inj e
    omega
  have hb5 := b1.grown hg5 (by simp) hr5
  go_ret
  exact ⟨_, rfl, hown5, hb5⟩
end Go.Proofs.Ytcfnbpofbcendab

/- Contracts of the laws' comparison of bags: whether they are the same; nothing that lay has turned. For bags and rows of at most 2^40. -/
namespace Go.Proofs.Ytcfnbpofbcendab
open Go.RowKit

theorem bag_ix {bag : List (List Int × Int)} {k : Nat} (h : k < bag.length) : bag[k] = (rx bag k, nx bag k) := by simp [rx, nx, h]
theorem bag_take_ext {b1 b2 : List (List Int × Int)} {k : Nat} (h : k < b1.length) (h' : k < b2.length) (ht : b1.take k = b2.take k) (e : (rx b1 k, nx b1 k) = (rx b2 k, nx b2 k)) : b1.take (k + 1) = b2.take (k + 1) := by
  rw [List.take_succ_eq_append_getElem h, List.take_succ_eq_append_getElem h', ht, bag_ix h, bag_ix h', e]

end Go.Proofs.Ytcfnbpofbcendab

/- A bag in memory of the call's own: its counts begin one block, its rows each begin another; the contract of the laws' copying of a bag. -/
namespace Go.Proofs.Ytcfnbpofbcendab
open Go.RowKit

/-- The counts begin block g, row j begins block gs j (none of them frozen). -/
def BagAt (w : World) (A : Option Addr) (bag : List (List Int × Int)) (g : Nat) (gs : Nat → Nat) : Prop :=
  0 < bag.length → A = some ⟨g, 0, none⟩ ∧ ∃ cells : Array Value, w.heap[g]? = some (.cells cells 33 (0, 0)) ∧
    ∀ j, j < bag.length → ∃ Ar cap, cells[j * 2]? = some (.slice Ar (rx bag j).length cap) ∧ cells[j * 2 + 1]? = some (.int .i64 (nx bag j)) ∧ Row w 2 Ar (rx bag j) (gs j)
/-- No two rows share a block; all lie at base or behind. -/
def Apart (base : Nat) (bag : List (List Int × Int)) (gs : Nat → Nat) : Prop :=
  (∀ j, j < bag.length → 0 < (rx bag j).length → base ≤ gs j) ∧ ∀ i j, i < j → j < bag.length → 0 < (rx bag i).length → 0 < (rx bag j).length → gs i ≠ gs j
theorem BagAt.bag {w : World} {A : Option Addr} {bag : List (List Int × Int)} {g : Nat} {gs : Nat → Nat} (h : BagAt w A bag g gs) (hl : ∀ j, j < bag.length → (rx bag j).length ≤ 1099511627776) : Bag w w.heap.size A bag := fun hn => by
  obtain ⟨rfl, cells, hg, hc⟩ := h hn
  have hlt : g < w.heap.size := by
    rcases Nat.lt_or_ge g w.heap.size with hlt | hge
    · exact hlt
    · rw [Array.getElem?_eq_none hge] at hg; cases hg
  refine ⟨g, 0, rfl, hlt, fun j hj => ?_⟩
  obtain ⟨Ar, cap, h1, h2, h3⟩ := hc j hj
  exact ⟨Ar, cap, by rw [cell_of_row w g _ cells _ (0, 0) hg, Nat.zero_add]; exact h1, by rw [cell_of_row w g _ cells _ (0, 0) hg, Nat.zero_add]; exact h2, h3.ints, hl j hj⟩
theorem BagAt.on {w w' : World} {A : Option Addr} {bag : List (List Int × Int)} {g : Nat} {gs : Nat → Nat} (h : BagAt w A bag g gs) (hb : Below w.heap.size w w') : BagAt w' A bag g gs := fun hn => by
  obtain ⟨rfl, cells, hg, hc⟩ := h hn
  have hlt : g < w.heap.size := by
    rcases Nat.lt_or_ge g w.heap.size with hlt | hge
    · exact hlt
    · rw [Array.getElem?_eq_none hge] at hg; cases hg
  refine ⟨rfl, cells, (hb.block g hlt).trans hg, fun j hj => ?_⟩
  obtain ⟨Ar, cap, h1, h2, h3⟩ := hc j hj
  exact ⟨Ar, cap, h1, h2, h3.on hb⟩

theorem info_count : (Try.prog.info? 33).map (fun i => (i.zero, i.size, i.bytes)) = some (some (.agg #[.slice none 0 0, .int .i64 0]), 2, 32) := by kernel_rfl
theorem make_count (n : Nat) (hn : n ≤ 1099511627776) (w : World) : (Instr.makeSlice 24 (.int .i64 (n : Int)) (.int .i64 (n : Int))).run Try.prog w = .ok (.slice (some ⟨w.heap.size, 0, none⟩) n n) (w.alloc (.cells (madeCells #[.slice none 0 0, .int .i64 0] (n * 2)) 33)) := by
  obtain ⟨i, hi, hz, hs, hby⟩ := info_parts info_count
  have := run_make (P := Try.prog) w 24 33 i (.agg #[.slice none 0 0, .int .i64 0]) Try.underlying24 hi hz .i64 .i64 (n : Int) (n : Int) (by omega) (by omega) (by rw [hby]; omega) (by omega)
  rw [hs] at this
  simpa [Value.cells] using this
/-- Copied so far: the first k counts stand in the new block, their rows each in a block of its own behind it. -/
def Copied (w : World) (G : Nat) (bag : List (List Int × Int)) (k : Nat) (wr : World) : Prop :=
  ∃ (cells : Array Value) (gs : Nat → Nat), Blk wr G 33 cells ∧ cells.size = bag.length * 2 ∧ Below w.heap.size w wr ∧
    (∀ j, j < k → cells[j * 2]? = some (.slice (some ⟨gs j, 0, none⟩) (rx bag j).length (rx bag j).length) ∧ cells[j * 2 + 1]? = some (.int .i64 (nx bag j)) ∧ Blk wr (gs j) 2 (i64s (rx bag j)) ∧ G < gs j) ∧
    ∀ i j, i < j → j < k → gs i ≠ gs j

theorem copied_step_ {w w1 wr : World} {G : Nat} {bag : List (List Int × Int)} {k g : Nat} {cells : Array Value} {gs : Nat → Nat} (hcs : cells.size = bag.length * 2) (hlt : k < bag.length) (hB : Blk w1 G 33 cells) (hW : Below w.heap.size w w1) (hg : wr.heap.size ≤ g) (hG : G < wr.heap.size)
    (hR : Blk w1 g 2 (i64s (rx bag k)))
    (hrows : ∀ j, j < k → cells[j * 2]? = some (.slice (some ⟨gs j, 0, none⟩) (rx bag j).length (rx bag j).length) ∧ cells[j * 2 + 1]? = some (.int .i64 (nx bag j)) ∧ Blk w1 (gs j) 2 (i64s (rx bag j)) ∧ G < gs j ∧ gs j < wr.heap.size)
    (hne : ∀ i j, i < j → j < k → gs i ≠ gs j) (hGw : w.heap.size ≤ G := by exact Nat.le_refl _) :
    Copied w G bag (k + 1) ((w1.setCell ⟨G, k * 2, none⟩ (.slice (some ⟨g, 0, none⟩) (rx bag k).length (rx bag k).length)).setCell ⟨G, k * 2 + 1, none⟩ (.int .i64 (nx bag k))) := by
  refine ⟨_, fun j => if j = k then g else gs j, (hB.set_ _ _).set_ _ _, by simpa using hcs, (hW.setCell (p := ⟨G, k * 2, none⟩) hGw _).setCell (p := ⟨G, k * 2 + 1, none⟩) hGw _, fun j hj => ?_, fun i j hij hj => ?_⟩
  · by_cases e : j = k
    · subst e
      simp only [if_true]
      refine ⟨?_, ?_, (hR.far (p := ⟨G, _, none⟩) (by simp; omega) _).far (p := ⟨G, _, none⟩) (by simp; omega) _, by omega⟩
      · rw [Array.getElem?_setIfInBounds, if_neg (by omega), Array.getElem?_setIfInBounds, if_pos rfl, if_pos (by omega)]
      · rw [Array.getElem?_setIfInBounds, if_pos rfl, if_pos (by simp; omega)]
    · simp only [if_neg e]
      obtain ⟨r1, r2, r3, r4, r5⟩ := hrows j (by omega)
      refine ⟨?_, ?_, (r3.far (p := ⟨G, _, none⟩) (by simp; omega) _).far (p := ⟨G, _, none⟩) (by simp; omega) _, r4⟩
      · rw [Array.getElem?_setIfInBounds, if_neg (by omega), Array.getElem?_setIfInBounds, if_neg (by omega)]; exact r1
      · rw [Array.getElem?_setIfInBounds, if_neg (by omega), Array.getElem?_setIfInBounds, if_neg (by omega)]; exact r2
  · by_cases e : j = k
    · subst e
      have hi : ¬ i = j := by omega
      simp only [if_neg hi, if_true]
      have := (hrows i (by omega)).2.2.2.2; omega
    · have hi : ¬ i = k := by omega
      simp only [if_neg hi, if_neg e]; exact hne i j hij (by omega)

end Go.Proofs.Ytcfnbpofbcendab

/- Contracts of the program's reading functions over bags: slices.Equal at rows, timesOk, TimesIn, BagOk. Each says what the call returns; nothing that lay has turned. For bags and rows of at most 2^40. -/
namespace Go.Proofs.Ytcfnbpofbcendab
open Go.RowKit

set_option maxHeartbeats 1000000 in
theorem slicesEqual_any (A A' : Option Addr) (c c' : Nat) (zs ys : List Int) (w : World) (B B' : Nat) (hI : Ints w B A zs) (hI' : Ints w B' A' ys) (hl : zs.length ≤ 1099511627776) (hl' : ys.length ≤ 1099511627776) :
    Calls Try.prog 38 #[.slice A zs.length c, .slice A' ys.length c'] w fun e w' => e = .returned (.bool (decide (zs = ys))) ∧ ∃ n, w' = w.drewN n := by
  by_cases hne : zs.length = ys.length
  · have hb : ((zs.length : Int) != (ys.length : Int)) = false := by simp [hne]
    have HN := Lib.hid hne
    clear hne
    go_enter Try.func38, Try.ntmps38
    go_wp2
    go_loopw [13] (fun i wr => ∃ k : Nat, k ≤ zs.length ∧ i = .int .i64 k ∧ zs.take k = ys.take k ∧ ∃ n, wr = w.drewN n) (fun i _ => zs.length - (intOf i).toNat)
    case atStart => exact ⟨0, Nat.zero_le _, rfl, by simp, 0, rfl⟩
    case round =>
      obtain ⟨k, hk, rfl, ht, n, rfl⟩ := hrel
      have HT := Lib.hid ht
      clear ht hb
      by_cases hlt : k < zs.length
      · have hlt' : k < ys.length := by have := HN.out; omega
        obtain ⟨b, off, rfl, _, hc⟩ := hI (by omega)
        obtain ⟨b', off', rfl, _, hc'⟩ := hI' (by omega)
        have hck := hc k hlt
        have hck' := hc' k hlt'
        clear hc hc'
        by_cases he : ix zs k = ix ys k
        · have hbe : (ix zs k != ix ys k) = false := by simp [he]
          have HE := Lib.hid he
          clear he
          go_wp2
          go_quiet (fail)
          go_wp2
          go_roundw
          case rel => exact ⟨k + 1, by omega, by go_num, take_ext zs ys k hlt hlt' HT.out HE.out, _, rfl⟩
          case measure => simp [intOf]; omega
        · have hbe : (ix zs k != ix ys k) = true := by simp [he]
          have HE := Lib.hid he
          clear he
          go_wp2
          go_quiet (fail)
          go_wp2
          go_ret
          exact ⟨ret_bool (by rw [decide_eq_false]; intro h; subst h; exact HE.out rfl), n + nq, by rw [World.drewN_drewN]⟩
      · go_wp2
        go_ret
        refine ⟨ret_bool ?_, _, rfl⟩
        have h1 := HT.out
        rw [List.take_of_length_le (by omega), List.take_of_length_le (by have := HN.out; omega)] at h1
        rw [decide_eq_true h1]
  · have hb : ((zs.length : Int) != (ys.length : Int)) = true := by simp; omega
    have HN := Lib.hid hne
    clear hne
    go_enter Try.func38, Try.ntmps38
    go_wp2
    go_ret
    exact ⟨ret_bool (by rw [decide_eq_false]; intro h; subst h; exact HN.out rfl), 0, rfl⟩

theorem timesOk_any (x : Int) (w : World) :
    Calls Try.prog 34 #[.int .i64 x] w fun e w' => e = .returned (.bool (inB x (-1000000) 1000000)) ∧ w = w' := by
  unfold inB
  by_cases h1 : -1000000 ≤ x
  all_goals
    go_enter Try.func34, Try.ntmps34
    go_wp2
    go_ret
    exact ⟨ret_bool (by first | (rw [decide_eq_true (by omega : -1000000 ≤ x)]; simp) | (rw [decide_eq_false (by omega : ¬ -1000000 ≤ x)]; simp)), rfl⟩
theorem timesOk_yes (x : Int) (w : World) (h : inB x (-1000000) 1000000 = true) : Calls Try.prog 34 #[.int .i64 x] w fun e w' => e = .returned (.bool true) ∧ w = w' := by rw [← h]; exact timesOk_any x w
theorem timesOk_no (x : Int) (w : World) (h : inB x (-1000000) 1000000 = false) : Calls Try.prog 34 #[.int .i64 x] w fun e w' => e = .returned (.bool false) ∧ w = w' := by rw [← h]; exact timesOk_any x w

set_option maxRecDepth 100000 in
set_option maxHeartbeats 1000000 in
theorem implTimesIn_any (A A' : Option Addr) (c c' : Nat) (bag : List (List Int × Int)) (row : List Int) (w : World) (hB : Bag w w.heap.size A bag) (hI : Ints w w.heap.size A' row) (hl : bag.length ≤ 1099511627776) (hl' : row.length ≤ 1099511627776) :
    Calls Try.prog 22 #[.slice A bag.length c, .slice A' row.length c'] w fun e w' => e = .returned (.int .i64 (timesL bag row)) ∧ Below w.heap.size w w' := by
  go_enter Try.func22, Try.ntmps22
  go_wp2
  go_loopw [9] (fun i wr => ∃ k : Nat, k ≤ bag.length ∧ i = .int .i64 k ∧ timesL bag row = timesL (bag.drop k) row ∧ Below w.heap.size w wr) (fun i _ => bag.length - (intOf i).toNat)
  case atStart => exact ⟨0, Nat.zero_le _, rfl, rfl, Below.refl _ _⟩
  case round =>
    obtain ⟨k, hk, rfl, ht, hW⟩ := hrel
    have HT := Lib.hid ht
    clear ht
    by_cases hlt : k < bag.length
    · obtain ⟨b, off, rfl, _, hc⟩ := hB.on hW (by omega)
      obtain ⟨Ar, cap, h1, h2, h3, h4⟩ := hc k hlt
      clear hc
      have hIr := hI.on hW
      have bc := (Below.refl wr.heap.size wr).alloc (Nat.le_refl _) (.cells #[.slice Ar (rx bag k).length cap, .int .i64 (nx bag k)] 33)
      have BC := Blk.new wr 33 #[.slice Ar (rx bag k).length cap, .int .i64 (nx bag k)]
      go_wp2_with fail
      generalize wr.alloc (.cells #[.slice Ar (rx bag k).length cap, .int .i64 (nx bag k)] 33) = wa at *
      refine (slicesEqual_any Ar A' cap c' (rx bag k) row wa _ _ (h3.on bc) (hIr.on bc) h4 hl').mono ?_
      rintro e w1 ⟨rfl, n1, rfl⟩
      have hW1 := bel_drewN (bel_step hW bc) n1
      have c1 : (wa.drewN n1).cell? ⟨wr.heap.size, 1, none⟩ = some (.int .i64 (nx bag k)) := (BC.drewN n1).cell 1
      clear h1 h2 h3 hIr BC bc hW
      generalize wa.drewN n1 = wb at *
      by_cases he : rx bag k = row
      · rw [decide_eq_true he]
        have HE := Lib.hid he
        clear he
        go_wp2
        go_ret
        exact ⟨ret_int (by rw [HT.out, times_yes hlt HE.out]), hW1⟩
      · rw [decide_eq_false he]
        have HE := Lib.hid he
        clear he
        go_wp2
        go_roundw
        case rel => exact ⟨k + 1, by omega, by go_num, by rw [HT.out, times_no hlt HE.out], hW1⟩
        case measure => simp [intOf]; omega
    · have hd : decide (k < bag.length) = false := by simpa using hlt
      go_wp2
      go_ret
      refine ⟨ret_int ?_, hW⟩
      rw [HT.out, List.drop_of_length_le (by omega)]; rfl

theorem implRowLess_yes (A A' : Option Addr) (cap cap' : Nat) (zs ys : List Int) (hl : zs.length ≤ 1099511627776) (hl' : ys.length ≤ 1099511627776) (w : World) (hI : Ints w w.heap.size A zs) (hI' : Ints w w.heap.size A' ys) (h : lessB zs ys = true) :
    Calls Try.prog 35 #[.slice A zs.length cap, .slice A' ys.length cap'] w fun e W' => e = .returned (.bool true) ∧ Below w.heap.size w W' := by rw [← h]; exact implRowLess_any A A' cap cap' zs ys hl hl' w hI hI'
theorem implRowLess_no (A A' : Option Addr) (cap cap' : Nat) (zs ys : List Int) (hl : zs.length ≤ 1099511627776) (hl' : ys.length ≤ 1099511627776) (w : World) (hI : Ints w w.heap.size A zs) (hI' : Ints w w.heap.size A' ys) (h : lessB zs ys = false) :
    Calls Try.prog 35 #[.slice A zs.length cap, .slice A' ys.length cap'] w fun e W' => e = .returned (.bool false) ∧ Below w.heap.size w W' := by rw [← h]; exact implRowLess_any A A' cap cap' zs ys hl hl' w hI hI'

theorem bag_long {bag : List (List Int × Int)} (h : ¬ bag.length ≤ 300) : bagOkB bag = false := by unfold bagOkB; rw [decide_eq_false h]; simp
set_option maxRecDepth 100000 in
set_option maxHeartbeats 4000000 in
theorem implBagOk_any (A : Option Addr) (c : Nat) (bag : List (List Int × Int)) (w : World) (hB : Bag w w.heap.size A bag) (hl : bag.length ≤ 1099511627776) :
    Calls Try.prog 18 #[.slice A bag.length c] w fun e w' => e = .returned (.bool (bagOkB bag)) ∧ Below w.heap.size w w' := by
  by_cases hbig : (300 : Int) < bag.length
  · go_enter Try.func18, Try.ntmps18
    go_wp2
    go_ret
    exact ⟨ret_bool (bag_long (by omega)).symm, Below.refl _ _⟩
  have hbd : decide ((300 : Int) < bag.length) = false := by simpa using hbig
  have hl3 : bag.length ≤ 300 := by omega
  clear hbig
  go_enter Try.func18, Try.ntmps18
  go_wp2
  clear hbd
  go_loopw [10] (fun i wr => ∃ k : Nat, k ≤ bag.length ∧ i = .int .i64 k ∧ okFrom none bag = okFrom (prevRow bag k) (bag.drop k) ∧ Below w.heap.size w wr) (fun i _ => bag.length - (intOf i).toNat)
  case atStart => exact ⟨0, Nat.zero_le _, rfl, rfl, Below.refl _ _⟩
  case round =>
    obtain ⟨k, hk, rfl, ht, hW⟩ := hrel
    have HT := Lib.hid ht
    clear ht
    by_cases hlt : k < bag.length
    · have hBr := hB.on hW
      obtain ⟨b, off, rfl, _, hc⟩ := hB.on hW (by omega)
      obtain ⟨Ar, cap, h1, h2, h3, h4⟩ := hc k hlt
      clear hc
      have bc := (Below.refl wr.heap.size wr).alloc (Nat.le_refl _) (.cells #[.slice Ar (rx bag k).length cap, .int .i64 (nx bag k)] 33)
      have BC := Blk.new wr 33 #[.slice Ar (rx bag k).length cap, .int .i64 (nx bag k)]
      go_wp2_with fail
      generalize wr.alloc (.cells #[.slice Ar (rx bag k).length cap, .int .i64 (nx bag k)] 33) = wa at *
      refine (implRowOk_any Ar cap (rx bag k) h4 wa (h3.on bc)).mono ?_
      rintro e w1 ⟨rfl, hb1⟩
      have hW1 := bel_step (bel_step hW bc) hb1
      have hBC1 := BC.below hb1 BC.lt
      have hB1 := (hBr.on bc).on hb1
      have h31 := (h3.on bc).on hb1
      have c0 : w1.cell? ⟨wr.heap.size, 0, none⟩ = some (.slice Ar (rx bag k).length cap) := hBC1.cell 0
      have c1 : w1.cell? ⟨wr.heap.size, 1, none⟩ = some (.int .i64 (nx bag k)) := hBC1.cell 1
      clear h1 h2 h3 BC bc hW hb1 hBr hB
      cases hr : rowOkB (rx bag k) with
      | false =>
        have HR := Lib.hid hr
        clear hr
        go_wp2
        go_ret
        exact ⟨ret_bool (by rw [bag_not]; rw [HT.out, ok_step hlt, HR.out]; rfl), hW1⟩
      | true =>
        have HR := Lib.hid hr
        clear hr
        cases hz : nx bag k == 0 with
        | true =>
          go_wp2
          go_ret
          exact ⟨ret_bool (by rw [bag_not]; rw [HT.out, ok_step hlt, HR.out, bne, hz]; rfl), hW1⟩
        | false =>
          go_wp2_with fail
          refine (timesOk_any (nx bag k) w1).mono ?_
          rintro e w2 ⟨rfl, rfl⟩
          cases hn : inB (nx bag k) (-1000000) 1000000 with
          | false =>
            have HN := Lib.hid hn
            clear hn
            go_wp2
            go_ret
            exact ⟨ret_bool (by rw [bag_not]; rw [HT.out, ok_step hlt, HR.out, bne, hz, HN.out]; rfl), hW1⟩
          | true =>
            have HN := Lib.hid hn
            clear hn
            by_cases h0 : 0 < k
            · obtain ⟨k0, hk0⟩ : ∃ k0 : Nat, k = k0 + 1 := ⟨k - 1, by omega⟩
              obtain ⟨b', off', hbb, _, hc⟩ := hB1 (by omega)
              obtain ⟨rfl, rfl⟩ : b' = b ∧ off' = off := by simpa [eq_comm] using hbb
              obtain ⟨Ap, capp, p1, p2, p3, p4⟩ := hc k0 (by omega)
              clear hc
              have hwr : IntKind.i64.wrap ((k : Int) - 1) = (k0 : Int) := by rw [IntKind.wrap_i64]; omega
              have hk0l : k0 < bag.length := by omega
              have hpr : prevRow bag k = some (rx bag k0) := by rw [hk0]; rfl
              have HPR := Lib.hid hpr
              clear hpr hk0 p2
              go_wp2_with fail
              go_still_tail 11, (by kernel_rfl)
              change wpList _ _ _ _ _ w1.drew
              have hW2 : Below w.heap.size w w1.drew := bel_drewN hW1 1
              have i3 : Ints w1.drew w1.drew.heap.size Ar (rx bag k) := h31
              have i3' : Ints w1.drew w1.drew.heap.size Ap (rx bag k0) := p3
              clear p1 c0 c1 h31 p3 hW1 hBC1 hB1
              generalize w1.drew = wd at *
              go_wp2_with fail
              refine (implRowLess_any Ap Ar capp cap (rx bag k0) (rx bag k) p4 h4 wd i3' i3).mono ?_
              rintro e w3 ⟨rfl, hb3⟩
              have hW3 := bel_step hW2 hb3
              clear hW2 i3 i3' hb3
              cases hls : lessB (rx bag k0) (rx bag k) with
              | false =>
                have HL := Lib.hid hls
                clear hls
                go_wp2
                go_ret
                exact ⟨ret_bool (by rw [bag_not]; rw [HT.out, ok_step hlt, HR.out, bne, hz, HN.out, HPR.out]; simp only [HL.out]; rfl), hW3⟩
              | true =>
                have HL := Lib.hid hls
                clear hls
                go_wp2
                go_roundw
                case rel => exact ⟨k + 1, by omega, by go_num, by rw [HT.out, ok_step hlt, HR.out, bne, hz, HN.out, HPR.out]; simp only [HL.out]; rfl, hW3⟩
                case measure => simp [intOf]; omega
            · have hd0 : decide (0 < k) = false := by simpa using h0
              have hpr : prevRow bag k = none := by rw [show k = 0 by omega]; rfl
              have HPR := Lib.hid hpr
              have H0 := Lib.hid h0
              clear hpr h0
              go_wp2_with fail
              go_quiet (fail)
              go_wp2
              go_roundw
              case rel => exact ⟨k + 1, by omega, by go_num, by rw [HT.out, ok_step hlt, HR.out, bne, hz, HN.out, HPR.out]; rfl, bel_drewN hW1 _⟩
              case measure => simp [intOf]; omega
    · have hd : decide (k < bag.length) = false := by simpa using hlt
      go_wp2
      go_ret
      refine ⟨ret_bool ?_, hW⟩
      unfold bagOkB
      rw [HT.out, List.drop_of_length_le (by omega)]
      have e : okFrom (prevRow bag k) [] = true := by cases prevRow bag k <;> rfl
      rw [e, Bool.true_and, decide_eq_true hl3]
end Go.Proofs.Ytcfnbpofbcendab

/- A bag in memory of the call's own, count by count: words and laws; how it grows by a count; how it reads. No condition; of the program only the types of counts and numbers are named. -/
namespace Go.Proofs.Ytcfnbpofbcendab
open Go.RowKit

/-- A count in own memory: the row r (at A, of capacity c, in block g) and its number n. -/
structure Ent where
  r : List Int
  n : Int
  A : Option Addr
  c : Nat
  g : Nat
def Ent.pair (e : Ent) : List Int × Int := (e.r, e.n)
def Ent.cells (e : Ent) : List Value := [.slice e.A e.r.length e.c, .int .i64 e.n]
def entCells : List Ent → List Value
  | [] => []
  | e :: es => e.cells ++ entCells es
theorem entCells_length (es : List Ent) : (entCells es).length = es.length * 2 := by
  induction es with
  | nil => rfl
  | cons e es ih => simp [entCells, Ent.cells, ih]; omega
theorem entCells_append (es fs : List Ent) : entCells (es ++ fs) = entCells es ++ entCells fs := by
  induction es with
  | nil => rfl
  | cons e es ih => simp [entCells, ih]
theorem entCells_take (es : List Ent) (k : Nat) (h : k ≤ es.length) : (entCells es).take (k * 2) = entCells (es.take k) := by
  have e1 : entCells es = entCells (es.take k) ++ entCells (es.drop k) := by rw [← entCells_append, List.take_append_drop]
  rw [e1, List.take_append_of_le_length (by rw [entCells_length]; simp; omega), List.take_of_length_le (by rw [entCells_length]; simp; omega)]
theorem entCells_drop (es : List Ent) (k : Nat) (h : k ≤ es.length) : (entCells es).drop (k * 2) = entCells (es.drop k) := by
  have e1 : entCells es = entCells (es.take k) ++ entCells (es.drop k) := by rw [← entCells_append, List.take_append_drop]
  rw [e1, List.drop_append_of_le_length (by rw [entCells_length]; simp; omega), List.drop_of_length_le (by rw [entCells_length]; simp; omega)]; rfl
theorem entCells_get0 : ∀ (es : List Ent) (k : Nat) (h : k < es.length), (entCells es)[k * 2]? = some (.slice es[k].A es[k].r.length es[k].c)
  | e :: es, 0, _ => rfl
  | e :: es, k + 1, h => by
    have := entCells_get0 es k (by simpa using h)
    rw [show (k + 1) * 2 = k * 2 + 2 by omega]
    simpa [entCells, Ent.cells] using this
theorem entCells_get1 : ∀ (es : List Ent) (k : Nat) (h : k < es.length), (entCells es)[k * 2 + 1]? = some (.int .i64 es[k].n)
  | e :: es, 0, _ => rfl
  | e :: es, k + 1, h => by
    have := entCells_get1 es k (by simpa using h)
    rw [show (k + 1) * 2 + 1 = k * 2 + 1 + 2 by omega]
    simpa [entCells, Ent.cells] using this
theorem entCells_one (es : List Ent) : ∀ u ∈ entCells es, u.oneCell' = true := by
  induction es with
  | nil => intro u hu; cases hu
  | cons e es ih =>
    intro u hu
    simp only [entCells, Ent.cells, List.mem_append, List.mem_cons, List.not_mem_nil, or_false] at hu
    rcases hu with (rfl | rfl) | hu
    · rfl
    · rfl
    · exact ih u hu

/-- The rows of es lie each in a block of its own, at lo or behind, none of them the block 'no'. -/
def EntsAt (w : World) (lo : Nat) (no : Option Nat) (es : List Ent) : Prop :=
  (∀ e ∈ es, Row w 2 e.A e.r e.g ∧ (0 < e.r.length → lo ≤ e.g ∧ some e.g ≠ no)) ∧ es.Pairwise fun a b => 0 < a.r.length → 0 < b.r.length → a.g ≠ b.g
/-- The value v is a bag of the call's own: its counts es. -/
def OBag (w : World) (lo : Nat) (v : Value) (es : List Ent) : Prop :=
  w.ownsRow lo 33 2 v es.length (entCells es) ∧ EntsAt w lo v.ownBlock es
/-- All blocks of it lie below hi. -/
def Inside (hi : Nat) (v : Value) (es : List Ent) : Prop := (∀ g, v.ownBlock = some g → g < hi) ∧ ∀ e ∈ es, 0 < e.r.length → e.g < hi

theorem OBag.inside {w : World} {lo : Nat} {v : Value} {es : List Ent} (h : OBag w lo v es) : Inside w.heap.size v es :=
  ⟨fun g hg => (h.1.lt g hg).2, fun e he hn => (h.2.1 e he).1.lt hn⟩
theorem Row.keepB {w w' : World} {t : TypeId} {A : Option Addr} {zs : List Int} {g : Nat} (h : Row w t A zs g) (hk : 0 < zs.length → w'.heap[g]? = w.heap[g]?) : Row w' t A zs g := fun hn => by
  obtain ⟨hA, cur, hc, hj⟩ := h hn
  exact ⟨hA, cur, (hk hn).trans hc, hj⟩
theorem own_keepB {w w' : World} {base : Nat} {e : TypeId} {size : Nat} {v : Value} {n : Nat} {xs : List Value} (h : w.ownsRow base e size v n xs) (hk : ∀ g, v.ownBlock = some g → w'.heap[g]? = w.heap[g]?) : w'.ownsRow base e size v n xs := by
  refine ⟨h.1, ?_⟩
  rcases h.2 with h2 | ⟨g, cap, cur, rfl, h4, h5, h6⟩
  · exact .inl h2
  · exact .inr ⟨g, cap, cur, rfl, h4, (hk g rfl).trans h5, h6⟩
theorem OBag.keep {w w' : World} {lo hi : Nat} {v : Value} {es : List Ent} (h : OBag w lo v es) (hi' : Inside hi v es) (hk : ∀ b, lo ≤ b → b < hi → w'.heap[b]? = w.heap[b]?) : OBag w' lo v es := by
  refine ⟨own_keepB h.1 fun g hg => hk g (h.1.lt g hg).1 (hi'.1 g hg), fun e he => ?_, h.2.2⟩
  obtain ⟨h1, h2⟩ := h.2.1 e he
  exact ⟨h1.keepB fun hn => hk _ (h2 hn).1 (hi'.2 e he hn), h2⟩
theorem OBag.on {w w' : World} {lo : Nat} {v : Value} {es : List Ent} (h : OBag w lo v es) (hb : Below w.heap.size w w') : OBag w' lo v es :=
  h.keep h.inside fun b _ hlt => hb.block b hlt
theorem OBag.drewN {w : World} {lo : Nat} {v : Value} {es : List Ent} (h : OBag w lo v es) (n : Nat) : OBag (w.drewN n) lo v es := h
theorem OBag.form {w : World} {lo : Nat} {v : Value} {es : List Ent} (h : OBag w lo v es) : ∃ A cap, v = .slice A es.length cap := own_form h.1
theorem OBag.lower {w : World} {lo lo' : Nat} {v : Value} {es : List Ent} (h : OBag w lo v es) (hl : lo' ≤ lo) : OBag w lo' v es := by
  refine ⟨⟨h.1.1, ?_⟩, fun e he => ⟨(h.2.1 e he).1, fun hn => ⟨Nat.le_trans hl ((h.2.1 e he).2 hn).1, ((h.2.1 e he).2 hn).2⟩⟩, h.2.2⟩
  rcases h.1.2 with h2 | ⟨g, cap, cur, rfl, h4, h5⟩
  · exact .inl h2
  · exact .inr ⟨g, cap, cur, rfl, by omega, h5⟩

/-- No count: nil, or a block of the call's own. -/
theorem OBag.nil {w : World} {lo : Nat} {v : Value} (h : w.ownsRow lo 33 2 v 0 []) : OBag w lo v [] := ⟨h, (fun e he => by cases he), List.Pairwise.nil⟩
theorem OBag.push {w w' : World} {lo : Nat} {v v' : Value} {es : List Ent} {r : List Int} {n : Int} {A : Option Addr} {c g : Nat} (h : OBag w lo v es) (hg : w.grownBy w' v.ownBlock)
    (hown : w'.ownsRow lo 33 2 v' (es.length + 1) (entCells es ++ [.slice A r.length c, .int .i64 n])) (hat : v'.ownBlock = v.ownBlock ∨ v'.ownBlock = some w.heap.size)
    (hR : Row w 2 A r g) (hgr : 0 < r.length → lo ≤ g ∧ some g ≠ v.ownBlock ∧ ∀ e ∈ es, 0 < e.r.length → e.g ≠ g) : OBag w' lo v' (es ++ [⟨r, n, A, c, g⟩]) := by
  have key : ∀ b, b < w.heap.size → some b ≠ v.ownBlock → some b ≠ v'.ownBlock := by
    intro b hb hne e
    rcases hat with ha | ha
    · exact hne (by rw [e, ha])
    · rw [ha] at e; injection e with e; omega
  refine ⟨?_, fun e he => ?_, ?_⟩
  · rw [entCells_append]
    simpa [entCells, Ent.cells] using hown
  · rcases List.mem_append.1 he with he | he
    · obtain ⟨h1, h2⟩ := h.2.1 e he
      exact ⟨h1.kept hg fun hn => (h2 hn).2, fun hn => ⟨(h2 hn).1, key _ (h1.lt hn) (h2 hn).2⟩⟩
    · obtain rfl : e = ⟨r, n, A, c, g⟩ := by simpa using he
      exact ⟨hR.kept hg fun hn => (hgr hn).2.1, fun hn => ⟨(hgr hn).1, key _ (hR.lt hn) (hgr hn).2.1⟩⟩
  · rw [List.pairwise_append]
    refine ⟨h.2.2, List.pairwise_singleton _ _, fun a ha b hb hn hn' => ?_⟩
    obtain rfl : b = ⟨r, n, A, c, g⟩ := by simpa using hb
    exact (hgr hn').2.2 a ha hn

theorem rx_map {es : List Ent} {j : Nat} (h : j < es.length) : rx (es.map Ent.pair) j = es[j].r := by simp [rx, h, Ent.pair]
theorem nx_map {es : List Ent} {j : Nat} (h : j < es.length) : nx (es.map Ent.pair) j = es[j].n := by simp [nx, h, Ent.pair]
/-- It reads as its bag. -/
theorem OBag.bag {w : World} {lo : Nat} {A : Option Addr} {cap : Nat} {es : List Ent} {n : Nat} (h : OBag w lo (.slice A n cap) es) (hl : ∀ e ∈ es, e.r.length ≤ 1099511627776) : Bag w w.heap.size A (es.map Ent.pair) := fun hn => by
  simp only [List.length_map] at hn
  rcases h.1.2 with ⟨_, h0⟩ | ⟨g, cap', cur, hv, hg, hh, _, _, hs, ht⟩
  · omega
  · injection hv with hv _ _
    subst hv
    have hlt := Blk.lt (t := 33) (cs := cur) hh
    refine ⟨g, 0, rfl, hlt, fun j hj => ?_⟩
    simp only [List.length_map] at hj
    have e0 : ∀ i, i < es.length * 2 → w.cell? ⟨g, 0 + i, none⟩ = (entCells es)[i]? := by
      intro i hi
      rw [Nat.zero_add, Blk.cell (t := 33) (cs := cur) hh i, ← ht, List.getElem?_take, if_pos hi, Array.getElem?_toList]
    obtain ⟨h1, _⟩ := h.2.1 es[j] (List.getElem_mem hj)
    rw [rx_map hj, nx_map hj]
    refine ⟨es[j].A, es[j].c, ?_, ?_, h1.ints, hl _ (List.getElem_mem hj)⟩
    · rw [e0 (j * 2) (by omega), entCells_get0 es j hj]
    · rw [show 0 + j * 2 + 1 = 0 + (j * 2 + 1) by omega, e0 (j * 2 + 1) (by omega), entCells_get1 es j hj]
theorem OBag.block {w : World} {lo : Nat} {v : Value} {es : List Ent} (h : OBag w lo v es) : ∀ g, v.ownBlock = some g → g < w.heap.size := fun g hg => (h.1.lt g hg).2
end Go.Proofs.Ytcfnbpofbcendab

/- Contracts of the copying of rows: the model's l1Row, the program's copyOfRow; an own bag that grows by a count behind a copied row. For rows of at most 2^40. -/
namespace Go.Proofs.Ytcfnbpofbcendab
open Go.RowKit

set_option maxRecDepth 100000 in
set_option maxHeartbeats 1000000 in
theorem copyOfRow_any (A : Option Addr) (c : Nat) (zs : List Int) (w : World) (hI : Ints w w.heap.size A zs) (hl : zs.length ≤ 1099511627776) :
    Calls Try.prog 50 #[.slice A zs.length c] w fun e w' => ∃ v, e = .returned v ∧ w'.ownsRow w.heap.size 2 1 v zs.length (i64l zs) ∧ Below w.heap.size w w' := by
  obtain ⟨i0, hi0, hz0, hz1, hz2⟩ := info_parts info_i64
  have hE := ownsRow_empty w 2 w.heap.size (Nat.le_refl _)
  have hR := (reads_ints hI).alloc (Nat.le_refl _) (.cells #[] 2)
  have b1 := (Below.refl w.heap.size w).alloc (Nat.le_refl _) (.cells #[] 2)
  go_enter Try.func50, Try.ntmps50
  go_wp2_with (at_builtin; refine wpList_append_any _ rfl (.tmp 3) (.tmp 4) 25 rfl w.heap.size 2 i0 (.int .i64 0) 1 8 Try.underlying25 hi0 hz0 hz1 hz2 rfl (by decide) _ _ _ rfl hE _ A zs.length c (i64l zs) rfl hR (i64l_one _) (by simp only [maxLen]; omega) (by omega) (by simp) ?_; intro v5 w5 hown5 hg5 hat5)
  simp only [Nat.zero_add, List.nil_append] at hown5
  have hr5 : ∀ k, (Value.slice (some ⟨w.heap.size, 0, none⟩) 0 0).ownBlock = some k → w.heap.size ≤ k := fun k e => by
    have : w.heap.size = k := Option.some.inj e
    omega
  have hb5 := b1.grown hg5 (by simp) hr5
  go_ret
  exact ⟨_, rfl, hown5, hb5⟩

/-- A row copied so lies in a block of its own. -/
theorem rowAt_of_own {w : World} {base : Nat} {v : Value} {zs : List Int} (h : w.ownsRow base 2 1 v zs.length (i64l zs)) : ∃ A cap g, v = .slice A zs.length cap ∧ base ≤ g ∧ Row w 2 A zs g := Row.of_own h

/-- What a copy of a row leaves: a slice of as many numbers in a block of its own. -/
def CopyRow (zs : List Int) (w : World) (e : Ending) (w' : World) : Prop :=
  ∃ A cap g, e = .returned (.slice A zs.length cap) ∧ w.heap.size ≤ g ∧ Row w' 2 A zs g ∧ Below w.heap.size w w'
theorem l1Row_row (A : Option Addr) (c : Nat) (zs : List Int) (w : World) (hI : Ints w w.heap.size A zs) (hl : zs.length ≤ 1099511627776) :
    Calls Try.prog 42 #[.slice A zs.length c] w (CopyRow zs w) :=
  (l1Row_any A c zs w hI hl).mono fun _ _ ⟨_, he, hown, hb⟩ => by
    obtain ⟨A, cap, g, rfl, h1, h2⟩ := rowAt_of_own hown
    exact ⟨A, cap, g, he, h1, h2, hb⟩
theorem copyOfRow_row (A : Option Addr) (c : Nat) (zs : List Int) (w : World) (hI : Ints w w.heap.size A zs) (hl : zs.length ≤ 1099511627776) :
    Calls Try.prog 50 #[.slice A zs.length c] w (CopyRow zs w) :=
  (copyOfRow_any A c zs w hI hl).mono fun _ _ ⟨_, he, hown, hb⟩ => by
    obtain ⟨A, cap, g, rfl, h1, h2⟩ := rowAt_of_own hown
    exact ⟨A, cap, g, he, h1, h2, hb⟩

theorem reads_new2 (w : World) (t : TypeId) (u0 u1 : Value) : Reads (w.alloc (.cells #[u0, u1] t)) (w.heap.size + 1) 2 (some ⟨w.heap.size, 0, none⟩) 1 [u0, u1] := by
  refine ⟨rfl, fun _ => ⟨_, rfl, Nat.lt_succ_self _, fun j u hu => ?_⟩⟩
  have hB := Blk.new w t #[u0, u1]
  have ea : Addr.add ⟨w.heap.size, 0, none⟩ j = ⟨w.heap.size, 0 + j, none⟩ := by unfold Addr.add; split <;> simp_all
  rw [ea, Nat.zero_add, hB.cell j, ← hu]
  simp

/-- The bag with one more count, behind a copied row. -/
theorem OBag.pushRow {wr wd w1 w2 : World} {lo : Nat} {v v2 : Value} {es : List Ent} {r : List Int} {n : Int} {A1 : Option Addr} {cap1 g1 : Nat} {o : Obj} (hO : OBag wr lo v es) (hd : wd.heap = wr.heap) (hlo : lo ≤ wr.heap.size) (hg1 : wd.heap.size ≤ g1) (hR1 : Row w1 2 A1 r g1) (hO1 : OBag w1 lo v es)
    (hown2 : w2.ownsRow lo 33 2 v2 (es.length + 1) (entCells es ++ [.slice A1 r.length cap1, .int .i64 n])) (hgrow2 : (w1.alloc o).grownBy w2 v.ownBlock)
    (hat2 : v2.ownBlock = v.ownBlock ∨ v2.ownBlock = some (w1.alloc o).heap.size) : OBag w2 lo v2 (es ++ [⟨r, n, A1, cap1, g1⟩]) := by
  have b := (Below.refl w1.heap.size w1).alloc (Nat.le_refl _) o
  rw [hd] at hg1
  refine (hO1.on b).push hgrow2 hown2 hat2 (hR1.on b) fun hn => ⟨by omega, fun e => ?_, fun e he hn' => ?_⟩
  · have := hO.inside.1 g1 e.symm; omega
  · have := hO.inside.2 e he hn'; omega
theorem pair_snoc {bag : List (List Int × Int)} {es : List Ent} {k : Nat} {A1 : Option Addr} {cap1 g1 : Nat} (he : es.map Ent.pair = bag.take k) (h : k < bag.length) : (es ++ [(⟨rx bag k, nx bag k, A1, cap1, g1⟩ : Ent)]).map Ent.pair = bag.take (k + 1) := by
  rw [List.map_append, he, List.take_succ_eq_append_getElem h, bag_ix h]; rfl

theorem far_cell {wd w1 w2 : World} {o : Obj} {row : Option Nat} {p : Addr} (hb1 : Below wd.heap.size wd w1) (hg : (w1.alloc o).grownBy w2 row) (hp : p.block < wd.heap.size) (hne : some p.block ≠ row) : w2.cell? p = wd.cell? p := by
  have h1 : p.block < w1.heap.size := Nat.lt_of_lt_of_le hp hb1.size
  have e1 : w2.heap[p.block]? = (w1.alloc o).heap[p.block]? := hg.block _ (by rw [World.size_alloc]; omega) hne
  rw [World.cell?_of_block e1, World.cell?_alloc_lt w1 o p h1]
  exact hb1.cell hp

theorem empty_counts (w : World) : (w.alloc (.cells #[] 33)).ownsRow w.heap.size 33 2 (.slice (some ⟨w.heap.size, 0, none⟩) 0 0) 0 [] :=
  World.ownsRow_made w #[] 0 (Nat.le_refl _) (Nat.zero_le _) rfl
end Go.Proofs.Ytcfnbpofbcendab

/- One more of a row in a bag: the plain words (placeL, withL), and laws on own bags: a number set, counts left out, a cut of the counts. No condition; nothing of the program is named but its types. -/
namespace Go.Proofs.Ytcfnbpofbcendab
open Go.RowKit

def addW (a b : Int) : Int := IntKind.i64.wrap (a + b)
theorem addW_comm (a b : Int) : addW a b = addW b a := by unfold addW; rw [Int.add_comm]
/-- How many at the front are less than the row. -/
def placeL : List (List Int × Int) → List Int → Nat
  | [], _ => 0
  | (r, _) :: bs, row => if lessB r row = true then placeL bs row + 1 else 0
theorem place_le (bag : List (List Int × Int)) (row : List Int) : placeL bag row ≤ bag.length := by
  induction bag with
  | nil => exact Nat.le_refl _
  | cons p bs ih => simp only [placeL, List.length_cons]; split <;> omega
theorem place_yes {bag : List (List Int × Int)} {row : List Int} {k : Nat} (h : k < bag.length) (e : lessB (rx bag k) row = true) : placeL (bag.drop k) row = placeL (bag.drop (k + 1)) row + 1 := by
  rw [bag_drop bag k h, placeL, if_pos e]
theorem place_no {bag : List (List Int × Int)} {row : List Int} {k : Nat} (h : k < bag.length) (e : lessB (rx bag k) row = false) : placeL (bag.drop k) row = 0 := by
  rw [bag_drop bag k h, placeL, if_neg (by simp [e])]
theorem place_end {bag : List (List Int × Int)} {row : List Int} {k : Nat} (h : ¬ k < bag.length) : placeL (bag.drop k) row = 0 := by
  rw [List.drop_of_length_le (by omega)]; rfl

/-- n more of the row. -/
def withL (bag : List (List Int × Int)) (row : List Int) (n : Int) : List (List Int × Int) :=
  if placeL bag row < bag.length ∧ rx bag (placeL bag row) = row then
    (if addW (nx bag (placeL bag row)) n = 0 then bag.take (placeL bag row) ++ bag.drop (placeL bag row + 1)
     else bag.take (placeL bag row) ++ (row, addW (nx bag (placeL bag row)) n) :: bag.drop (placeL bag row + 1))
  else if n = 0 then bag else bag.take (placeL bag row) ++ (row, n) :: bag.drop (placeL bag row)
section
variable {bag : List (List Int × Int)} {row : List Int} {n : Int} {k : Nat}
theorem withL_gone (hk : placeL bag row = k) (h : k < bag.length) (e : rx bag k = row) (h0 : addW (nx bag k) n = 0) : withL bag row n = bag.take k ++ bag.drop (k + 1) := by
  subst hk; unfold withL; rw [if_pos ⟨h, e⟩, if_pos h0]
theorem withL_same (hk : placeL bag row = k) (h : k < bag.length) (e : rx bag k = row) (h0 : ¬ addW (nx bag k) n = 0) : withL bag row n = bag.take k ++ (row, addW (nx bag k) n) :: bag.drop (k + 1) := by
  subst hk; unfold withL; rw [if_pos ⟨h, e⟩, if_neg h0]
theorem withL_none (hk : placeL bag row = k) (h : ¬ (k < bag.length ∧ rx bag k = row)) (h0 : n = 0) : withL bag row n = bag := by
  subst hk; unfold withL; rw [if_neg h, if_pos h0]
theorem withL_new (hk : placeL bag row = k) (h : ¬ (k < bag.length ∧ rx bag k = row)) (h0 : ¬ n = 0) : withL bag row n = bag.take k ++ (row, n) :: bag.drop k := by
  subst hk; unfold withL; rw [if_neg h, if_neg h0]
theorem withL_length : (withL bag row n).length ≤ bag.length + 1 := by
  have hp := place_le bag row
  unfold withL
  split
  · split <;> simp <;> omega
  · split <;> simp <;> omega
end

/-- The same, not nil: the counts begin block g. -/
def OB (w : World) (lo g cap : Nat) (es : List Ent) : Prop := OBag w lo (.slice (some ⟨g, 0, none⟩) es.length cap) es
theorem OBag.ob {w : World} {lo g : Nat} {v : Value} {es : List Ent} (h : OBag w lo v es) (hv : v.ownBlock = some g) : ∃ cap, v = .slice (some ⟨g, 0, none⟩) es.length cap ∧ OB w lo g cap es := by
  rcases h.1.2 with ⟨rfl, _⟩ | ⟨g', cap, cur, rfl, _⟩
  · cases hv
  · have e : g' = g := Option.some.inj hv
    subst e
    exact ⟨cap, rfl, h⟩
theorem OB.parts {w : World} {lo g cap : Nat} {es : List Ent} (h : OB w lo g cap es) : ∃ cur : Array Value, lo ≤ g ∧ w.heap[g]? = some (.cells cur 33 (0, 0)) ∧ es.length ≤ cap ∧ cap ≤ maxLen ∧ cur.size = cap * 2 ∧ cur.toList.take (es.length * 2) = entCells es := by
  rcases h.1.2 with ⟨hv, _⟩ | ⟨g', cap', cur, hv, h2, h3, h4, h5, h6, h7⟩
  · cases hv
  · injection hv with h8 _ h10
    injection h8 with h8
    injection h8 with h8 _ _
    subst h8 h10
    exact ⟨cur, h2, h3, h4, h5, h6, h7⟩
/-- The first k of the counts, in place. -/
theorem OB.take {w : World} {lo g cap : Nat} {es : List Ent} (h : OB w lo g cap es) {k : Nat} (hk : k ≤ es.length) : w.ownsRow lo 33 2 (.slice (some ⟨g, 0, none⟩) k cap) k (entCells (es.take k)) := by
  obtain ⟨cur, h2, h3, h4, h5, h6, h7⟩ := h.parts
  refine ⟨by rw [entCells_length]; simp; omega, .inr ⟨g, cap, cur, rfl, h2, h3, by omega, h5, h6, ?_⟩⟩
  rw [← entCells_take es k hk, ← h7, List.take_take, Nat.min_eq_left (by omega)]
theorem OB.reads {w : World} {lo g cap : Nat} {es : List Ent} (h : OB w lo g cap es) : Reads w (g + 1) 2 (some ⟨g, 0, none⟩) es.length (entCells es) := by
  have := Reads.of_own h.1
  refine ⟨this.1, fun hn => ?_⟩
  obtain ⟨ad, e, _, hc⟩ := this.2 hn
  injection e with e
  subst e
  exact ⟨_, rfl, Nat.lt_succ_self _, hc⟩
/-- The counts from place k on. -/
theorem OB.readsFrom {w : World} {lo g cap : Nat} {es : List Ent} (h : OB w lo g cap es) {k : Nat} (hk : k ≤ es.length) : Reads w (g + 1) 2 (if cap = k then some ⟨g, 0, none⟩ else some ⟨g, k * 2, none⟩) (es.length - k) (entCells (es.drop k)) := by
  obtain ⟨_, _, _, h4, _⟩ := h.parts
  have := h.reads.cut hk h4
  have e : Addr.add ⟨g, 0, none⟩ (k * 2) = ⟨g, k * 2, none⟩ := by unfold Addr.add; split <;> simp_all
  rw [entCells_drop es k hk, Option.map_some, e] at this
  exact this
theorem OB.blk {w : World} {lo g cap : Nat} {es : List Ent} (h : OB w lo g cap es) : ∃ cur : Array Value, Blk w g 33 cur ∧ ∀ i, i < es.length * 2 → cur[i]? = (entCells es)[i]? := by
  obtain ⟨cur, h2, h3, h4, h5, h6, h7⟩ := h.parts
  refine ⟨cur, h3, fun i hi => ?_⟩
  rw [← h7, List.getElem?_take, if_pos hi, Array.getElem?_toList]
theorem OB.lt {w : World} {lo g cap : Nat} {es : List Ent} (h : OB w lo g cap es) : lo ≤ g ∧ g < w.heap.size := h.1.lt g rfl

theorem entCells_setN : ∀ (es : List Ent) (k : Nat) (h : k < es.length) (m : Int), entCells (es.set k { es[k] with n := m }) = (entCells es).set (k * 2 + 1) (.int .i64 m)
  | e :: es, 0, _, _ => by simp [entCells, Ent.cells]
  | e :: es, k + 1, h, m => by
    have := entCells_setN es k (by simpa using h) m
    rw [show (k + 1) * 2 + 1 = k * 2 + 1 + 2 by omega]
    simpa [entCells, Ent.cells] using this
theorem mem_setN {es : List Ent} {k : Nat} {h : k < es.length} {m : Int} {e : Ent} (he : e ∈ es.set k { es[k] with n := m }) : ∃ f ∈ es, f.r = e.r ∧ f.A = e.A ∧ f.g = e.g := by
  rcases List.mem_or_eq_of_mem_set he with h1 | h1
  · exact ⟨e, h1, rfl, rfl, rfl⟩
  · subst h1; exact ⟨es[k], List.getElem_mem h, rfl, rfl, rfl⟩
/-- The number of the count at place k set anew. -/
theorem OB.setN {w : World} {lo g cap : Nat} {es : List Ent} (h : OB w lo g cap es) {k : Nat} (hk : k < es.length) (m : Int) : OB (w.setCell ⟨g, k * 2 + 1, none⟩ (.int .i64 m)) lo g cap (es.set k { es[k] with n := m }) := by
  obtain ⟨cur, h2, h3, h4, h5, h6, h7⟩ := h.parts
  refine ⟨⟨by rw [entCells_length], .inr ⟨g, cap, cur.setIfInBounds (k * 2 + 1) (.int .i64 m), by rw [List.length_set], h2, Blk.set_ (t := 33) h3 _ _, by rw [List.length_set]; exact h4, h5, by simpa using h6, ?_⟩⟩, fun e he => ?_, ?_⟩
  · rw [entCells_setN es k hk, ← h7, List.length_set, Array.toList_setIfInBounds, List.take_set]
  · obtain ⟨f, hf, e1, e2, e3⟩ := mem_setN he
    obtain ⟨h8, h9⟩ := h.2.1 f hf
    rw [e1, e2, e3] at h8
    rw [e1, e3] at h9
    refine ⟨h8.keepB fun hn => ?_, h9⟩
    exact Below.heap_setCell w ⟨g, k * 2 + 1, none⟩ _ _ (fun e => (h9 hn).2 (by rw [e]; rfl))
  · have hp := h.2.2
    rw [List.pairwise_iff_getElem] at hp ⊢
    intro i j hi hj hij
    rw [List.length_set] at hi hj
    have key : ∀ i (hi : i < es.length) (hi' : i < (es.set k { es[k] with n := m }).length), (es.set k { es[k] with n := m })[i].r = es[i].r ∧ (es.set k { es[k] with n := m })[i].g = es[i].g := by
      intro i hi hi'
      rw [List.getElem_set]
      split
      · rename_i h; subst h; exact ⟨rfl, rfl⟩
      · exact ⟨rfl, rfl⟩
    rw [(key i hi _).1, (key i hi _).2, (key j hj _).1, (key j hj _).2]
    exact hp i j hi hj hij
theorem pair_setN {es : List Ent} {k : Nat} (hk : k < es.length) (m : Int) : (es.set k { es[k] with n := m }).map Ent.pair = (es.map Ent.pair).take k ++ (rx (es.map Ent.pair) k, m) :: (es.map Ent.pair).drop (k + 1) := by
  rw [rx_map hk, List.set_eq_take_append_cons_drop, if_pos hk]
  simp [Ent.pair]

/-- Counts left out, the rest where they stand or moved: behind an append to the block itself. -/
theorem OBag.regrow {w w' : World} {lo : Nat} {v v' : Value} {es es' : List Ent} (h : OBag w lo v es) (hsub : es'.Sublist es) (hg : w.grownBy w' v.ownBlock) (hown : w'.ownsRow lo 33 2 v' es'.length (entCells es')) (hat : v'.ownBlock = v.ownBlock ∨ v'.ownBlock = some w.heap.size) : OBag w' lo v' es' := by
  refine ⟨hown, fun e he => ?_, h.2.2.sublist hsub⟩
  obtain ⟨h1, h2⟩ := h.2.1 e (hsub.subset he)
  refine ⟨h1.kept hg fun hn => (h2 hn).2, fun hn => ⟨(h2 hn).1, fun e1 => ?_⟩⟩
  rcases hat with ha | ha
  · exact (h2 hn).2 (by rw [e1, ha])
  · rw [ha] at e1; injection e1 with e1; have := h1.lt hn; omega
/-- A count put between, behind two appends: to the cut block, and of what stood from there on. -/
theorem OB.insert {w9 wa w6 : World} {lo g cap k n9 : Nat} {es : List Ent} {row : List Int} {n : Int} {A9 : Option Addr} {cap9 g9 : Nat} {o : Obj} {va v6 : Value} (hO9 : OB w9 lo g cap es) (hk : k ≤ es.length) (hR9 : Row w9 2 A9 row g9) (h9 : n9 ≤ g9) (hg9 : g < n9) (hes : ∀ e ∈ es, 0 < e.r.length → e.g < n9)
    (hgA : (w9.alloc o).grownBy wa (some g)) (hatA : va.ownBlock = some g ∨ va.ownBlock = some (w9.alloc o).heap.size) (hg6 : wa.grownBy w6 va.ownBlock) (hat6 : v6.ownBlock = va.ownBlock ∨ v6.ownBlock = some wa.heap.size)
    (hown6 : w6.ownsRow lo 33 2 v6 (k + 1 + (es.length - k)) (entCells (es.take k) ++ [.slice A9 row.length cap9, .int .i64 n] ++ entCells (es.drop k))) :
    ∃ g6 cap6, v6 = .slice (some ⟨g6, 0, none⟩) (es.take k ++ (⟨row, n, A9, cap9, g9⟩ : Ent) :: es.drop k).length cap6 ∧ OB w6 lo g6 cap6 (es.take k ++ (⟨row, n, A9, cap9, g9⟩ : Ent) :: es.drop k) := by
  have hlo := hO9.lt
  have hsz : (w9.alloc o).heap.size = w9.heap.size + 1 := World.size_alloc _ _
  have hsA := hgA.size
  have hown : ∀ b, b < w9.heap.size → b ≠ g → some b ≠ va.ownBlock ∧ some b ≠ v6.ownBlock := by
    intro b hb hne
    have h1 : some b ≠ va.ownBlock := by
      intro e
      rcases hatA with h | h <;> rw [h] at e <;> injection e with e <;> omega
    refine ⟨h1, fun e => ?_⟩
    rcases hat6 with h | h
    · exact h1 (e.trans h)
    · rw [h] at e; injection e with e; omega
  have keep : ∀ (A : Option Addr) (r : List Int) (b : Nat), Row w9 2 A r b → (0 < r.length → b ≠ g) → Row w6 2 A r b := by
    intro A r b hR hne
    have h1 : Row (w9.alloc o) 2 A r b := hR.on ((Below.refl w9.heap.size w9).alloc (Nat.le_refl _) o)
    have h2 := h1.kept hgA fun hn e => hne hn (Option.some.inj e)
    exact h2.kept hg6 fun hn => (hown b (hR.lt hn) (hne hn)).1
  have hlen : (es.take k ++ (⟨row, n, A9, cap9, g9⟩ : Ent) :: es.drop k).length = k + 1 + (es.length - k) := by simp; omega
  have hcells : entCells (es.take k ++ (⟨row, n, A9, cap9, g9⟩ : Ent) :: es.drop k) = entCells (es.take k) ++ [.slice A9 row.length cap9, .int .i64 n] ++ entCells (es.drop k) := by
    rw [entCells_append, entCells]; simp [Ent.cells]
  have hO6 : OBag w6 lo v6 (es.take k ++ (⟨row, n, A9, cap9, g9⟩ : Ent) :: es.drop k) := by
    refine ⟨by rw [hlen, hcells]; exact hown6, fun e he => ?_, ?_⟩
    · have hmem : e ∈ es ∨ e = ⟨row, n, A9, cap9, g9⟩ := by
        rcases List.mem_append.1 he with h | h
        · exact .inl (List.mem_of_mem_take h)
        · rcases List.mem_cons.1 h with h | h
          · exact .inr h
          · exact .inl (List.mem_of_mem_drop h)
      rcases hmem with h | h
      · obtain ⟨h1, h2⟩ := hO9.2.1 e h
        have hne : 0 < e.r.length → e.g ≠ g := fun hn e1 => (h2 hn).2 (by rw [e1]; rfl)
        exact ⟨keep _ _ _ h1 hne, fun hn => ⟨(h2 hn).1, (hown _ (h1.lt hn) (hne hn)).2⟩⟩
      · subst h
        have hne : 0 < row.length → g9 ≠ g := fun _ => by omega
        exact ⟨keep _ _ _ hR9 hne, fun hn => ⟨by have := hlo.1; show lo ≤ g9; omega, (hown _ (hR9.lt hn) (hne hn)).2⟩⟩
    · have hperm : (es.take k ++ (⟨row, n, A9, cap9, g9⟩ : Ent) :: es.drop k).Perm ((⟨row, n, A9, cap9, g9⟩ : Ent) :: es) := by
        have := List.perm_middle (a := (⟨row, n, A9, cap9, g9⟩ : Ent)) (l₁ := es.take k) (l₂ := es.drop k)
        rwa [List.take_append_drop] at this
      refine (hperm.pairwise_iff (fun hab hn hn' e => hab hn' hn e.symm)).2 (List.pairwise_cons.2 ⟨fun b hb _ hn' => ?_, hO9.2.2⟩)
      have := hes b hb hn'
      show g9 ≠ b.g
      omega
  have hv : ∃ g6, v6.ownBlock = some g6 := by
    rcases hat6 with h | h
    · rcases hatA with h' | h'
      · exact ⟨_, h.trans h'⟩
      · exact ⟨_, h.trans h'⟩
    · exact ⟨_, h⟩
  obtain ⟨g6, hg6'⟩ := hv
  obtain ⟨cap6, hv6, hOB⟩ := hO6.ob hg6'
  exact ⟨g6, cap6, hv6, hOB⟩
end Go.Proofs.Ytcfnbpofbcendab

/- The marks by which a law tells whose memory a bag is: contracts of markCountS and heldCountS over own bags; what the marking leaves alone. For bags and rows of at most 2^21. -/
namespace Go.Proofs.Ytcfnbpofbcendab
open Go.RowKit

/-- Only blocks from lo to hi have turned. -/
structure Within (lo hi : Nat) (w w' : World) : Prop where
  os : w'.os = w.os
  tape : w'.tape = w.tape
  output : w'.output = w.output
  size : w.heap.size ≤ w'.heap.size
  block : ∀ b, b < w.heap.size → ¬ (lo ≤ b ∧ b < hi) → w'.heap[b]? = w.heap[b]?
theorem Within.refl (lo hi : Nat) (w : World) : Within lo hi w w := ⟨rfl, rfl, rfl, Nat.le_refl _, fun _ _ _ => rfl⟩
theorem Within.trans {lo hi : Nat} {a b c : World} (h : Within lo hi a b) (k : Within lo hi b c) : Within lo hi a c :=
  ⟨k.os.trans h.os, k.tape.trans h.tape, k.output.trans h.output, Nat.le_trans h.size k.size, fun i hi hn => (k.block i (Nat.lt_of_lt_of_le hi h.size) hn).trans (h.block i hi hn)⟩
theorem Within.of_grown {lo hi g : Nat} {w w' : World} (h : w.grownBy w' (some g)) (hg : (lo ≤ g ∧ g < hi) ∨ w.heap.size ≤ g) : Within lo hi w w' :=
  ⟨h.os, h.tape, h.output, h.size, fun b hb hn => h.block b hb (fun e => by injection e with e; subst e; rcases hg with hg | hg; exact hn hg; omega)⟩
theorem Within.setCell {lo hi : Nat} {w w' : World} (h : Within lo hi w w') {p : Addr} (hp : lo ≤ p.block ∧ p.block < hi) (v : Value) : Within lo hi w (w'.setCell p v) :=
  ⟨h.os, h.tape, h.output, by simpa [World.setCell] using h.size, fun b hb hn => (Below.heap_setCell w' p v b (fun e => hn (by rw [e]; exact hp))).trans (h.block b hb hn)⟩
theorem Within.bel {lo hi : Nat} {w w' : World} (h : Within lo hi w w') (hlo : lo ≤ w.heap.size) : Below lo w w' := ⟨h.os, h.tape, h.output, h.size, fun b hb => h.block b (by omega) (by omega)⟩
theorem Within.wide {lo hi lo' hi' : Nat} {w w' : World} (h : Within lo hi w w') (h1 : lo' ≤ lo) (h2 : hi ≤ hi') : Within lo' hi' w w' := ⟨h.os, h.tape, h.output, h.size, fun b hb hn => h.block b hb (by omega)⟩

/-- An own bag that lies between lo and hi. -/
def OIn (w : World) (lo hi : Nat) (v : Value) (es : List Ent) : Prop := OBag w lo v es ∧ Inside hi v es ∧ hi ≤ w.heap.size
theorem OBag.oin {w : World} {lo : Nat} {v : Value} {es : List Ent} (h : OBag w lo v es) : OIn w lo w.heap.size v es := ⟨h, h.inside, Nat.le_refl _⟩
theorem OIn.on {w w' : World} {lo hi : Nat} {v : Value} {es : List Ent} (h : OIn w lo hi v es) (hb : Below w.heap.size w w') : OIn w' lo hi v es := ⟨h.1.on hb, h.2.1, Nat.le_trans h.2.2 hb.size⟩
theorem OIn.within {w w' : World} {lo hi lo' hi' : Nat} {v : Value} {es : List Ent} (h : OIn w lo hi v es) (hw : Within lo' hi' w w') (ha : hi ≤ lo' ∨ hi' ≤ lo) : OIn w' lo hi v es :=
  ⟨h.1.keep h.2.1 fun b h1 h2 => hw.block b (by have := h.2.2; omega) (by omega), h.2.1, Nat.le_trans h.2.2 hw.size⟩
theorem Blk.within {w w' : World} {g lo hi : Nat} {t : TypeId} {cs : Array Value} (h : Blk w g t cs) (hw : Within lo hi w w') (ha : g < lo ∨ hi ≤ g) : Blk w' g t cs := (hw.block g h.lt (by omega)).trans h
theorem OBag.formW {w : World} {lo : Nat} {v : Value} {es : List Ent} {W : List (List Int × Int)} (h : OBag w lo v es) (he : es.map Ent.pair = W) : ∃ A cap, v = .slice A W.length cap := by
  obtain ⟨A, cap, rfl⟩ := h.form
  exact ⟨A, cap, by rw [← he, List.length_map]⟩
theorem OBag.len {w : World} {lo n c : Nat} {A : Option Addr} {es : List Ent} (h : OBag w lo (.slice A n c) es) : n = es.length := by
  obtain ⟨A', cap, e⟩ := h.form
  injection e
theorem OBag.bagW {w : World} {lo n c : Nat} {A : Option Addr} {es : List Ent} {W : List (List Int × Int)} (h : OBag w lo (.slice A n c) es) (he : es.map Ent.pair = W) (hl : ∀ j, j < W.length → (rx W j).length ≤ 1099511627776) : Bag w w.heap.size A W := by
  have hle : ∀ e ∈ es, e.r.length ≤ 1099511627776 := by
    intro e hm
    obtain ⟨j, hj, rfl⟩ := List.getElem_of_mem hm
    have := hl j (by rw [← he]; simpa using hj)
    rwa [← he, rx_map hj] at this
  rw [← he]; exact OBag.bag h hle

/-- The laws' copy of a bag is an own bag. -/
theorem copied_own {w w' : World} {bag : List (List Int × Int)} (h : Copied w w.heap.size bag bag.length w') (hm : bag.length ≤ maxLen) : ∃ es, OBag w' w.heap.size (.slice (some ⟨w.heap.size, 0, none⟩) bag.length bag.length) es ∧ es.map Ent.pair = bag := by
  obtain ⟨cells, gs, hBk, hs, _, hC, hN⟩ := h
  have hlen : ((List.range bag.length).map fun j => (⟨rx bag j, nx bag j, some ⟨gs j, 0, none⟩, (rx bag j).length, gs j⟩ : Ent)).length = bag.length := by simp
  have hget : ∀ j (h : j < ((List.range bag.length).map fun j => (⟨rx bag j, nx bag j, some ⟨gs j, 0, none⟩, (rx bag j).length, gs j⟩ : Ent)).length), ((List.range bag.length).map fun j => (⟨rx bag j, nx bag j, some ⟨gs j, 0, none⟩, (rx bag j).length, gs j⟩ : Ent))[j] = ⟨rx bag j, nx bag j, some ⟨gs j, 0, none⟩, (rx bag j).length, gs j⟩ := by
    intro j h; simp
  generalize hes : ((List.range bag.length).map fun j => (⟨rx bag j, nx bag j, some ⟨gs j, 0, none⟩, (rx bag j).length, gs j⟩ : Ent)) = es at hlen hget
  clear hes
  refine ⟨es, ⟨?_, fun e he => ?_, ?_⟩, ?_⟩
  · refine ⟨entCells_length _, .inr ⟨w.heap.size, bag.length, cells, by rw [hlen], Nat.le_refl _, hBk, by omega, hm, hs, ?_⟩⟩
    rw [hlen, List.take_of_length_le (by simp [hs])]
    apply List.ext_getElem?
    intro i
    by_cases hi : i < bag.length * 2
    · obtain ⟨j, hj | hj⟩ : ∃ j, i = j * 2 ∨ i = j * 2 + 1 := ⟨i / 2, by omega⟩
      · have hjl : j < es.length := by omega
        rw [hj, entCells_get0 es j hjl, hget j hjl, Array.getElem?_toList, (hC j (by omega)).1]
      · have hjl : j < es.length := by omega
        rw [hj, entCells_get1 es j hjl, hget j hjl, Array.getElem?_toList, (hC j (by omega)).2.1]
    · rw [List.getElem?_eq_none (by simp [hs]; omega), List.getElem?_eq_none (by rw [entCells_length, hlen]; omega)]
  · obtain ⟨j, hj, rfl⟩ := List.getElem_of_mem he
    rw [hget j hj]
    obtain ⟨_, _, h3, h4⟩ := hC j (by omega)
    exact ⟨Row.of_blk h3, fun _ => ⟨by show w.heap.size ≤ gs j; omega, fun e => by have : gs j = w.heap.size := Option.some.inj e; omega⟩⟩
  · rw [List.pairwise_iff_getElem]
    intro i j hi hj hij _ _
    rw [hget i hi, hget j hj]
    exact hN i j hij (by omega)
  · apply List.ext_getElem
    · simp [hlen]
    · intro j h1 h2
      rw [List.getElem_map, hget j (by simpa using h1), bag_ix h2]; rfl
/-- The mark that the count at place i begins with. -/
def rl (es : List Ent) (i : Nat) : Nat := (es[i]?.map fun e => e.r.length).getD 0
def kAt (k : Int) (es : List Ent) : Nat → Int
  | 0 => k
  | i + 1 => kAt k es i + (rl es i : Int) + 1
theorem rl_eq {es : List Ent} {i : Nat} (h : i < es.length) : rl es i = es[i].r.length := by simp [rl, h]
theorem rl_le {es : List Ent} {m : Nat} (hm : ∀ e ∈ es, e.r.length ≤ m) (i : Nat) : rl es i ≤ m := by
  by_cases h : i < es.length
  · rw [rl_eq h]; exact hm _ (List.getElem_mem h)
  · simp [rl, List.getElem?_eq_none (Nat.le_of_not_lt h)]
theorem kAt_bd {k : Int} {es : List Ent} {m : Nat} (hm : ∀ e ∈ es, e.r.length ≤ m) (i : Nat) : k ≤ kAt k es i ∧ kAt k es i ≤ k + (i : Int) * ((m : Int) + 1) := by
  induction i with
  | zero => simp [kAt]
  | succ i ih =>
    have := rl_le hm i
    simp only [kAt]
    constructor
    · omega
    · have e : ((i + 1 : Nat) : Int) * ((m : Int) + 1) = (i : Int) * ((m : Int) + 1) + ((m : Int) + 1) := by rw [Int.natCast_add, Int.add_mul]; simp
      omega
/-- The first i counts marked. -/
def markTo (k : Int) (es : List Ent) (i : Nat) : List Ent := es.mapIdx fun j e => if j < i then { e with r := marks (kAt k es j) e.r.length, n := kAt k es j + (e.r.length : Int) } else e
theorem markTo_length (k : Int) (es : List Ent) (i : Nat) : (markTo k es i).length = es.length := by simp [markTo]
theorem markTo_get {k : Int} {es : List Ent} {i j : Nat} (h : j < es.length) (h' : j < (markTo k es i).length) : (markTo k es i)[j] = if j < i then { es[j] with r := marks (kAt k es j) es[j].r.length, n := kAt k es j + (es[j].r.length : Int) } else es[j] := by simp [markTo]
theorem markTo_zero (k : Int) (es : List Ent) : markTo k es 0 = es := by
  apply List.ext_getElem
  · simp [markTo]
  · intro j h1 h2
    rw [markTo_get h2]; simp
theorem markTo_step {k : Int} {es : List Ent} {i : Nat} (h : i < es.length) (h' : i < (markTo k es i).length) :
    markTo k es (i + 1) = ((markTo k es i).set i { (markTo k es i)[i] with r := marks (kAt k es i) es[i].r.length }).set i { es[i] with r := marks (kAt k es i) es[i].r.length, n := kAt k es i + (es[i].r.length : Int) } := by
  apply List.ext_getElem
  · simp [markTo]
  · intro j h1 h2
    have hj : j < es.length := by simpa [markTo] using h1
    rw [markTo_get hj, List.getElem_set]
    by_cases e : i = j
    · subst e; simp
    · rw [if_neg e, List.getElem_set, if_neg e, markTo_get hj (by simpa [markTo] using hj)]
      by_cases hlt : j < i
      · rw [if_pos (by omega), if_pos hlt]
      · rw [if_neg (by omega), if_neg hlt]

theorem entCells_setR : ∀ (es : List Ent) (i : Nat) (h : i < es.length) (r : List Int), r.length = es[i].r.length → entCells (es.set i { es[i] with r := r }) = entCells es
  | e :: es, 0, _, r, hr => by
    have hr' : r.length = e.r.length := hr
    simp [entCells, Ent.cells, hr']
  | e :: es, i + 1, h, r, hr => by
    have := entCells_setR es i (by simpa using h) r (by simpa using hr)
    simpa [entCells] using this
/-- A row of it written anew. -/
theorem OBag.setR {w w' : World} {lo : Nat} {v : Value} {es : List Ent} (h : OBag w lo v es) {i : Nat} (hi : i < es.length) (r : List Int) (hr : r.length = es[i].r.length) (hR : Row w' 2 es[i].A r es[i].g) (hg : 0 < es[i].r.length → w.grownBy w' (some es[i].g)) (hg0 : es[i].r.length = 0 → Below w.heap.size w w') : OBag w' lo v (es.set i { es[i] with r := r }) := by
  have hkeep : ∀ b, b < w.heap.size → (0 < es[i].r.length → b ≠ es[i].g) → w'.heap[b]? = w.heap[b]? := by
    intro b hb hne
    rcases Nat.eq_zero_or_pos es[i].r.length with h0 | h0
    · exact (hg0 h0).block b hb
    · exact (hg h0).block b hb (fun e => hne h0 (Option.some.inj e))
  obtain ⟨hRi, hni⟩ := h.2.1 es[i] (List.getElem_mem hi)
  have hpw := List.pairwise_iff_getElem.1 h.2.2
  refine ⟨?_, fun e he => ?_, ?_⟩
  · rw [entCells_setR es i hi r hr, List.length_set]
    refine own_keepB h.1 fun g hgv => hkeep g (h.1.lt g hgv).2 fun h0 e => ?_
    subst e
    exact (hni h0).2 hgv.symm
  · obtain ⟨j, hj, rfl⟩ := List.getElem_of_mem he
    have hj' : j < es.length := by simpa using hj
    rw [List.getElem_set]
    by_cases e : i = j
    · subst e
      rw [if_pos rfl]
      exact ⟨hR, fun hn => hni (by rw [← hr]; exact hn)⟩
    · rw [if_neg e]
      obtain ⟨h1, h2⟩ := h.2.1 es[j] (List.getElem_mem hj')
      refine ⟨h1.keepB fun hn => hkeep _ (h1.lt hn) fun h0 => ?_, h2⟩
      rcases Nat.lt_or_ge i j with hij | hij
      · exact (hpw i j hi hj' hij h0 hn).symm
      · exact hpw j i hj' hi (by omega) hn h0
  · rw [List.pairwise_iff_getElem]
    intro a b ha hb hab
    have key : ∀ j (hj : j < es.length) (hj' : j < (es.set i { es[i] with r := r }).length), (es.set i { es[i] with r := r })[j].r.length = es[j].r.length ∧ (es.set i { es[i] with r := r })[j].g = es[j].g := by
      intro j hj hj'
      rw [List.getElem_set]
      split
      · rename_i e; subst e; exact ⟨hr, rfl⟩
      · exact ⟨rfl, rfl⟩
    have ha' : a < es.length := by simpa using ha
    have hb' : b < es.length := by simpa using hb
    rw [(key a ha' _).1, (key a ha' _).2, (key b hb' _).1, (key b hb' _).2]
    exact hpw a b ha' hb' hab
/-- The cells of a count of it. -/
theorem OBag.cellsAt {w : World} {lo g n c : Nat} {es : List Ent} (h : OBag w lo (.slice (some ⟨g, 0, none⟩) n c) es) {i : Nat} (hi : i < es.length) :
    w.cell? ⟨g, i * 2, none⟩ = some (.slice es[i].A es[i].r.length es[i].c) ∧ w.cell? ⟨g, i * 2 + 1, none⟩ = some (.int .i64 es[i].n) ∧ w.frozen? ⟨g, i * 2 + 1, none⟩ = false := by
  have e := h.len
  subst e
  have hOB : OB w lo g c es := h
  obtain ⟨cur, hB, hc⟩ := hOB.blk
  exact ⟨by rw [hB.cell, hc _ (by omega), entCells_get0 es i hi], by rw [hB.cell, hc _ (by omega), entCells_get1 es i hi], hB.frozen _⟩
end Go.Proofs.Ytcfnbpofbcendab

/- Contracts of markCountS and heldCountS: an own bag marked whole, only its own blocks turned; the marks read back. For bags and rows of at most 2^21. -/
namespace Go.Proofs.Ytcfnbpofbcendab
open Go.RowKit

theorem OBag.at0 {w : World} {lo n c : Nat} {A : Option Addr} {es : List Ent} (h : OBag w lo (.slice A n c) es) (hn : 0 < n) : ∃ g, A = some ⟨g, 0, none⟩ := by
  obtain ⟨g, cap, hv, _⟩ := h.1.form (by rw [← h.len]; exact hn)
  exact ⟨g, by injection hv⟩
theorem markTo_gr {k : Int} {es : List Ent} {i j : Nat} (h : j < es.length) (h' : j < (markTo k es i).length) : (markTo k es i)[j].g = es[j].g ∧ (markTo k es i)[j].r.length = es[j].r.length := by
  rw [markTo_get h h']; split <;> simp [marks_length]
/-- One count marked. -/
theorem mark_step {wr w1 : World} {lo hi g n c : Nat} {k : Int} {es : List Ent} {i g' : Nat} (hO : OIn wr lo hi (.slice (some ⟨g, 0, none⟩) n c) (markTo k es i)) (hi' : i < es.length) (hg' : g' = if es[i].r.length = 0 then wr.heap.size else es[i].g)
    (hR : Row w1 2 es[i].A (marks (kAt k es i) es[i].r.length) g') (hg : wr.grownBy w1 (some g')) :
    ∃ u, w1.cell? ⟨g, i * 2 + 1, none⟩ = some u ∧ w1.frozen? ⟨g, i * 2 + 1, none⟩ = false ∧
      OIn (w1.setCell ⟨g, i * 2 + 1, none⟩ (.int .i64 (kAt k es i + (es[i].r.length : Int)))) lo hi (.slice (some ⟨g, 0, none⟩) n c) (markTo k es (i + 1)) ∧
      Within lo hi wr (w1.setCell ⟨g, i * 2 + 1, none⟩ (.int .i64 (kAt k es i + (es[i].r.length : Int)))) := by
  have hil : i < (markTo k es i).length := by rw [markTo_length]; exact hi'
  have hfi : (markTo k es i)[i] = es[i] := by rw [markTo_get hi' hil, if_neg (Nat.lt_irrefl _)]
  obtain ⟨hRi, hni⟩ := hO.1.2.1 (markTo k es i)[i] (List.getElem_mem hil)
  have hini := hO.2.1.2 (markTo k es i)[i] (List.getElem_mem hil)
  rw [hfi] at hRi hni hini
  have hgb : g < hi := hO.2.1.1 g rfl
  have hgl : lo ≤ g := (hO.1.1.lt g rfl).1
  have hO1 : OBag w1 lo (.slice (some ⟨g, 0, none⟩) n c) ((markTo k es i).set i { (markTo k es i)[i] with r := marks (kAt k es i) es[i].r.length }) := by
    refine hO.1.setR hil _ (by rw [marks_length, hfi]) ?_ (fun h0 => ?_) (fun h0 => ?_)
    · rw [hfi]
      intro hn
      rw [marks_length] at hn
      have e : g' = es[i].g := by rw [hg', if_neg (by omega)]
      rw [← e]
      exact hR (by rw [marks_length]; exact hn)
    · rw [hfi] at h0 ⊢
      have e : g' = es[i].g := by rw [hg', if_neg (by omega)]
      rw [← e]; exact hg
    · rw [hfi] at h0
      have e : g' = wr.heap.size := by rw [hg', if_pos h0]
      exact ⟨hg.os, hg.tape, hg.output, hg.size, fun b hb => hg.block b hb (fun e2 => by injection e2 with e2; omega)⟩
  have hW1 : Within lo hi wr w1 := by
    refine Within.of_grown hg ?_
    by_cases h0 : es[i].r.length = 0
    · right; rw [hg', if_pos h0]; exact Nat.le_refl _
    · left
      rw [hg', if_neg h0]
      exact ⟨(hni (by omega)).1, hini (by omega)⟩
  have hil1 : i < ((markTo k es i).set i { (markTo k es i)[i] with r := marks (kAt k es i) es[i].r.length }).length := by rw [List.length_set]; exact hil
  obtain ⟨_, h2, h3⟩ := hO1.cellsAt hil1
  have en := hO1.len
  have hOB : OB w1 lo g c ((markTo k es i).set i { (markTo k es i)[i] with r := marks (kAt k es i) es[i].r.length }) := by
    unfold OB; rw [← en]; exact hO1
  have hS := hOB.setN hil1 (kAt k es i + (es[i].r.length : Int))
  have hfs : ((markTo k es i).set i { (markTo k es i)[i] with r := marks (kAt k es i) es[i].r.length }).set i { ((markTo k es i).set i { (markTo k es i)[i] with r := marks (kAt k es i) es[i].r.length })[i] with n := kAt k es i + (es[i].r.length : Int) } = markTo k es (i + 1) := by
    rw [markTo_step hi' hil]
    congr 1
    rw [List.getElem_set_self, hfi]
  rw [hfs] at hS
  have hW2 := hW1.setCell (p := ⟨g, i * 2 + 1, none⟩) ⟨hgl, hgb⟩ (.int .i64 (kAt k es i + (es[i].r.length : Int)))
  refine ⟨_, h2, h3, ⟨?_, ?_, Nat.le_trans hO.2.2 hW2.size⟩, hW2⟩
  · unfold OB at hS
    rw [markTo_length] at hS
    have : n = es.length := by have := hO.1.len; rw [markTo_length] at this; exact this
    rw [this]; exact hS
  · refine ⟨hO.2.1.1, fun e he hn => ?_⟩
    obtain ⟨j, hj, rfl⟩ := List.getElem_of_mem he
    have hj' : j < es.length := by rw [markTo_length] at hj; exact hj
    have hjl : j < (markTo k es i).length := by rw [markTo_length]; exact hj'
    have key := hO.2.1.2 (markTo k es i)[j] (List.getElem_mem hjl)
    rw [(markTo_gr hj' hjl).1, (markTo_gr hj' hjl).2] at key
    rw [(markTo_gr hj' hj).2] at hn
    rw [(markTo_gr hj' hj).1]
    exact key hn

theorem kAt_fit {k : Int} {es : List Ent} (hk0 : 0 ≤ k) (hk1 : k ≤ 1000) (hm : ∀ e ∈ es, e.r.length ≤ 2097152) (i : Nat) (hi : i ≤ 2097152) : 0 ≤ kAt k es i ∧ kAt k es i ≤ 4398048609256 := by
  have := kAt_bd (k := k) hm i
  have e : (((2097152 : Nat) : Int) + 1) = 2097153 := rfl
  rw [e] at this
  omega

theorem held_rx {k : Int} {es : List Ent} {j : Nat} (h : j < es.length) : rx ((markTo k es es.length).map Ent.pair) j = marks (kAt k es j) es[j].r.length ∧ nx ((markTo k es es.length).map Ent.pair) j = kAt k es j + (es[j].r.length : Int) := by
  have hj : j < (markTo k es es.length).length := by rw [markTo_length]; exact h
  rw [rx_map hj, nx_map hj, markTo_get h hj, if_pos h]
  exact ⟨rfl, rfl⟩
end Go.Proofs.Ytcfnbpofbcendab

/- The laws' sizing of a slice of numbers: what is left, or -1; nothing that lay has turned. -/
namespace Go.Proofs.Ytcfnbpofbcendab
open Go.RowKit

def szI (n : Nat) (left : Int) : Int := if left - (n : Int) < 0 then -1 else left - (n : Int)
theorem szI_le {n : Nat} {left : Int} (h : 0 ≤ szI n left) : (n : Int) ≤ left ∧ szI n left ≤ left := by
  unfold szI at h ⊢
  split at h
  · omega
  · rename_i h2
    rw [if_neg h2]; omega
theorem szI_no {n : Nat} {left : Int} (h : szI n left < 0) : szI n left = -1 := by
  unfold szI at h ⊢
  split at h
  · rename_i h2; rw [if_pos h2]
  · omega

end Go.Proofs.Ytcfnbpofbcendab

/- Contracts of the laws' sizing of bags: if what is left is not below 0, the bag and each of its rows are at most as long as what was there; nothing that lay has turned. -/
namespace Go.Proofs.Ytcfnbpofbcendab
open Go.RowKit

/-- A slice of counts as it came in: rows of whatever length a machine can hold. -/
def RawBag (w : World) (B : Nat) (A : Option Addr) (bag : List (List Int × Int)) : Prop :=
  0 < bag.length → ∃ b off, A = some ⟨b, off, none⟩ ∧ b < B ∧ ∀ j, j < bag.length → ∃ Ar cap, w.cell? ⟨b, off + j * 2, none⟩ = some (.slice Ar (rx bag j).length cap) ∧ w.cell? ⟨b, off + j * 2 + 1, none⟩ = some (.int .i64 (nx bag j)) ∧ Ints w B Ar (rx bag j) ∧ (rx bag j).length ≤ maxLen
theorem RawBag.bag {w : World} {B : Nat} {A : Option Addr} {bag : List (List Int × Int)} (h : RawBag w B A bag) (hl : ∀ j, j < bag.length → (rx bag j).length ≤ 1099511627776) : Bag w B A bag := fun hn => by
  obtain ⟨b, off, e, hb, hc⟩ := h hn
  refine ⟨b, off, e, hb, fun j hj => ?_⟩
  obtain ⟨Ar, cap, h1, h2, h3, _⟩ := hc j hj
  exact ⟨Ar, cap, h1, h2, h3, hl j hj⟩
theorem RawBag.on {w w' : World} {A : Option Addr} {bag : List (List Int × Int)} (h : RawBag w w.heap.size A bag) (hb : Below w.heap.size w w') : RawBag w' w'.heap.size A bag := fun hn => by
  obtain ⟨b, off, e, hlt, hc⟩ := h hn
  refine ⟨b, off, e, Nat.lt_of_lt_of_le hlt hb.size, fun j hj => ?_⟩
  obtain ⟨Ar, cap, h1, h2, h3, h4⟩ := hc j hj
  exact ⟨Ar, cap, (hb.cell hlt).trans h1, (hb.cell hlt).trans h2, h3.on hb, h4⟩

end Go.Proofs.Ytcfnbpofbcendab

/- A slice of counts that came in reads as a bag. -/
namespace Go.Proofs.Ytcfnbpofbcendab
open Go.ChangeShapes Go.WideShapes Go.ChangeAt Go.RowKit Go.Deep

theorem add_plain (b off k : Nat) : Addr.add ⟨b, off, none⟩ k = ⟨b, off + k, none⟩ := by unfold Addr.add; split <;> simp_all
end Go.Proofs.Ytcfnbpofbcendab

/- Slices of rows: words. -/
namespace Go.Proofs.Ytcfnbpofbcendab
open Go.RowKit

def rr (rows : List (List Int)) (j : Nat) : List Int := rows[j]?.getD []
theorem rr_eq {rows : List (List Int)} {j : Nat} (h : j < rows.length) : rr rows j = rows[j] := by simp [rr, h]
/-- A slice of rows reads as the list: its cells and its rows lie below B. -/
def Rws (w : World) (B : Nat) (A : Option Addr) (rows : List (List Int)) : Prop :=
  0 < rows.length → ∃ b off, A = some ⟨b, off, none⟩ ∧ b < B ∧ ∀ j, j < rows.length → ∃ Ar cap, w.cell? ⟨b, off + j, none⟩ = some (.slice Ar (rr rows j).length cap) ∧ Ints w B Ar (rr rows j) ∧ (rr rows j).length ≤ 1099511627776
def RawRows (w : World) (B : Nat) (A : Option Addr) (rows : List (List Int)) : Prop :=
  0 < rows.length → ∃ b off, A = some ⟨b, off, none⟩ ∧ b < B ∧ ∀ j, j < rows.length → ∃ Ar cap, w.cell? ⟨b, off + j, none⟩ = some (.slice Ar (rr rows j).length cap) ∧ Ints w B Ar (rr rows j) ∧ (rr rows j).length ≤ maxLen
theorem Rws.on {w w' : World} {A : Option Addr} {rows : List (List Int)} (h : Rws w w.heap.size A rows) (hb : Below w.heap.size w w') : Rws w' w'.heap.size A rows := fun hn => by
  obtain ⟨b, off, e, hlt, hc⟩ := h hn
  refine ⟨b, off, e, Nat.lt_of_lt_of_le hlt hb.size, fun j hj => ?_⟩
  obtain ⟨Ar, cap, h1, h2, h3⟩ := hc j hj
  exact ⟨Ar, cap, (hb.cell hlt).trans h1, h2.on hb, h3⟩
theorem RawRows.on {w w' : World} {A : Option Addr} {rows : List (List Int)} (h : RawRows w w.heap.size A rows) (hb : Below w.heap.size w w') : RawRows w' w'.heap.size A rows := fun hn => by
  obtain ⟨b, off, e, hlt, hc⟩ := h hn
  refine ⟨b, off, e, Nat.lt_of_lt_of_le hlt hb.size, fun j hj => ?_⟩
  obtain ⟨Ar, cap, h1, h2, h3⟩ := hc j hj
  exact ⟨Ar, cap, (hb.cell hlt).trans h1, h2.on hb, h3⟩
theorem RawRows.rws {w : World} {B : Nat} {A : Option Addr} {rows : List (List Int)} (h : RawRows w B A rows) (hl : ∀ j, j < rows.length → (rr rows j).length ≤ 1099511627776) : Rws w B A rows := fun hn => by
  obtain ⟨b, off, e, hlt, hc⟩ := h hn
  refine ⟨b, off, e, hlt, fun j hj => ?_⟩
  obtain ⟨Ar, cap, h1, h2, _⟩ := hc j hj
  exact ⟨Ar, cap, h1, h2, hl j hj⟩
end Go.Proofs.Ytcfnbpofbcendab

/- Slices of rows: words; contracts of the laws' toInt64SS, szInt64SS, eqInt64SS, markInt64SS; a slice of rows that came in. For slices and rows of at most 2^40 (marks: 2^21). -/
namespace Go.Proofs.Ytcfnbpofbcendab
open Go.ChangeShapes Go.WideShapes Go.ChangeAt Go.RowKit Go.Deep

theorem info_row : (Try.prog.info? 25).map (fun i => (i.zero, i.size, i.bytes)) = some (some (.slice none 0 0), 1, 24) := by kernel_rfl
/-- Rows copied so far: block G holds their slices, each row begins a block of its own behind it. -/
def RCop (G : Nat) (gs : Nat → Nat) (rows : List (List Int)) (k : Nat) (w : World) : Prop :=
  ∃ cells : Array Value, Blk w G 25 cells ∧ cells.size = rows.length ∧
    (∀ j, j < k → cells[j]? = some (.slice (some ⟨gs j, 0, none⟩) (rr rows j).length (rr rows j).length) ∧ Blk w (gs j) 2 (i64s (rr rows j)) ∧ G < gs j) ∧
    ∀ i j, i < j → j < k → gs i ≠ gs j
theorem RCop.rws {G : Nat} {gs : Nat → Nat} {rows : List (List Int)} {w : World} (h : RCop G gs rows rows.length w) (hl : ∀ j, j < rows.length → (rr rows j).length ≤ 1099511627776) : Rws w w.heap.size (some ⟨G, 0, none⟩) rows := fun hn => by
  obtain ⟨cells, hB, _, hc, _⟩ := h
  refine ⟨G, 0, rfl, hB.lt, fun j hj => ?_⟩
  obtain ⟨h1, h2, _⟩ := hc j hj
  exact ⟨_, _, by rw [Nat.zero_add, hB.cell j]; exact h1, h2.ints, hl j hj⟩
theorem RCop.keep {G lo hi : Nat} {gs : Nat → Nat} {rows : List (List Int)} {w w' : World} (h : RCop G gs rows rows.length w) (hG : lo ≤ G ∧ G < hi) (hgs : ∀ j, j < rows.length → gs j < hi) (hk : ∀ b, lo ≤ b → b < hi → w'.heap[b]? = w.heap[b]?) : RCop G gs rows rows.length w' := by
  obtain ⟨cells, hB, h1, hc, h2⟩ := h
  refine ⟨cells, (hk G hG.1 hG.2).trans hB, h1, fun j hj => ?_, h2⟩
  obtain ⟨c1, c2, c3⟩ := hc j hj
  exact ⟨c1, (hk _ (by omega) (hgs j hj)).trans c2, c3⟩
end Go.Proofs.Ytcfnbpofbcendab
