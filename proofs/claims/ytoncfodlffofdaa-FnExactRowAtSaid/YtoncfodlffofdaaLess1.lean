/- Contracts of RowLess, the model's and the program's, and of the iterator sideBySide: what each returns; nothing that lay in memory has turned. For slices of at most 2^40 numbers. -/
import Derived.Test.YtoncfodlffofdaaIter1
import Derived.Test.YtoncfodlffofdaaTail
namespace Go.Proofs.Ytoncfodlffofdaa
open Go.RowKit Go.Shelf
attribute [local go_sem] Oper.semAt_some

def lessB : List Int → List Int → Bool
  | _, [] => false
  | [], _ :: _ => true
  | x :: xs, y :: ys => if x = y then lessB xs ys else decide (x < y)

theorem drop_ix (zs : List Int) (k : Nat) (h : k < zs.length) : zs.drop k = ix zs k :: zs.drop (k + 1) := by
  rw [ix_eq zs k h]; exact List.drop_eq_getElem_cons h
theorem less_same {zs ys : List Int} {k : Nat} (h : k < zs.length) (h' : k < ys.length) (e : ix zs k = ix ys k) : lessB (zs.drop k) (ys.drop k) = lessB (zs.drop (k + 1)) (ys.drop (k + 1)) := by
  rw [drop_ix zs k h, drop_ix ys k h', lessB, if_pos e]
theorem less_diff {zs ys : List Int} {k : Nat} (h : k < zs.length) (h' : k < ys.length) (e : ¬ ix zs k = ix ys k) : lessB (zs.drop k) (ys.drop k) = decide (ix zs k < ix ys k) := by
  rw [drop_ix zs k h, drop_ix ys k h', lessB, if_neg e]
theorem less_end {zs ys : List Int} {k : Nat} (hk : k ≤ zs.length) (hk' : k ≤ ys.length) (h : ¬ (k < zs.length ∧ k < ys.length)) : lessB (zs.drop k) (ys.drop k) = decide (zs.length < ys.length) := by
  by_cases h1 : k < ys.length
  · have hz : zs.drop k = [] := List.drop_of_length_le (by omega)
    rw [hz, drop_ix ys k h1, lessB, decide_eq_true (by omega)]
  · have hz : ys.drop k = [] := List.drop_of_length_le (by omega)
    rw [hz, decide_eq_false (by omega)]
    cases zs.drop k <;> rfl

set_option maxHeartbeats 1000000 in
theorem specRowLess_any (A A' : Option Addr) (c c' : Nat) (zs ys : List Int) (w : World) (B B' : Nat) (hI : Ints w B A zs) (hI' : Ints w B' A' ys) (hl : zs.length ≤ 1099511627776) (hl' : ys.length ≤ 1099511627776) :
    Calls Try.prog 47 #[.slice A zs.length c, .slice A' ys.length c'] w fun e w' => e = .returned (.bool (lessB zs ys)) ∧ ∃ n, w' = w.drewN n := by
  go_enter Try.func47, Try.ntmps47
  go_wp2
  go_loopw [5] (fun i wr => ∃ k : Nat, k ≤ zs.length ∧ k ≤ ys.length ∧ i = .int .i64 k ∧ lessB zs ys = lessB (zs.drop k) (ys.drop k) ∧ ∃ n, wr = w.drewN n) (fun i _ => zs.length - (intOf i).toNat)
  case atStart => exact ⟨0, Nat.zero_le _, Nat.zero_le _, rfl, by simp, 0, rfl⟩
  case round =>
    obtain ⟨k, hk, hk', rfl, ht, n, rfl⟩ := hrel
    have HT := Lib.hid ht
    clear ht
    by_cases hlt : k < zs.length
    · by_cases hlt' : k < ys.length
      · obtain ⟨b, off, rfl, _, hc⟩ := hI (by omega)
        obtain ⟨b', off', rfl, _, hc'⟩ := hI' (by omega)
        have hck := hc k hlt
        have hck' := hc' k hlt'
        clear hc hc'
        by_cases he : ix zs k = ix ys k
        · have hbe : (ix zs k != ix ys k) = false := by simp [he]
          have HE := Lib.hid he
          clear he
          go_wp2
          go_quiet (fail)
          go_wp2
          go_roundw
          case rel => exact ⟨k + 1, by omega, by omega, by go_num, by rw [HT.out, less_same hlt hlt' HE.out], n + nq, by first | rfl | rw [World.drewN_drewN]⟩
          case measure => simp [intOf]; omega
        · have hbe : (ix zs k != ix ys k) = true := by simp [he]
          have HE := Lib.hid he
          clear he
          go_wp2
          go_quiet (fail)
          go_wp2
          go_quiet (fail)
          go_wp2
          go_ret
          exact ⟨ret_bool (by rw [HT.out, less_diff hlt hlt' HE.out]), by simp only [World.drewN_drewN]; exact ⟨_, rfl⟩⟩
      · have hd : decide (k < ys.length) = false := by simpa using hlt'
        go_wp2
        go_ret
        exact ⟨ret_bool (by rw [HT.out, less_end hk hk' (by omega)]), _, rfl⟩
    · have hd : decide (k < zs.length) = false := by simpa using hlt
      go_wp2
      go_ret
      exact ⟨ret_bool (by rw [HT.out, less_end hk hk' (by omega)]), _, rfl⟩

/-- What has come when k rounds are over: pairs. -/
def pairs (zs ys : List Int) (k : Nat) : List (Int × Int) := (List.range k).map fun j => (ix zs j, ix ys j)
theorem pairs_succ (zs ys : List Int) (k : Nat) : pairs zs ys (k + 1) = pairs zs ys k ++ [(ix zs k, ix ys k)] := by simp [pairs, List.range_succ]
theorem pairs_length (zs ys : List Int) (k : Nat) : (pairs zs ys k).length = k := by simp [pairs]

theorem grown_drew (w : World) (row : Option Nat) : w.grownBy w.drew row := ⟨rfl, rfl, rfl, Nat.le_refl _, fun _ _ _ => rfl⟩

theorem mixed : Try.prog.follows .mixedOrders = true := by kernel_rfl

set_option maxRecDepth 100000 in
set_option maxHeartbeats 4000000 in
theorem side1_in (n : Nat) (hn : 1 ≤ n) (l Bs Bt n₀ : Nat) (A A' : Option Addr) (cap cap' : Nat) (zs ys : List Int) (hl : zs.length ≤ 1099511627776) (hl' : ys.length ≤ 1099511627776) (J Jx : List (Int × Int) → World → Prop)
    (hBsl : Bs < n₀) (hBtl : Bt < n₀)
    (W : World) (hJ : AbidesFrom W.heap.size J)
    (hY : ∀ pre x W, J pre W → pre.length < min zs.length ys.length → YieldAt Fence.wide (n - 1) Try.prog l #[.int .i64 x.1, .int .i64 x.2] W fun e W' =>
      (e = .returned (.bool true) ∧ J (pre ++ [x]) W' ∧ Below n₀ W W') ∨ (e = .returned (.bool false) ∧ Jx (pre ++ [x]) W'))
    (hBs : W.cell? ⟨Bs, 0, none⟩ = some (.slice A zs.length cap)) (hBt : W.cell? ⟨Bt, 0, none⟩ = some (.slice A' ys.length cap')) (hI : Ints W n₀ A zs) (hI' : Ints W n₀ A' ys) (h0 : J [] W) :
    CallsIn Fence.wide n Try.prog 151 #[.func (.yield l) #[] #[], .pointer (some ⟨Bs, 0, none⟩), .pointer (some ⟨Bt, 0, none⟩)] W fun e W' => (∃ v, e = .returned v) ∧
      ((∃ xs, xs = pairs zs ys (min zs.length ys.length) ∧ J xs W') ∨ (∃ pre, (∃ k, k ≤ min zs.length ys.length ∧ pre = pairs zs ys k) ∧ Jx pre W')) := by
  refine callsIn_of_wp Try.func151 rfl trivial ?_ rfl
  simp only [Try.ntmps151, List.size_toArray, List.length_cons, List.length_nil, Nat.reduceAdd, Nat.reduceSub, Array.replicate_succ, Array.replicate_zero, List.push_toArray, List.append_toArray, List.nil_append, List.cons_append]
  by_cases hmin : ys.length < zs.length
  · gi_wp2
    gi_loopw [10] (fun i wr => ∃ k : Nat, k ≤ ys.length ∧ i = .int .i64 k ∧ J (pairs zs ys k) wr ∧ Below n₀ W wr)
      (fun i _ => ys.length - (intOf i).toNat)
    case atStart => exact ⟨0, Nat.zero_le _, rfl, h0, Below.refl _ _⟩
    case round =>
      obtain ⟨k, hk, rfl, hJs, hnx⟩ := hrel
      by_cases hlt : k < ys.length
      · have hlz : k < zs.length := by omega
        have hly : k < ys.length := by omega
        obtain ⟨b, off, rfl, hb, hc⟩ := hI (by omega)
        obtain ⟨b', off', rfl, hb', hc'⟩ := hI' (by omega)
        have hJd := hJ _ _ _ none hJs (grown_drew wr none) (fun r e => by cases e)
        obtain ⟨fn, tmps, assign, body, hy, hR⟩ := hY _ (ix zs k, ix ys k) wr.drew hJd (by rw [pairs_length]; omega)
        dsimp only at hy
        have hcx : wr.cell? ⟨b, off + k, none⟩ = some (.int .i64 (ix zs k)) := (hnx.cell (p := ⟨b, off + k, none⟩) hb).trans (hc k hlz)
        have hcy : wr.cell? ⟨b', off' + k, none⟩ = some (.int .i64 (ix ys k)) := (hnx.cell (p := ⟨b', off' + k, none⟩) hb').trans (hc' k hly)
        have hbs : wr.cell? ⟨Bs, 0, none⟩ = _ := (hnx.cell (p := ⟨Bs, 0, none⟩) hBsl).trans hBs
        have hbt : wr.cell? ⟨Bt, 0, none⟩ = _ := (hnx.cell (p := ⟨Bt, 0, none⟩) hBtl).trans hBt
        clear hc hc' hBs hBt
        gi_wp2
        refine wide_region_tail 9 mixed (by kernel_rfl) ?_
        simp only [List.take_succ_cons, List.take_zero, List.drop_succ_cons, List.drop_zero]
        repeat still_step
        refine wpStill_nil ?_
        change wpListIn _ _ _ _ _ _ _ wr.drew
        gi_wp2
        refine hR.mono ?_
        rintro e W3 (⟨rfl, hJ3, hk3⟩ | ⟨rfl, hJx3⟩)
        · gi_wp2
          go_roundw
          case rel => exact ⟨k + 1, by omega, by simp, by rw [pairs_succ]; exact hJ3, hnx.drew.trans hk3⟩
          case measure => simp [intOf]; omega
        · gi_wp2
          refine bodyPost_ret (results_none rfl _ _ _) rfl ?_
          exact ⟨⟨_, rfl⟩, .inr ⟨_, ⟨k + 1, by omega, (pairs_succ zs ys k).symm⟩, hJx3⟩⟩
      · gi_wp2
        go_end0
        obtain rfl : k = min zs.length ys.length := by omega
        exact ⟨⟨_, rfl⟩, .inl ⟨_, rfl, hJs⟩⟩
  · gi_wp2
    gi_loopw [10] (fun i wr => ∃ k : Nat, k ≤ zs.length ∧ i = .int .i64 k ∧ J (pairs zs ys k) wr ∧ Below n₀ W wr)
      (fun i _ => zs.length - (intOf i).toNat)
    case atStart => exact ⟨0, Nat.zero_le _, rfl, h0, Below.refl _ _⟩
    case round =>
      obtain ⟨k, hk, rfl, hJs, hnx⟩ := hrel
      by_cases hlt : k < zs.length
      · have hlz : k < zs.length := by omega
        have hly : k < ys.length := by omega
        obtain ⟨b, off, rfl, hb, hc⟩ := hI (by omega)
        obtain ⟨b', off', rfl, hb', hc'⟩ := hI' (by omega)
        have hJd := hJ _ _ _ none hJs (grown_drew wr none) (fun r e => by cases e)
        obtain ⟨fn, tmps, assign, body, hy, hR⟩ := hY _ (ix zs k, ix ys k) wr.drew hJd (by rw [pairs_length]; omega)
        dsimp only at hy
        have hcx : wr.cell? ⟨b, off + k, none⟩ = some (.int .i64 (ix zs k)) := (hnx.cell (p := ⟨b, off + k, none⟩) hb).trans (hc k hlz)
        have hcy : wr.cell? ⟨b', off' + k, none⟩ = some (.int .i64 (ix ys k)) := (hnx.cell (p := ⟨b', off' + k, none⟩) hb').trans (hc' k hly)
        have hbs : wr.cell? ⟨Bs, 0, none⟩ = _ := (hnx.cell (p := ⟨Bs, 0, none⟩) hBsl).trans hBs
        have hbt : wr.cell? ⟨Bt, 0, none⟩ = _ := (hnx.cell (p := ⟨Bt, 0, none⟩) hBtl).trans hBt
        clear hc hc' hBs hBt
        gi_wp2
        refine wide_region_tail 9 mixed (by kernel_rfl) ?_
        simp only [List.take_succ_cons, List.take_zero, List.drop_succ_cons, List.drop_zero]
        repeat still_step
        refine wpStill_nil ?_
        change wpListIn _ _ _ _ _ _ _ wr.drew
        gi_wp2
        refine hR.mono ?_
        rintro e W3 (⟨rfl, hJ3, hk3⟩ | ⟨rfl, hJx3⟩)
        · gi_wp2
          go_roundw
          case rel => exact ⟨k + 1, by omega, by simp, by rw [pairs_succ]; exact hJ3, hnx.drew.trans hk3⟩
          case measure => simp [intOf]; omega
        · gi_wp2
          refine bodyPost_ret (results_none rfl _ _ _) rfl ?_
          exact ⟨⟨_, rfl⟩, .inr ⟨_, ⟨k + 1, by omega, (pairs_succ zs ys k).symm⟩, hJx3⟩⟩
      · gi_wp2
        go_end0
        obtain rfl : k = min zs.length ys.length := by omega
        exact ⟨⟨_, rfl⟩, .inl ⟨_, rfl, hJs⟩⟩

set_option maxHeartbeats 1000000 in
theorem side_in (F : Fence) (n : Nat) (h5 : F.fn 133) (hro : F.round = none) (a a' : Option Addr) (len cap len' cap' : Nat) (w : World) :
    CallsIn F n Try.prog 133 #[.slice a len cap, .slice a' len' cap'] w fun e w' => e = .returned (.func (.func 151) #[] #[.pointer (some ⟨w.heap.size, 0, none⟩), .pointer (some ⟨w.heap.size + 1, 0, none⟩)]) ∧
      w' = (w.alloc (.cells #[.slice a len cap] 25)).alloc (.cells #[.slice a' len' cap'] 25) := by
  refine callsIn_of_wp Try.func133 rfl h5 ?_ hro
  simp only [Try.ntmps133, List.size_toArray, List.length_cons, List.length_nil, Nat.reduceAdd, Nat.reduceSub, Array.replicate_succ, Array.replicate_zero, List.push_toArray, List.append_toArray, List.nil_append, List.cons_append]
  gi_wp2
  go_ret
  exact ⟨rfl, rfl⟩

theorem side_stops (n : Nat) (hn : 1 ≤ n) (Bs Bt n₀ : Nat) (A A' : Option Addr) (cap cap' : Nat) (zs ys : List Int) (hl : zs.length ≤ 1099511627776) (hl' : ys.length ≤ 1099511627776) (w : World) (hn₀ : n₀ ≤ w.heap.size) (hBs : Bs < n₀) (hBt : Bt < n₀)
    (hc : w.cell? ⟨Bs, 0, none⟩ = some (.slice A zs.length cap)) (hc' : w.cell? ⟨Bt, 0, none⟩ = some (.slice A' ys.length cap')) (hI : Ints w n₀ A zs) (hI' : Ints w n₀ A' ys) :
    SeqStopsK Fence.wide n Try.prog 151 #[.pointer (some ⟨Bs, 0, none⟩), .pointer (some ⟨Bt, 0, none⟩)] (fun x : Int × Int => #[Value.int .i64 x.1, Value.int .i64 x.2]) (Below n₀) (fun xs => xs = pairs zs ys (min zs.length ys.length)) (fun pre => ∃ k, k ≤ min zs.length ys.length ∧ pre = pairs zs ys k) (min zs.length ys.length) w := fun l J Jx W hW hJ _ hY h0 =>
  side1_in n hn l Bs Bt n₀ A A' cap cap' zs ys hl hl' J Jx hBs hBt W hJ hY ((hW.cell (p := ⟨Bs, 0, none⟩) (Nat.lt_of_lt_of_le hBs hn₀)).trans hc) ((hW.cell (p := ⟨Bt, 0, none⟩) (Nat.lt_of_lt_of_le hBt hn₀)).trans hc') (hI.below (hW.mono hn₀)) (hI'.below (hW.mono hn₀)) h0

theorem pairs_all_eq {zs ys : List Int} : ∀ {k : Nat}, k ≤ zs.length → k ≤ ys.length → (∀ p ∈ pairs zs ys k, p.1 = p.2) → lessB zs ys = lessB (zs.drop k) (ys.drop k)
  | 0, _, _, _ => by simp
  | k + 1, h1, h2, h => by
    rw [pairs_succ] at h
    rw [pairs_all_eq (by omega) (by omega) (fun p hp => h p (List.mem_append.2 (.inl hp))), less_same (by omega) (by omega) (h (ix zs k, ix ys k) (List.mem_append.2 (.inr (by simp))))]

set_option maxRecDepth 100000 in
set_option maxHeartbeats 2000000 in
theorem implRowLess_any (A A' : Option Addr) (cap cap' : Nat) (zs ys : List Int) (hl : zs.length ≤ 1099511627776) (hl' : ys.length ≤ 1099511627776) (w : World) (hI : Ints w w.heap.size A zs) (hI' : Ints w w.heap.size A' ys) :
    Calls Try.prog 69 #[.slice A zs.length cap, .slice A' ys.length cap'] w fun e W' => e = .returned (.bool (lessB zs ys)) ∧ Below w.heap.size w W' := by
  refine (callsIn_wide (n := 3)).1 ?_
  refine callsIn_of_wp_marks Try.func69 rfl trivial ?_ rfl
  simp only [Try.ntmps69, List.size_toArray, List.length_cons, List.length_nil, Nat.reduceAdd, Nat.reduceSub, Array.replicate_succ, Array.replicate_zero, List.push_toArray, List.append_toArray, List.nil_append, List.cons_append]
  gi_wp2_with (refine ⟨trivial, ?_⟩; gi_at_call 133; refine (side_in Fence.wide 2 trivial rfl _ _ _ _ _ _ _).mono ?_; rintro e w' ⟨rfl, rfl⟩)
  have bR := Boxed.new w 4 (.bool false)
  have bN := Boxed.new (w.alloc (.cells #[.bool false] 4)) 25 (.slice A zs.length cap)
  have bM := Boxed.new ((w.alloc (.cells #[.bool false] 4)).alloc (.cells #[.slice A zs.length cap] 25)) 25 (.slice A' ys.length cap')
  simp only [World.size_alloc] at bN bM
  have hB0 : Below w.heap.size w (((w.alloc (.cells #[.bool false] 4)).alloc (.cells #[.slice A zs.length cap] 25)).alloc (.cells #[.slice A' ys.length cap'] 25)) := (((Below.refl _ w).alloc (Nat.le_refl _) _).alloc (by simp) _).alloc (by simp; omega) _
  refine wpIn_rangeFunc_ownG (F := Fence.wide) (n := 3) rfl (by omega) (gf := 151) (lb := #[.pointer (some ⟨w.heap.size + 1, 0, none⟩), .pointer (some ⟨w.heap.size + 1 + 1, 0, none⟩)]) rfl trivial (enters_of Try.func151 (by kernel_rfl) rfl)
    (side_stops (3 - 1) (by omega) (w.heap.size + 1) (w.heap.size + 1 + 1) (w.heap.size + 3) A A' cap cap' zs ys hl hl' _ (by simp) (by omega) (by omega) (bN.alloc _).cell bM.cell ((hI.below hB0).more (by omega)) ((hI'.below hB0).more (by omega))) belowK_t (belowK_b (by simp)) (Below.refl _ _) (fun _ => rfl)
    (fun pre W => ((∀ p ∈ pre, p.1 = p.2) ∧ W.cell? ⟨w.heap.size, 0, none⟩ = some (.bool false) ∧ W.frozen? ⟨w.heap.size, 0, none⟩ = false) ∧ Below w.heap.size w W)
    (fun c pre W => (c = .ret ∧ (∃ ini last, pre = ini ++ [last] ∧ (∀ p ∈ ini, p.1 = p.2) ∧ ¬ last.1 = last.2 ∧ W.cell? ⟨w.heap.size, 0, none⟩ = some (.bool (decide (last.1 < last.2))))) ∧ Below w.heap.size w W)
    (OwnFrom.and (Own.from (fun s A B row hs hg hr => ⟨hs.1, cell_kept hs.2.1 hg hr, (frozen_kept hs.2.1 hg hr).trans hs.2.2⟩) _) (ownFrom_below (Nat.le_refl _) (by simp; omega)))
    (fun c => OwnFrom.and (Own.from (fun s A B row hs hg hr => by obtain ⟨hc, ini, last, e1, e2, e3, e4⟩ := hs; exact ⟨hc, ini, last, e1, e2, e3, cell_kept e4 hg hr⟩) _) (ownFrom_below (Nat.le_refl _) (by simp; omega)))
    ⟨⟨by simp, ((bR.alloc _).alloc _).cell, ((bR.alloc _).alloc _).frozen⟩, hB0⟩
    (fun x => { tmps := #[.slice A zs.length cap, .slice A' ys.length cap', undef, undef, .pointer (some ⟨w.heap.size, 0, none⟩), .int .i64 x.1, .int .i64 x.2, .slice A zs.length cap, .slice A' ys.length cap', .func (.func 151) #[] #[.pointer (some ⟨w.heap.size + 1, 0, none⟩), .pointer (some ⟨w.heap.size + 1 + 1, 0, none⟩)], .int .i64 x.1, .int .i64 x.2, undef, undef, undef, undef, undef, undef, undef, undef, undef, undef, undef], defers := [] }) ?assign ?body ?done ?stop
  case assign =>
    intro l x W K hK
    gi_wp2
    exact hK
  case body =>
    rintro l pre x W ⟨⟨hp, hcr, hfr⟩, hB⟩ _
    have HP := Lib.hid hp
    clear hp
    by_cases he : x.1 = x.2
    · have hbe : (x.1 != x.2) = false := by simp [he]
      have HE := Lib.hid he
      clear he
      gi_wp2
      exact ⟨KeepsFrom.refl _ _, Below.refl _ _, ⟨fun y hy => (List.mem_append.1 hy).elim (HP.out y) (fun e => by simp at e; subst e; exact HE.out), hcr, hfr⟩, hB⟩
    · have hbe : (x.1 != x.2) = true := by simp [he]
      have HE := Lib.hid he
      clear he
      gi_wp2
      exact ⟨(KeepsOthers.setCell _ _ _).from _, ⟨rfl, pre, x, rfl, HP.out, HE.out, World.cell?_setCell_same' _ _ _ (by rw [hcr]; rfl)⟩, hB.setCell (p := ⟨w.heap.size, 0, none⟩) (Nat.le_refl _) _⟩
  case done =>
    rintro D ys' W hD rfl ⟨⟨hne, hcr, hfr⟩, hB⟩ hK
    have hR : lessB zs ys = decide (zs.length < ys.length) := by rw [pairs_all_eq (Nat.min_le_left _ _) (Nat.min_le_right _ _) hne, less_end (Nat.min_le_left _ _) (Nat.min_le_right _ _) (by omega)]
    have HR := Lib.hid hR
    clear hne hR
    gi_wp2
    have hK' := (KeepsOthers.setCell W ⟨w.heap.size, 0, none⟩ (.bool (decide (zs.length < ys.length)))).same D _ hK rfl
    refine ⟨by simp, .inl ⟨_, _, rfl, run_takeDeferred hK', ?_⟩⟩
    have hc5 := cell_kept (World.cell?_setCell_same' W ⟨w.heap.size, 0, none⟩ (.bool (decide (zs.length < ys.length))) (by rw [hcr]; rfl)) (grownBy_putObj' _ D (.deferred none)) (fun r e => by cases e; exact ⟨_, hK', rfl⟩)
    refine ⟨.bool (decide (zs.length < ys.length)), ?_, by rw [HR.out], (hB.setCell (p := ⟨w.heap.size, 0, none⟩) (Nat.le_refl _) _).trans (belowK_b (w := w) (Nat.le_refl _) _ D _ _ (by simp at hD; omega) hK' rfl rfl)⟩
    simp [results, Try.f69, go_sem, hc5]
  case stop =>
    rintro D c pre W hD ⟨k, hk, rfl⟩ ⟨⟨rfl, ini, last, e1, e2, e3, hcr⟩, hB⟩ hK
    have hR : lessB zs ys = decide (last.1 < last.2) := by
      obtain ⟨k', rfl⟩ : ∃ k', k = k' + 1 := by
        cases k with
        | zero => simp [pairs] at e1
        | succ k' => exact ⟨k', rfl⟩
      rw [pairs_succ] at e1
      obtain ⟨rfl, e5⟩ := List.append_inj' e1 rfl
      obtain rfl : (ix zs k', ix ys k') = last := by simpa using e5
      rw [pairs_all_eq (k := k') (by omega) (by omega) e2, less_diff (by omega) (by omega) e3]
    have HR := Lib.hid hR
    clear hR e1 e2 e3
    gi_wp2
    refine ⟨by simp, .inl ⟨_, _, rfl, run_takeDeferred hK, ?_⟩⟩
    have hc5 := cell_kept hcr (grownBy_putObj' _ D (.deferred none)) (fun r e => by cases e; exact ⟨_, hK, rfl⟩)
    refine ⟨.bool (decide (last.1 < last.2)), ?_, by rw [HR.out], hB.trans (belowK_b (w := w) (Nat.le_refl _) W D _ _ (by simp at hD; omega) hK rfl rfl)⟩
    simp [results, Try.f69, go_sem, hc5]
end Go.Proofs.Ytoncfodlffofdaa
