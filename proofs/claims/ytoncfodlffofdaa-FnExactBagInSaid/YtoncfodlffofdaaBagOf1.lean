/- The contract of the model's BagOf: each row once more, one after the other, in an own bag; and plain facts: in whatever order they come the bag is the same. For slices and rows of at most 2^20. -/
import Derived.Test.YtoncfodlffofdaaRowsRws
import Derived.Test.YtoncfodlffofdaaBag7
import Derived.Test.YtoncfodlffofdaaWithThy
namespace Go.Proofs.Ytoncfodlffofdaa
open Go.RowKit

theorem snoc_ind {P : List (List Int) → Prop} (h0 : P []) (h1 : ∀ l x, P l → P (l ++ [x])) (l : List (List Int)) : P l := by
  have key : ∀ m : List (List Int), P m.reverse := by
    intro m
    induction m with
    | nil => exact h0
    | cons x m ih => rw [List.reverse_cons]; exact h1 _ _ ih
  have := key l.reverse
  rwa [List.reverse_reverse] at this
/-- The bag of rows that came one after the other. -/
def bagOfL (rows : List (List Int)) : List (List Int × Int) := rows.foldl (fun b r => withL b r 1) []
theorem bagOf_snoc (rows : List (List Int)) (r : List Int) : bagOfL (rows ++ [r]) = withL (bagOfL rows) r 1 := by simp [bagOfL]
theorem bagOf_take {rows : List (List Int)} {k : Nat} (h : k < rows.length) : bagOfL (rows.take (k + 1)) = withL (bagOfL (rows.take k)) (rr rows k) 1 := by
  rw [List.take_succ_eq_append_getElem h, bagOf_snoc, rr_eq h]
/-- How often a row is in the list. -/
def occ (rows : List (List Int)) (s : List Int) : Int := (rows.count s : Nat)
theorem occ_bd (rows : List (List Int)) (s : List Int) : 0 ≤ occ rows s ∧ occ rows s ≤ rows.length := by
  unfold occ; have := List.count_le_length (a := s) (l := rows); omega
theorem bagOf_facts : ∀ rows : List (List Int), rows.length ≤ 1099511627776 → SB (bagOfL rows) ∧ NZ (bagOfL rows) ∧ ∀ s, timesL (bagOfL rows) s = occ rows s := by
  refine snoc_ind ?_ ?_
  · intro _; exact ⟨List.Pairwise.nil, (fun p hp => by cases hp), fun s => rfl⟩
  · intro rows r ih hl
    rw [List.length_append, List.length_singleton] at hl
    obtain ⟨h1, h2, h3⟩ := ih (by omega)
    have e0 : addW 0 1 = 1 := by rw [addW_small (by omega) (by omega) (by omega) (by omega)]; rfl
    rw [bagOf_snoc, withL_ins]
    refine ⟨ins_sb h1, ins_nz h2, fun s => ?_⟩
    rw [ins_times e0 h1, h3, h3]
    have hb := occ_bd rows r
    unfold occ at *
    rw [List.count_append, List.count_singleton]
    by_cases e : s = r
    · subst e
      rw [if_pos rfl, addW_small (by omega) (by omega) (by omega) (by omega)]
      simp
    · rw [if_neg e]
      have : (r == s) = false := by simpa using Ne.symm e
      rw [this]; simp
theorem bagOf_perm {r1 r2 : List (List Int)} (h : r1.Perm r2) (hl : r1.length ≤ 1099511627776) : bagOfL r1 = bagOfL r2 := by
  obtain ⟨a1, a2, a3⟩ := bagOf_facts r1 hl
  obtain ⟨b1, b2, b3⟩ := bagOf_facts r2 (by rw [← h.length_eq]; exact hl)
  refine canon a1 b1 a2 b2 fun s => ?_
  rw [a3, b3]
  unfold occ
  rw [h.count_eq]
theorem bagOf_length (rows : List (List Int)) : (bagOfL rows).length ≤ rows.length := by
  refine snoc_ind (P := fun rows => (bagOfL rows).length ≤ rows.length) ?_ ?_ rows
  · simp [bagOfL]
  · intro rows r ih
    rw [bagOf_snoc, List.length_append, List.length_singleton]
    have := withL_length (bag := bagOfL rows) (row := r) (n := 1)
    omega
theorem bagOf_rows {rows : List (List Int)} {m : Nat} (h : ∀ r ∈ rows, r.length ≤ m) : ∀ p ∈ bagOfL rows, p.1.length ≤ m := by
  refine snoc_ind (P := fun rows => (∀ r ∈ rows, r.length ≤ m) → ∀ p ∈ bagOfL rows, p.1.length ≤ m) ?_ ?_ rows h
  · intro _ p hp; cases hp
  · intro rows r ih h p hp
    rw [bagOf_snoc, withL_ins] at hp
    rcases ins_mem hp with hp | hp
    · exact ih (fun q hq => h q (List.mem_append.2 (.inl hq))) p hp
    · rw [hp]; exact h r (by simp)

set_option maxRecDepth 100000 in
set_option maxHeartbeats 2000000 in
theorem specBagOf_any (A : Option Addr) (c : Nat) (rows : List (List Int)) (w : World) (hB : Rws w w.heap.size A rows) (hl : rows.length ≤ 274877906944) :
    Calls Try.prog 81 #[.slice A rows.length c] w (OwnBag w.heap.size (bagOfL rows) w) := by
  have hle : ∀ r ∈ rows, r.length ≤ 1099511627776 := by
    intro r hr
    obtain ⟨j, hj, rfl⟩ := List.getElem_of_mem hr
    obtain ⟨_, _, _, _, hc⟩ := hB (by omega)
    obtain ⟨_, _, _, _, h4⟩ := hc j hj
    rwa [rr_eq hj] at h4
  have HLe := Lib.hid hle
  clear hle
  have b1 := (Below.refl w.heap.size w).alloc (Nat.le_refl _) (.cells #[] 34)
  have hE : OB (w.alloc (.cells #[] 34)) w.heap.size w.heap.size 0 [] := OBag.nil (empty_counts w)
  go_enter Try.func81, Try.ntmps81
  go_wp2
  go_loopw [3, 4] (fun v s wr => ∃ (k g cap : Nat) (es : List Ent), k ≤ rows.length ∧ s = .int .i64 k ∧ v = .slice (some ⟨g, 0, none⟩) es.length cap ∧ OB wr w.heap.size g cap es ∧ es.map Ent.pair = bagOfL (rows.take k) ∧ Below w.heap.size w wr) (fun _ s _ => rows.length - (intOf s).toNat)
  case atStart => exact ⟨0, w.heap.size, 0, [], Nat.zero_le _, rfl, rfl, hE, rfl, b1⟩
  case round =>
    obtain ⟨k, g, cap, es, hk, rfl, rfl, hO, he, hW⟩ := hrel
    have HE := Lib.hid he
    have hel : es.length ≤ rows.length := by
      have h1 := congrArg List.length HE.out
      have h2 := bagOf_length (rows.take k)
      rw [List.length_map] at h1
      rw [List.length_take] at h2
      omega
    have hes : ∀ e ∈ es, e.r.length ≤ 1099511627776 := fun e hm => by
      have : e.pair ∈ bagOfL (rows.take k) := by rw [← HE.out]; exact List.mem_map_of_mem hm
      exact bagOf_rows (fun r hr => HLe.out r (List.mem_of_mem_take hr)) _ this
    have HES := Lib.hid hes
    clear he hes hE b1
    by_cases hlt : k < rows.length
    · obtain ⟨b, off, rfl, _, hc⟩ := hB.on hW (by omega)
      obtain ⟨Ar, cr, h1, h3, h4⟩ := hc k hlt
      clear hc
      go_wp2_with fail
      refine (l2With_any w.heap.size g cap es Ar cr (rr rows k) 1 wr hW.size hO h3 (by omega) h4 HES.out).mono ?_
      rintro e w1 ⟨g1, cap1, es1, rfl, hO1, he1, hb1⟩
      have HE1 := Lib.hid (show es1.map Ent.pair = bagOfL (rows.take (k + 1)) by rw [he1, HE.out, bagOf_take hlt])
      have hW1 := hW.trans hb1
      clear he1 hO hW hb1 h1 h3
      go_wp2
      go_roundw
      case rel => exact ⟨k + 1, g1, cap1, es1, by omega, by go_num, rfl, hO1, HE1.out, hW1⟩
      case measure => simp [intOf]; omega
    · have hd : decide (k < rows.length) = false := by simpa using hlt
      go_wp2
      go_ret
      exact ⟨g, cap, es, rfl, hO, by rw [HE.out, List.take_of_length_le (by omega)], hW⟩
end Go.Proofs.Ytoncfodlffofdaa
