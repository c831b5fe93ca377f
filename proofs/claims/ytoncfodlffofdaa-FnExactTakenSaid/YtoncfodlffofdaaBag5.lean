/- The contract of the model's copy of a row: new memory, the same numbers; nothing that lay has turned. For rows of at most 2^40. -/
import Derived.Test.YtoncfodlffofdaaBag1
import Derived.Test.YtoncfodlffofdaaApp
namespace Go.Proofs.Ytoncfodlffofdaa
open Go.RowKit

theorem reads_ints {w : World} {B : Nat} {A : Option Addr} {zs : List Int} (h : Ints w B A zs) : Reads w B 1 A zs.length (i64l zs) := by
  refine ⟨by rw [i64l_length, Nat.mul_one], fun hn => ?_⟩
  obtain ⟨b, off, e, hb, hc⟩ := h hn
  refine ⟨_, e, hb, fun j u hu => ?_⟩
  have hj : j < zs.length := by
    rcases Nat.lt_or_ge j zs.length with hj | hj
    · exact hj
    · rw [List.getElem?_eq_none (by rw [i64l_length]; exact hj)] at hu; cases hu
  have ea : Addr.add ⟨b, off, none⟩ j = ⟨b, off + j, none⟩ := by unfold Addr.add; split <;> simp_all
  rw [ea, hc j hj, ← hu]
  simp [i64l, ix, hj]
theorem i64l_one (zs : List Int) : ∀ u ∈ i64l zs, u.oneCell' = true := by
  intro u hu
  obtain ⟨y, _, rfl⟩ := List.mem_map.1 hu
  rfl
set_option maxRecDepth 100000 in
set_option maxHeartbeats 1000000 in
theorem l1Row_any (A : Option Addr) (c : Nat) (zs : List Int) (w : World) (hI : Ints w w.heap.size A zs) (hl : zs.length ≤ 1099511627776) :
    Calls Try.prog 129 #[.slice A zs.length c] w fun e w' => ∃ v, e = .returned v ∧ w'.ownsRow w.heap.size 2 1 v zs.length (i64l zs) ∧ Below w.heap.size w w' := by
  obtain ⟨i0, hi0, hz0, hz1, hz2⟩ := info_parts info_i64
  have hE := ownsRow_empty w 2 w.heap.size (Nat.le_refl _)
  have hR := (reads_ints hI).alloc (Nat.le_refl _) (.cells #[] 2)
  have b1 := (Below.refl w.heap.size w).alloc (Nat.le_refl _) (.cells #[] 2)
  go_enter Try.func129, Try.ntmps129
  go_wp2_with (at_builtin; refine wpList_append_any _ rfl (.tmp 3) (.tmp 4) 25 rfl w.heap.size 2 i0 (.int .i64 0) 1 8 Try.underlying25 hi0 hz0 hz1 hz2 rfl (by decide) _ _ _ rfl hE _ A zs.length c (i64l zs) rfl hR (i64l_one _) (by simp only [maxLen]; omega) (by omega) (by simp) ?_; intro v5 w5 hown5 hg5 hat5)
  simp only [Nat.zero_add, List.nil_append] at hown5
  have hr5 : ∀ k, (Value.slice (some ⟨w.heap.size, 0, none⟩) 0 0).ownBlock = some k → w.heap.size ≤ k := fun k e => by
    have : w.heap.size = k := Option.some.inj e
    omega
  have hb5 := b1.grown hg5 (by simp) hr5
  go_ret
  exact ⟨_, rfl, hown5, hb5⟩
end Go.Proofs.Ytoncfodlffofdaa
