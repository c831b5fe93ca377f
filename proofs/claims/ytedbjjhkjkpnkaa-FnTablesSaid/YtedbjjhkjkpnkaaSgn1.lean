/- Contracts of the program's small functions over counts: countLess, countsTogether, turnedRound, isOnce. Each says what the call returns; nothing that lay has turned. -/
import Derived.Test.YtedbjjhkjkpnkaaBagI2
namespace Go.Proofs.Ytedbjjhkjkpnkaa
open Go.RowKit

set_option maxHeartbeats 1000000 in
theorem countLess_any (A A' : Option Addr) (c c' : Nat) (zs ys : List Int) (n m : Int) (w : World) (hI : Ints w w.heap.size A zs) (hI' : Ints w w.heap.size A' ys) (hl : zs.length ≤ 1099511627776) (hl' : ys.length ≤ 1099511627776) :
    Calls Try.prog 73 #[.agg #[.slice A zs.length c, .int .i64 n], .agg #[.slice A' ys.length c', .int .i64 m]] w fun e w' => e = .returned (.bool (lessB zs ys)) ∧ Below w.heap.size w w' := by
  have hb2 := bel_two (w := w) (.cells #[.slice A zs.length c, .int .i64 n] 63) (.cells #[.slice A' ys.length c', .int .i64 m] 63)
  go_enter Try.func73, Try.ntmps73
  go_wp2_with fail
  generalize ((w.alloc (.cells #[.slice A zs.length c, .int .i64 n] 63)).alloc (.cells #[.slice A' ys.length c', .int .i64 m] 63)) = w2 at *
  refine (implRowLess_any A A' c c' zs ys hl hl' w2 (hI.on hb2) (hI'.on hb2)).mono ?_
  rintro e w1 ⟨rfl, hb3⟩
  go_wp2
  go_ret
  exact ⟨rfl, bel_step hb2 hb3⟩
set_option maxHeartbeats 1000000 in
theorem countsTogether_any (A A' : Option Addr) (l l' c c' : Nat) (n m : Int) (w : World) (hn : -1000000 ≤ n ∧ n ≤ 1000000) (hm : -1000000 ≤ m ∧ m ≤ 1000000) :
    Calls Try.prog 74 #[.agg #[.slice A l c, .int .i64 n], .agg #[.slice A' l' c', .int .i64 m]] w fun e w' => e = .returned (.tuple #[.agg #[.slice A l c, .int .i64 (n + m)], .bool (n + m != 0)]) ∧ Below w.heap.size w w' := by
  have hb3 := (bel_two (w := w) (.cells #[.slice A l c, .int .i64 (n + m)] 63) (.cells #[.slice A' l' c', .int .i64 m] 63)).alloc (by simp; omega) (.cells #[.slice A l c, .int .i64 (n + m)] 63)
  have hws : IntKind.i64.wrap (n + m) = n + m := by rw [IntKind.wrap_i64]; omega
  go_enter Try.func74, Try.ntmps74
  go_wp2_with fail
  go_region
  go_wp2
  refine bodyPost_ret (v := .tuple #[.agg #[.slice A l c, .int .i64 (n + m)], .bool (n + m != 0)]) (by simp [results, Try.f74, go_sem, *]) rfl ?_
  exact ⟨rfl, bel_drewN hb3 1⟩
set_option maxHeartbeats 1000000 in
theorem turnedRound_any (A : Option Addr) (l c : Nat) (n : Int) (w : World) (hn : -1000000 ≤ n ∧ n ≤ 1000000) :
    Calls Try.prog 103 #[.agg #[.slice A l c, .int .i64 n]] w fun e w' => e = .returned (.agg #[.slice A l c, .int .i64 (-n)]) ∧ Below w.heap.size w w' := by
  have b2 := bel_two (w := w) (.cells #[.slice A l c, .int .i64 (-n)] 63) (.cells #[.slice A l c, .int .i64 (-n)] 63)
  go_enter Try.func103, Try.ntmps103
  go_wp2
  refine bodyPost_ret (v := .agg #[.slice A l c, .int .i64 (-n)]) (by simp [results, Try.f103, go_sem, *]) rfl ?_
  exact ⟨rfl, b2⟩
end Go.Proofs.Ytedbjjhkjkpnkaa
