/- Sizes of right bases, and of the answers of Does and Batched: plain facts. -/
import Derived.Test.YtdjoiehknpfigaaGreatBas1
import Derived.Test.YtdjoiehknpfigaaGreatBasThy
import Derived.Test.YtdjoiehknpfigaaGreatJC
namespace Go.Proofs.YtdjoiehknpfigaaGreat
open Go.RowKit

theorem sum_le_all {α : Type} (f : α → Nat) (m : Nat) : ∀ (l : List α), (∀ x ∈ l, f x ≤ m) → (l.map f).sum ≤ l.length * m
  | [], _ => by simp
  | x :: l, h => by
    have h1 := h x (by simp)
    have h2 := sum_le_all f m l fun y hy => h y (List.mem_cons_of_mem _ hy)
    rw [List.map_cons, List.sum_cons, List.length_cons, Nat.add_mul]
    omega
theorem tab_tw {t : TB} (h : t.ok = true) : tw t ≤ 156 := by
  unfold TB.ok tabB at h
  rw [Bool.and_eq_true] at h
  obtain ⟨hn, hr⟩ := h
  obtain ⟨⟨hw, hl⟩, _, hfit⟩ := rowsOk_iff.1 hr
  unfold nameB at hn
  rw [Bool.and_eq_true] at hn
  have hn2 := hn.2
  unfold inB at hw hn2
  rw [Bool.and_eq_true, decide_eq_true_eq, decide_eq_true_eq] at hw hn2
  have h4 : rsum t.rows ≤ t.rows.length * 4 := sum_le_all List.length 4 t.rows fun r hr => by
    have := fit_len (hfit r hr)
    omega
  unfold tw
  omega
theorem base_tw {ts : List TB} (h : baseB ts = true) : ts.length ≤ 4 ∧ twS ts ≤ 624 := by
  obtain ⟨h1, _, h3⟩ := base_iff.1 h
  have := sum_le_all tw 156 ts fun t ht => tab_tw (h1 t ht)
  exact ⟨h3, by unfold twS; omega⟩
theorem doesB_fit (ts : List TB) (d : DL) : (doesB ts d).1.length ≤ 4 ∧ twS (doesB ts d).1 ≤ 624 := by
  unfold doesB
  split
  · rename_i h
    exact base_tw (doB_base h)
  · exact ⟨by simp, by simp [twS]⟩
theorem batD_base {t0 : List TB} (h0 : baseB t0 = true) : ∀ (ds : List DL) (ts : List TB), baseB ts = true → baseB (batD t0 ts ds).1 = true
  | [], ts, h => h
  | d :: ds, ts, h => by
    unfold batD
    split
    · exact batD_base h0 ds _ (doB_base h)
    · exact h0
theorem batchB_fit (ts : List TB) (ds : List DL) : (batchB ts ds).1.length ≤ 4 ∧ twS (batchB ts ds).1 ≤ 624 := by
  unfold batchB
  split
  · rename_i h
    split
    · exact base_tw (batD_base h ds ts h)
    · exact base_tw h
  · exact ⟨by simp, by simp [twS]⟩
end Go.Proofs.YtdjoiehknpfigaaGreat
