/- The widths that none has looked at yet, node by node: plain facts. -/
import Derived.Test.YtejgofhpjkebbaaDoorWid0
import Derived.Test.YtejgofhpjkebbaaDoorBasThy
namespace Go.Proofs.YtejgofhpjkebbaaDoor
open Go.RowKit

def tabWd (ts : List TB) (n : ByteArray) : Int := if fndN ts n < ts.length then (tx ts (fndN ts n)).wd else -1
/-- What a node makes of the widths that none has looked at yet. -/
def pileW (ts : List TB) (d : Nd) (p : List Int) : Int :=
  if looksN d.k = 0 then tabWd ts d.n
  else if looksN d.k = 1 then stepD d (ix p (p.length - 1)) 0
  else stepD d (ix p (p.length - 2)) (ix p (p.length - 1))
def pileNext (ts : List TB) (d : Nd) (p : List Int) : Option (List Int) :=
  if pileW ts d p < 0 then none else some (p.take (p.length - looksN d.k) ++ [pileW ts d p])
def pile (ts : List TB) (v : List Nd) : Nat → Option (List Int)
  | 0 => some []
  | k + 1 => (pile ts v k).bind (pileNext ts (ndx v k))
theorem pile_succ {ts : List TB} {v : List Nd} {k : Nat} {p : List Int} (h : pile ts v k = some p) : pile ts v (k + 1) = pileNext ts (ndx v k) p := by
  show (pile ts v k).bind _ = _
  rw [h]; rfl
theorem pile_none_le {ts : List TB} {v : List Nd} {k : Nat} (h : pile ts v k = none) : ∀ n, pile ts v (k + n) = none
  | 0 => h
  | n + 1 => by
    show (pile ts v (k + n)).bind _ = _
    rw [pile_none_le h n]; rfl
theorem pile_stop {ts : List TB} {v : List Nd} {k : Nat} {p : List Int} (h : pile ts v k = some p) (hk : k < v.length) (hw : pileW ts (ndx v k) p < 0) : pile ts v v.length = none := by
  have h1 : pile ts v (k + 1) = none := by rw [pile_succ h]; exact if_pos hw
  have := pile_none_le h1 (v.length - (k + 1))
  rwa [show k + 1 + (v.length - (k + 1)) = v.length by omega] at this
theorem pile_step {ts : List TB} {v : List Nd} {k : Nat} {p : List Int} (h : pile ts v k = some p) (hw : ¬ pileW ts (ndx v k) p < 0) : pile ts v (k + 1) = some (p.take (p.length - looksN (ndx v k).k) ++ [pileW ts (ndx v k) p]) := by
  rw [pile_succ h]; exact if_neg hw
/-- The width of a view over a base; -1 where there is none. -/
def widthV (ts : List TB) (v : List Nd) : Int :=
  if baseB ts = true ∧ viewB v = true then (match pile ts v v.length with | none => -1 | some p => ix p (p.length - 1)) else -1
theorem widthV_no {ts : List TB} {v : List Nd} (h : ¬ (baseB ts = true ∧ viewB v = true)) : widthV ts v = -1 := if_neg h
theorem widthV_none {ts : List TB} {v : List Nd} (h : pile ts v v.length = none) : widthV ts v = -1 := by
  unfold widthV
  split
  · rw [h]
  · rfl
theorem widthV_some {ts : List TB} {v : List Nd} {p : List Int} (h0 : baseB ts = true) (h1 : viewB v = true) (h : pile ts v v.length = some p) : widthV ts v = ix p (p.length - 1) := by
  unfold widthV
  rw [if_pos ⟨h0, h1⟩, h]
theorem base_width {ts : List TB} (h : baseB ts = true) {j : Nat} (hj : j < ts.length) : widthB (tx ts j).wd = true := by
  have h1 : tabB (tx ts j).n (tx ts j).wd (tx ts j).rows = true := (base_iff.1 h).1 _ (by rw [tx_eq ts j hj]; exact List.getElem_mem hj)
  unfold tabB rowsOkB inB at h1
  simp only [Bool.and_eq_true, decide_eq_true_eq] at h1
  exact width_of h1.2.1.1.1 (by have := h1.2.1.1.2; omega)
theorem ix_mem {p : List Int} {j : Nat} (h : j < p.length) : ix p j ∈ p := by rw [ix_eq p j h]; exact List.getElem_mem h
theorem pile_good {ts : List TB} {v : List Nd} (hb : baseB ts = true) (hv : viewB v = true) : ∀ (k : Nat) (p : List Int), k ≤ v.length → pile ts v k = some p → (p.length : Int) = freeAt v k ∧ ∀ x ∈ p, widthB x = true
  | 0, p, _, h => by
    have hp : [] = p := Option.some.inj h
    subst hp
    exact ⟨rfl, fun x hx => by cases hx⟩
  | k + 1, p, hk, h => by
    have hok := (viewB_all hv).1 k (by omega)
    unfold okNd at hok
    rw [Bool.and_eq_true, decide_eq_true_eq] at hok
    obtain ⟨hn, hl⟩ := hok
    cases hp : pile ts v k with
    | none =>
      have h2 : (pile ts v k).bind (pileNext ts (ndx v k)) = some p := h
      rw [hp] at h2
      cases h2
    | some q =>
      obtain ⟨hq, hall⟩ := pile_good hb hv k q (by omega) hp
      rw [pile_succ hp] at h
      unfold pileNext at h
      split at h
      · cases h
      · rename_i hw
        have hpq := Option.some.inj h
        have hlq : looksN (ndx v k).k ≤ q.length := by omega
        refine ⟨?_, fun x hx => ?_⟩
        · rw [freeAt_succ (by omega), ← hpq, List.length_append, List.length_take]
          simp only [List.length_cons, List.length_nil]
          omega
        · rw [← hpq] at hx
          rcases List.mem_append.1 hx with hx | hx
          · exact hall x (List.mem_of_mem_take hx)
          · obtain rfl : x = pileW ts (ndx v k) q := by simpa using hx
            unfold pileW at hw ⊢
            split
            · rename_i h0
              rw [if_pos h0] at hw
              unfold tabWd at hw ⊢
              split
              · rename_i hf
                exact base_width hb hf
              · rename_i hf
                rw [if_neg hf] at hw
                omega
            · rename_i h0
              rw [if_neg h0] at hw
              split
              · rename_i h1
                rw [if_pos h1] at hw
                exact stepD_width hn (hall _ (ix_mem (by omega))) hw
              · rename_i h1
                rw [if_neg h1] at hw
                exact stepD_width hn (hall _ (ix_mem (by have := looksN_le (ndx v k).k; omega))) hw
theorem kind_one {k : Int} : looksN k = 0 ↔ k = 1 := by
  unfold looksN
  constructor
  · intro h2
    split at h2
    · assumption
    · split at h2 <;> omega
  · intro h2; rw [if_pos h2]
end Go.Proofs.YtejgofhpjkebbaaDoor
