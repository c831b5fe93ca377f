/- ReadRow, the model's and the program's: what each answers; both read alike (read_same). For texts of at most 2^30 bytes; the program's reads variables of the library's, which lie as its text lays them. -/
import Derived.Test.YtdpokfjempdchaaGreatDoorRead2
import Derived.Test.YtdpokfjempdchaaGreatDoorShelfR
import Derived.WalkSmall
namespace Go.Proofs.YtdpokfjempdchaaGreatDoor
open Go.RowKit

theorem mapM_take_succ {α β : Type} (f : α → Option β) (l : List α) (k : Nat) (r : List β) (x : β) (hk : k < l.length) (hr : (l.take k).mapM f = some r) (hx : f l[k] = some x) : (l.take (k + 1)).mapM f = some (r ++ [x]) := by
  rw [List.take_succ_eq_append_getElem hk, List.mapM_append, hr]
  simp [hx]
theorem mapM_stop {α β : Type} (f : α → Option β) (l : List α) (k : Nat) (hk : k < l.length) (hx : f l[k] = none) : l.mapM f = none := by
  cases h : l.mapM f with
  | none => rfl
  | some r =>
    exfalso
    obtain ⟨h1, h2⟩ := mapM_some h
    have := h2 k l[k] (r[k]'(by omega)) (List.getElem?_eq_getElem hk) (List.getElem?_eq_getElem (by omega))
    rw [hx] at this; cases this
theorem mapM_len {α β : Type} {f : α → Option β} {l : List α} {r : List β} (h : l.mapM f = some r) : l.length = r.length := (mapM_some h).1
theorem cat_mem_le (by_ : List UInt8) : ∀ (ws : List (List UInt8)) (w : List UInt8), w ∈ ws → w.length ≤ (cat by_ ws).length
  | [], w, h => by cases h
  | [v], w, h => by have : w = v := by simpa using h
                    subst this; simp [cat]
  | v :: u :: r, w, h => by
    rw [cat]
    rcases List.mem_cons.1 h with rfl | h
    · simp
    · have := cat_mem_le by_ (u :: r) w h
      simp only [List.length_append]; omega
theorem word_le {s : ByteArray} {ts : List ByteArray} {c : UInt8} (h : ts.map bl = spl c (bl s)) {k : Nat} (hk : k < ts.length) : (sx ts k).size ≤ s.size := by
  rw [← bl_length, ← bl_length]
  have hm : bl (sx ts k) ∈ spl c (bl s) := by rw [← h, sx_eq ts k hk]; exact List.mem_map_of_mem (List.getElem_mem hk)
  have := cat_mem_le [c] _ _ hm
  rwa [cat_spl] at this
theorem word_at (ts : List ByteArray) {k : Nat} (hk : k < ts.length) (h2 : k < (ts.map bl).length) : (ts.map bl)[k] = bl (sx ts k) := by rw [sx_eq ts k hk]; simp

/-- The answer of a reader of rows, in memory. -/
def RowAns (p : List Int × Bool) (w : World) (e : Ending) (w' : World) : Prop :=
  ∃ v, e = .returned (.tuple #[v, .bool p.2]) ∧ w'.ownsRow w.heap.size 2 1 v p.1.length (i64l p.1) ∧ Below w.heap.size w w'

theorem own_ne {w : World} {b b' : Nat} {e e' : TypeId} {sz sz' : Nat} {v v' : Value} {n n' : Nat} {xs xs' : List Value} (h : w.ownsRow b e sz v n xs) (h' : w.ownsRow b' e' sz' v' n' xs') (hne : e ≠ e') : v.ownBlock = none ∨ v.ownBlock ≠ v'.ownBlock := by
  rcases h.2 with ⟨rfl, _⟩ | ⟨g, cap, cur, rfl, _, hh, _⟩
  · exact .inl rfl
  · right
    rcases h'.2 with ⟨rfl, _⟩ | ⟨g', cap', cur', rfl, _, hh', _⟩
    · simp [Value.ownBlock]
    · intro he
      have : g = g' := by simpa [Value.ownBlock] using he
      subst this
      rw [hh] at hh'
      injection hh' with hh'
      injection hh' with _ ht
      exact hne ht
theorem strs_at {w : World} {base : Nat} {A : Option Addr} {cap : Nat} {ts : List ByteArray} (h : w.ownsRow base 9 1 (.slice A ts.length cap) ts.length (strl ts)) : Strs w w.heap.size A ts := by
  obtain ⟨A', cap', e, hS⟩ := strs_of_own h
  injection e with e1 _ _
  subst e1
  exact hS

theorem specRead_none {s : List UInt8} (h : s ≠ [45]) (h2 : (spl 32 s).mapM (readNum 10) = none) : specRead s = ([], false) := by unfold specRead; rw [if_neg h, h2]
theorem specRead_yes {s : List UInt8} {r : List Int} (h : s ≠ [45]) (h2 : (spl 32 s).mapM (readNum 10) = some r) (h3 : rowOkB r = true) : specRead s = (r, true) := by unfold specRead; rw [if_neg h, h2]; simp only; rw [if_pos h3]
theorem specRead_no {s : List UInt8} {r : List Int} (h : s ≠ [45]) (h2 : (spl 32 s).mapM (readNum 10) = some r) (h3 : ¬ rowOkB r = true) : specRead s = ([], false) := by unfold specRead; rw [if_neg h, h2]; simp only; rw [if_neg h3]
theorem specRead_len (s : List UInt8) : (specRead s).1.length ≤ 6 := by
  unfold specRead
  split
  · simp
  · split
    · simp
    · rename_i r h
      split
      · rename_i hok; exact (rowOkB_all hok).2
      · simp
theorem toList_bl (s : ByteArray) : s.toList = bl s := ByteArray.toList_eq s

end Go.Proofs.YtdpokfjempdchaaGreatDoor
