/- Texts joined: Read1, Read2, Read3, Read4, Word1: contracts and plain facts; each says its own below. -/
import Derived.Test.YtdjoiehknpfigaaGreatRead0
import Derived.Test.YtdjoiehknpfigaaGreatJA
import Derived.WalkSpells
import Derived.WalkSmall
import Derived.Lib.AtoiErrMem
import Derived.Lib.AppendIntMem
import Derived.Test.YtdjoiehknpfigaaGreatDeedThy
import Derived.Deep.RegionHeld3
import Derived.Deep.RegionLaw
/- Contracts of the model's readers: l1ReadMost reads a number; l1Split cuts a text at a byte; ReadRow. -/
namespace Go.Proofs.YtdjoiehknpfigaaGreat
open Go.RowKit

/-- What a reader of a number answers. -/
def numAns (o : Option Int) : Value := match o with | some n => .tuple #[.int .i64 n, .bool true] | none => .tuple #[.int .i64 0, .bool false]

theorem bl_get (s : ByteArray) (k : Nat) (h : k < s.size) : (bl s)[k]? = some s[k] := by
  unfold bl
  rw [Array.getElem?_toList, Array.getElem?_eq_getElem h]; rfl
theorem dval_succ (s : ByteArray) (i k : Nat) (h : k < s.size) (hi : i ≤ k) : valFrom 0 (((bl s).drop i).take (k + 1 - i)) = valFrom 0 (((bl s).drop i).take (k - i)) * 10 + (s[k].toNat - 48) := by
  have hl : k - i < ((bl s).drop i).length := by rw [List.length_drop, bl_length]; omega
  rw [show k + 1 - i = (k - i) + 1 by omega, List.take_succ_eq_append_getElem hl, valFrom_snoc]
  congr 2
  have : ((bl s).drop i)[k - i]? = some s[k] := by rw [List.getElem?_drop, show i + (k - i) = k by omega, bl_get s k h]
  rw [List.getElem?_eq_getElem hl] at this
  rw [Option.some.inj this]
theorem dall_succ (s : ByteArray) (i k : Nat) (h : k < s.size) (hi : i ≤ k) : (((bl s).drop i).take (k + 1 - i)).all isDig = ((((bl s).drop i).take (k - i)).all isDig && isDig s[k]) := by
  have hl : k - i < ((bl s).drop i).length := by rw [List.length_drop, bl_length]; omega
  rw [show k + 1 - i = (k - i) + 1 by omega, List.take_succ_eq_append_getElem hl, List.all_append]
  have : ((bl s).drop i)[k - i]? = some s[k] := by rw [List.getElem?_drop, show i + (k - i) = k by omega, bl_get s k h]
  rw [List.getElem?_eq_getElem hl] at this
  rw [Option.some.inj this]
  simp
theorem dall_stop (s : ByteArray) (i k : Nat) (h : k < s.size) (hi : i ≤ k) (hn : isDig s[k] = false) : ((bl s).drop i).all isDig = false := by
  rw [List.all_eq_false]
  refine ⟨s[k], ?_, by simp [hn]⟩
  rw [List.mem_iff_getElem?]
  exact ⟨k - i, by rw [List.getElem?_drop, show i + (k - i) = k by omega, bl_get s k h]⟩
theorem isNeg_some {s : ByteArray} (h : 0 < s.size) : isNeg (bl s) = (s[0] == 45) := by
  have := bl_get s 0 h
  cases hx : bl s with
  | nil => rw [hx] at this; simp at this
  | cons c r => rw [hx] at this; simp at this; unfold isNeg; rw [this]
theorem digs_drop (s : ByteArray) (i : Nat) (h : (isNeg (bl s) = true ∧ i = 1) ∨ (isNeg (bl s) = false ∧ i = 0)) : digs (bl s) = (bl s).drop i := by
  unfold digs
  rcases h with ⟨h, rfl⟩ | ⟨h, rfl⟩
  · rw [if_pos h]; simp
  · rw [h]; simp
theorem dig_byte {c : UInt8} (h1 : 48 ≤ c.toNat) (h2 : c.toNat ≤ 57) : isDig c = true := isDig_iff.2 ⟨h1, h2⟩
theorem dig_no {c : UInt8} (h : c.toNat < 48 ∨ 57 < c.toNat) : isDig c = false := by
  cases hd : isDig c with
  | false => rfl
  | true => have := isDig_iff.1 hd; omega
theorem dhead (s : ByteArray) (i : Nat) (h : i < s.size) : ((bl s).drop i).head? = some s[i] := by
  rw [List.head?_eq_getElem?, List.getElem?_drop, Nat.add_zero, bl_get s i h]

/-- What readNum gives, from how the text begins and what its digits are. -/
theorem readNum_long {s : ByteArray} {most i : Nat} (hd : digs (bl s) = (bl s).drop i) (h : s.size - i < 1 ∨ most < s.size - i) : readNum most (bl s) = none := by
  unfold readNum
  rw [hd, if_pos (by rw [List.length_drop, bl_length]; omega)]
theorem readNum_odd {s : ByteArray} {most i : Nat} (hd : digs (bl s) = (bl s).drop i) (h2 : ((bl s).drop i).all isDig = false) : readNum most (bl s) = none := by
  unfold readNum
  rw [hd]
  split
  · rfl
  · first | rfl | rw [if_pos h2]
theorem readNum_nought {s : ByteArray} {most i : Nat} (hd : digs (bl s) = (bl s).drop i) (hi : i < s.size) (h48 : s[i].toNat = 48) (h3 : isNeg (bl s) = true ∨ 1 < s.size) : readNum most (bl s) = none := by
  unfold readNum
  rw [hd]
  split
  · rfl
  · split
    · rfl
    · rw [if_pos ⟨by rw [dhead s i hi]; congr 1; exact UInt8.toNat_inj.1 h48, by rw [bl_length]; exact h3⟩]
theorem readNum_is {s : ByteArray} {most i : Nat} (hd : digs (bl s) = (bl s).drop i) (hi : i < s.size) (hm : s.size - i ≤ most) (h2 : ((bl s).drop i).all isDig = true) (h3 : ¬ (s[i].toNat = 48 ∧ (isNeg (bl s) = true ∨ 1 < s.size))) :
    readNum most (bl s) = some (if isNeg (bl s) = true then -(valFrom 0 ((bl s).drop i) : Int) else (valFrom 0 ((bl s).drop i) : Int)) := by
  unfold readNum
  rw [hd, if_neg (by rw [List.length_drop, bl_length]; omega), if_neg (by rw [h2]; simp), if_neg]
  · rfl
  · rintro ⟨e, e2⟩
    rw [dhead s i hi] at e
    rw [bl_length] at e2
    exact h3 ⟨by rw [Option.some.inj e]; rfl, e2⟩
theorem ret_num (o : Option Int) (n : Int) (h : o = some n) : Ending.returned (.tuple #[.int .i64 n, .bool true]) = .returned (numAns o) := by rw [h]; rfl
theorem ret_none (o : Option Int) (h : o = none) : Ending.returned (.tuple #[.int .i64 0, .bool false]) = .returned (numAns o) := by rw [h]; rfl
theorem dval_lt (s : ByteArray) (i k : Nat) (h : (((bl s).drop i).take (k - i)).all isDig = true) (hk : k - i ≤ 17) : valFrom 0 (((bl s).drop i).take (k - i)) < 100000000000000000 := by
  have h1 := valFrom_lt _ h 0
  have h2 : (((bl s).drop i).take (k - i)).length ≤ 17 := Nat.le_trans (List.length_take_le _ _) hk
  have h3 : 10 ^ (((bl s).drop i).take (k - i)).length ≤ 10 ^ 17 := Nat.pow_le_pow_right (by omega) h2
  have : (10 : Nat) ^ 17 = 100000000000000000 := by decide
  omega

/-- The words that l1Split has cut off when it stands at place k, the next word beginning at place f. -/
theorem spl_length (c : UInt8) : ∀ l : List UInt8, (spl c l).length = l.count c + 1
  | [] => rfl
  | b :: r => by
    have ih := spl_length c r
    unfold spl
    by_cases e : b = c
    · subst e; rw [if_pos rfl]; simp [ih]
    · rw [if_neg e, List.count_cons_of_ne e]
      split
      · rename_i h; rw [h] at ih; simp at ih
      · rename_i h; rw [h] at ih; simpa using ih
def piece (s : ByteArray) (a b : Nat) : ByteArray := s.extract a b
theorem piece_bl (s : ByteArray) (a b : Nat) : bl (piece s a b) = ((bl s).drop a).take (b - a) := by
  unfold piece bl
  rw [Lib.extract_data]
end Go.Proofs.YtdjoiehknpfigaaGreat

/- Contracts of l1Split, and of ReadRow, the model's and the program's: both read a row alike. For texts of at most 2^30 bytes; the program's reads variables of the library's, which lie as its text lays them. -/
namespace Go.Proofs.YtdjoiehknpfigaaGreat
open Go.RowKit

def SplSt (c : UInt8) (l : List UInt8) (k f : Nat) (W : List (List UInt8)) : Prop :=
  (k ≤ l.length ∧ f ≤ k ∧ spl c l = W ++ spl c (l.drop f) ∧ c ∉ (l.drop f).take (k - f)) ∨ (k = l.length + 1 ∧ spl c l = W)
theorem splSt_end {c : UInt8} {l : List UInt8} {f : Nat} {W : List (List UInt8)} (h : SplSt c l l.length f W) : SplSt c l (l.length + 1) (l.length + 1) (W ++ [(l.drop f).take (l.length - f)]) := by
  rcases h with ⟨_, hf, h1, h2⟩ | ⟨h, _⟩
  · refine .inr ⟨rfl, ?_⟩
    have e : (l.drop f).take (l.length - f) = l.drop f := List.take_of_length_le (by rw [List.length_drop]; exact Nat.le_refl _)
    rw [e] at h2 ⊢
    rw [h1, spl_whole c _ h2]
  · omega
theorem splSt_cut {c : UInt8} {l : List UInt8} {k f : Nat} {W : List (List UInt8)} (h : SplSt c l k f W) (hk : l[k]? = some c) : SplSt c l (k + 1) (k + 1) (W ++ [(l.drop f).take (k - f)]) := by
  have hlt : k < l.length := (List.getElem?_eq_some_iff.1 hk).1
  rcases h with ⟨_, hf, h1, h2⟩ | ⟨h, _⟩
  · refine .inl ⟨by omega, Nat.le_refl _, ?_, by simp⟩
    have e : l.drop f = (l.drop f).take (k - f) ++ c :: l.drop (k + 1) := by
      have h3 : (l.drop f).drop (k - f) = c :: l.drop (k + 1) := by
        rw [List.drop_drop, show f + (k - f) = k by omega, List.drop_eq_getElem_cons hlt]
        congr 1
        rw [List.getElem?_eq_getElem hlt] at hk
        exact Option.some.inj hk
      rw [← h3, List.take_append_drop]
    rw [h1, e, spl_cut c _ _ h2, ← e, List.append_assoc]; rfl
  · omega
theorem splSt_on {c : UInt8} {l : List UInt8} {k f : Nat} {W : List (List UInt8)} (h : SplSt c l k f W) (hlt : k < l.length) (hk : l[k]? ≠ some c) : SplSt c l (k + 1) f W := by
  rcases h with ⟨_, hf, h1, h2⟩ | ⟨h, _⟩
  · refine .inl ⟨by omega, by omega, h1, ?_⟩
    have hl : k - f < (l.drop f).length := by rw [List.length_drop]; omega
    rw [show k + 1 - f = (k - f) + 1 by omega, List.take_succ_eq_append_getElem hl]
    intro hm
    rcases List.mem_append.1 hm with hm | hm
    · exact h2 hm
    · apply hk
      have e : (l.drop f)[k - f]? = l[k]? := by rw [List.getElem?_drop, show f + (k - f) = k by omega]
      rw [List.getElem?_eq_getElem hl] at e
      rw [← e, List.mem_singleton.1 hm]
  · omega
theorem splSt_le {c : UInt8} {l : List UInt8} {k f : Nat} {W : List (List UInt8)} (h : SplSt c l k f W) : W.length ≤ l.length + 1 := by
  have h3 := spl_length c l
  have h4 : l.count c ≤ l.length := List.count_le_length
  rcases h with ⟨_, _, h1, _⟩ | ⟨_, h1⟩
  · rw [h1] at h3; simp at h3; omega
  · rw [h1] at h3; omega
theorem splSt_f {c : UInt8} {l : List UInt8} {k f : Nat} {W : List (List UInt8)} (h : SplSt c l k f W) (hk : k ≤ l.length) : f ≤ k := by
  rcases h with ⟨_, hf, _⟩ | ⟨h, _⟩
  · exact hf
  · omega

end Go.Proofs.YtdjoiehknpfigaaGreat

/- ReadRow, the model's and the program's: what each answers; both read alike (read_same). For texts of at most 2^30 bytes; the program's reads variables of the library's, which lie as its text lays them. -/
namespace Go.Proofs.YtdjoiehknpfigaaGreat
open Go.RowKit

theorem mapM_take_succ {α β : Type} (f : α → Option β) (l : List α) (k : Nat) (r : List β) (x : β) (hk : k < l.length) (hr : (l.take k).mapM f = some r) (hx : f l[k] = some x) : (l.take (k + 1)).mapM f = some (r ++ [x]) := by
  rw [List.take_succ_eq_append_getElem hk, List.mapM_append, hr]
  simp [hx]
theorem mapM_stop {α β : Type} (f : α → Option β) (l : List α) (k : Nat) (hk : k < l.length) (hx : f l[k] = none) : l.mapM f = none := by
  cases h : l.mapM f with
  | none => rfl
  | some r =>
    exfalso
    obtain ⟨h1, h2⟩ := mapM_some h
    have := h2 k l[k] (r[k]'(by omega)) (List.getElem?_eq_getElem hk) (List.getElem?_eq_getElem (by omega))
    rw [hx] at this; cases this
theorem mapM_len {α β : Type} {f : α → Option β} {l : List α} {r : List β} (h : l.mapM f = some r) : l.length = r.length := (mapM_some h).1
theorem cat_mem_le (by_ : List UInt8) : ∀ (ws : List (List UInt8)) (w : List UInt8), w ∈ ws → w.length ≤ (cat by_ ws).length
  | [], w, h => by cases h
  | [v], w, h => by have : w = v := by simpa using h
                    subst this; simp [cat]
  | v :: u :: r, w, h => by
    rw [cat]
    rcases List.mem_cons.1 h with rfl | h
    · simp
    · have := cat_mem_le by_ (u :: r) w h
      simp only [List.length_append]; omega
theorem word_le {s : ByteArray} {ts : List ByteArray} {c : UInt8} (h : ts.map bl = spl c (bl s)) {k : Nat} (hk : k < ts.length) : (sx ts k).size ≤ s.size := by
  rw [← bl_length, ← bl_length]
  have hm : bl (sx ts k) ∈ spl c (bl s) := by rw [← h, sx_eq ts k hk]; exact List.mem_map_of_mem (List.getElem_mem hk)
  have := cat_mem_le [c] _ _ hm
  rwa [cat_spl] at this
theorem word_at (ts : List ByteArray) {k : Nat} (hk : k < ts.length) (h2 : k < (ts.map bl).length) : (ts.map bl)[k] = bl (sx ts k) := by rw [sx_eq ts k hk]; simp

/-- The answer of a reader of rows, in memory. -/
def RowAns (p : List Int × Bool) (w : World) (e : Ending) (w' : World) : Prop :=
  ∃ v, e = .returned (.tuple #[v, .bool p.2]) ∧ w'.ownsRow w.heap.size 2 1 v p.1.length (i64l p.1) ∧ Below w.heap.size w w'

theorem own_ne {w : World} {b b' : Nat} {e e' : TypeId} {sz sz' : Nat} {v v' : Value} {n n' : Nat} {xs xs' : List Value} (h : w.ownsRow b e sz v n xs) (h' : w.ownsRow b' e' sz' v' n' xs') (hne : e ≠ e') : v.ownBlock = none ∨ v.ownBlock ≠ v'.ownBlock := by
  rcases h.2 with ⟨rfl, _⟩ | ⟨g, cap, cur, rfl, _, hh, _⟩
  · exact .inl rfl
  · right
    rcases h'.2 with ⟨rfl, _⟩ | ⟨g', cap', cur', rfl, _, hh', _⟩
    · simp [Value.ownBlock]
    · intro he
      have : g = g' := by simpa [Value.ownBlock] using he
      subst this
      rw [hh] at hh'
      injection hh' with hh'
      injection hh' with _ ht
      exact hne ht
theorem strs_at {w : World} {base : Nat} {A : Option Addr} {cap : Nat} {ts : List ByteArray} (h : w.ownsRow base 9 1 (.slice A ts.length cap) ts.length (strl ts)) : Strs w w.heap.size A ts := by
  obtain ⟨A', cap', e, hS⟩ := strs_of_own h
  injection e with e1 _ _
  subst e1
  exact hS

theorem specRead_none {s : List UInt8} (h : s ≠ [45]) (h2 : (spl 32 s).mapM (readNum 10) = none) : specRead s = ([], false) := by unfold specRead; rw [if_neg h, h2]
theorem specRead_yes {s : List UInt8} {r : List Int} (h : s ≠ [45]) (h2 : (spl 32 s).mapM (readNum 10) = some r) (h3 : rowOkB r = true) : specRead s = (r, true) := by unfold specRead; rw [if_neg h, h2]; simp only; rw [if_pos h3]
theorem specRead_no {s : List UInt8} {r : List Int} (h : s ≠ [45]) (h2 : (spl 32 s).mapM (readNum 10) = some r) (h3 : ¬ rowOkB r = true) : specRead s = ([], false) := by unfold specRead; rw [if_neg h, h2]; simp only; rw [if_neg h3]
theorem specRead_len (s : List UInt8) : (specRead s).1.length ≤ 6 := by
  unfold specRead
  split
  · simp
  · split
    · simp
    · rename_i r h
      split
      · rename_i hok; exact (rowOkB_all hok).2
      · simp
theorem toList_bl (s : ByteArray) : s.toList = bl s := ByteArray.toList_eq s

end Go.Proofs.YtdjoiehknpfigaaGreat

/- The program's ReadRow answers as the model's does. For texts of at most 2^30 bytes; the variables of the library that it reads lie as its text lays them. -/
namespace Go.Proofs.YtdjoiehknpfigaaGreat
open Go.RowKit

theorem splitC_words (c : UInt8) : ∀ (k : Nat) (s : ByteArray), (spl c (bl s)).length ≤ k + 1 → (Lib.splitB ⟨#[c]⟩ 0 k s).map bl = spl c (bl s)
  | 0, s, h => by
    rw [Lib.splitB_zero]
    rw [spl_length] at h
    have h0 : c ∉ bl s := by rw [← List.count_eq_zero]; omega
    rw [spl_whole c _ h0]; rfl
  | k + 1, s, h => by
    have hidx : Lib.indexB s ⟨#[c]⟩ = Lib.indexByte (bl s) c := Lib.index_one (bl s) c
    rcases Lib.indexB_cases s ⟨#[c]⟩ with hm | ⟨o, ho, _⟩
    · rw [Lib.splitB_miss _ _ _ _ hm]
      rw [hidx] at hm
      have h0 : c ∉ bl s := by
        intro hx
        obtain ⟨j, hj⟩ := List.mem_iff_getElem?.1 hx
        exact Lib.indexByte_none hm j hj
      rw [spl_whole c _ h0]; rfl
    · have ho2 : Lib.indexByte (bl s) c = (o : Int) := hidx.symm.trans ho
      obtain ⟨h1, h2⟩ := Lib.indexByte_some ho2
      have hlt : o < (bl s).length := (List.getElem?_eq_some_iff.1 h1).1
      have hne : (Lib.indexB s ⟨#[c]⟩ == -1) = false := by rw [ho, beq_eq_false_iff_ne]; omega
      have e0 : bl s = (bl s).take o ++ c :: (bl s).drop (o + 1) := by
        have h3 : (bl s).drop o = c :: (bl s).drop (o + 1) := by
          rw [List.drop_eq_getElem_cons hlt]
          congr 1
          rw [List.getElem?_eq_getElem hlt] at h1
          exact Option.some.inj h1
        rw [← h3, List.take_append_drop]
      have hno : c ∉ (bl s).take o := by
        intro hx
        obtain ⟨j, hj⟩ := List.mem_iff_getElem?.1 hx
        have hjo : j < o := by
          have := (List.getElem?_eq_some_iff.1 hj).1
          rw [List.length_take] at this; omega
        rw [List.getElem?_take, if_pos hjo] at hj
        exact h2 j hjo hj
      have e1 : bl (s.extract 0 (o + 0)) = (bl s).take o := by have := piece_bl s 0 o; unfold piece at this; rw [Nat.add_zero, this]; simp
      have e2 : bl (s.extract (o + 1) s.size) = (bl s).drop (o + 1) := by
        have := piece_bl s (o + 1) s.size
        unfold piece at this
        rw [this, List.take_of_length_le (by rw [List.length_drop, bl_length]; exact Nat.le_refl _)]
      have e3 : spl c (bl s) = (bl s).take o :: spl c ((bl s).drop (o + 1)) := by
        have := spl_cut c _ ((bl s).drop (o + 1)) hno
        rwa [← e0] at this
      have ih := splitC_words c k (s.extract (o + 1) s.size) (by rw [e2]; rw [e3] at h; simp at h; omega)
      have hunf : Lib.splitB ⟨#[c]⟩ 0 (k + 1) s = s.extract 0 (o + 0) :: Lib.splitB ⟨#[c]⟩ 0 k (s.extract (o + 1) s.size) := by
        rw [Lib.splitB, hne, ho]
        rfl
      rw [hunf, List.map_cons, ih, e1, e2, e3]
theorem splitB_words (k : Nat) (s : ByteArray) (h : (spl 32 (bl s)).length ≤ k + 1) : (Lib.splitB ⟨#[32]⟩ 0 k s).map bl = spl 32 (bl s) := splitC_words 32 k s h

theorem implRead_none {s : List UInt8} {ws : List (List UInt8)} (h : s ≠ [45]) (h2 : ws.mapM parseI = none) : implRead s ws = ([], false) := by unfold implRead; rw [if_neg h, h2]
theorem implRead_yes {s : List UInt8} {ws : List (List UInt8)} {r : List Int} (h : s ≠ [45]) (h2 : ws.mapM parseI = some r) (h3 : showL r = s) : implRead s ws = (r, true) := by unfold implRead; rw [if_neg h, h2]; simp only; rw [if_pos h3]
theorem implRead_no {s : List UInt8} {ws : List (List UInt8)} {r : List Int} (h : s ≠ [45]) (h2 : ws.mapM parseI = some r) (h3 : ¬ showL r = s) : implRead s ws = ([], false) := by unfold implRead; rw [if_neg h, h2]; simp only; rw [if_neg h3]

theorem splitC_le (c : UInt8) : ∀ (k : Nat) (s : ByteArray), (Lib.splitB ⟨#[c]⟩ 0 k s).length ≤ k + 1 ∧ ∀ t ∈ Lib.splitB ⟨#[c]⟩ 0 k s, t.size ≤ s.size
  | 0, s => by rw [Lib.splitB_zero]; simp
  | k + 1, s => by
    rcases Lib.indexB_cases s ⟨#[c]⟩ with hm | ⟨o, ho, _⟩
    · rw [Lib.splitB_miss _ _ _ _ hm]; simp
    · have hne : (Lib.indexB s ⟨#[c]⟩ == -1) = false := by rw [ho, beq_eq_false_iff_ne]; omega
      have hunf : Lib.splitB ⟨#[c]⟩ 0 (k + 1) s = s.extract 0 (o + 0) :: Lib.splitB ⟨#[c]⟩ 0 k (s.extract (o + 1) s.size) := by
        rw [Lib.splitB, hne, ho]
        rfl
      obtain ⟨h1, h2⟩ := splitC_le c k (s.extract (o + 1) s.size)
      rw [hunf]
      refine ⟨by simp; omega, fun t ht => ?_⟩
      have hsub (a b : Nat) : (s.extract a b).size ≤ s.size := by
        have := piece_bl s a b
        unfold piece at this
        rw [← bl_length, this, ← bl_length s]
        rw [List.length_take, List.length_drop]; omega
      rcases List.mem_cons.1 ht with rfl | ht
      · exact hsub _ _
      · exact Nat.le_trans (h2 t ht) (hsub _ _)
theorem splitB_le (k : Nat) (s : ByteArray) : (Lib.splitB ⟨#[32]⟩ 0 k s).length ≤ k + 1 ∧ ∀ t ∈ Lib.splitB ⟨#[32]⟩ 0 k s, t.size ≤ s.size := splitC_le 32 k s
theorem strs_cells {w : World} {ws : List ByteArray} {N : Nat} : Strs (w.alloc (.cells (Lib.cellsOf ws N) 9)) (w.heap.size + 1) (some ⟨w.heap.size, 0, none⟩) ws := fun _ =>
  ⟨w.heap.size, 0, rfl, by omega, fun j hj => by
    rw [Nat.zero_add, Blk.cell (Blk.new w 9 (Lib.cellsOf ws N)) j]
    unfold Lib.cellsOf
    rw [List.getElem?_toArray, List.getElem?_append_left (by simpa using hj)]
    simp [sx, hj]⟩

end Go.Proofs.YtdjoiehknpfigaaGreat

/- The program's words of the deeds, where they lie; kindOf, deedText, showNumber: what each returns; nothing that lay has turned. The variables lie as the text lays them. -/
namespace Go.Proofs.YtdjoiehknpfigaaGreat
open Go.RowKit

def wordsB : List ByteArray := [⟨#[]⟩, ⟨#[112, 117, 116]⟩, ⟨#[99, 117, 116]⟩, ⟨#[115, 101, 116]⟩, ⟨#[109, 117, 115, 116]⟩, ⟨#[109, 97, 107, 101]⟩, ⟨#[100, 114, 111, 112]⟩]
theorem kind_at {l : List UInt8} {k : Nat} (hk : k < 7) (h : bl (sx wordsB k) = l) : kindL l = k := by
  subst h
  obtain rfl | rfl | rfl | rfl | rfl | rfl | rfl : k = 0 ∨ k = 1 ∨ k = 2 ∨ k = 3 ∨ k = 4 ∨ k = 5 ∨ k = 6 := by omega
  all_goals decide
theorem kind_none {l : List UInt8} (h : ∀ k, k < 7 → bl (sx wordsB k) ≠ l) : kindL l = 0 := by
  unfold kindL
  rw [if_neg (fun e => h 1 (by omega) e.symm), if_neg (fun e => h 2 (by omega) e.symm), if_neg (fun e => h 3 (by omega) e.symm), if_neg (fun e => h 4 (by omega) e.symm), if_neg (fun e => h 5 (by omega) e.symm), if_neg (fun e => h 6 (by omega) e.symm)]
theorem wordsB_at {k : Nat} (hk : k < 7) : bl (sx wordsB k) = wordL k := by
  obtain rfl | rfl | rfl | rfl | rfl | rfl | rfl : k = 0 ∨ k = 1 ∨ k = 2 ∨ k = 3 ∨ k = 4 ∨ k = 5 ∨ k = 6 := by omega
  all_goals decide
theorem below_grow_drewN (w : World) (k : Nat) (os : Array Obj) : Below w.heap.size w (Go.Sort.grow (w.drewN k) os) :=
  ⟨rfl, rfl, rfl, by show w.heap.size ≤ (w.heap ++ os).size; rw [Array.size_append]; omega, fun j hj => by show (w.heap ++ os)[j]? = w.heap[j]?; exact Array.getElem?_append_left hj⟩
theorem word_bytes {k : Nat} (hk : k < 7) (J : List UInt8) : (sx wordsB k ++ (⟨#[32]⟩ : ByteArray)) ++ (⟨J.toArray⟩ : ByteArray) = ⟨(wordL k ++ 32 :: J).toArray⟩ := by
  refine bl_eta _ _ ?_
  rw [bl_append, bl_append, wordsB_at hk, bl_mk]
  simp [bl]
end Go.Proofs.YtdjoiehknpfigaaGreat
