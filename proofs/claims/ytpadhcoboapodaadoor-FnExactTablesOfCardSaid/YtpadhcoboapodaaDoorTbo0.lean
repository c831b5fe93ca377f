/- The names of the tables of a view: plain facts: put in one after the other, or all sorted and made one: the same list. -/
import Derived.Test.YtpadhcoboapodaaDoorNod0
import Derived.Test.YtpadhcoboapodaaDoorBasThy
import Derived.Lib.SlicesCompact
namespace Go.Proofs.YtpadhcoboapodaaDoor
open Go.RowKit

def insT (x : ByteArray) : List ByteArray → List ByteArray
  | [] => [x]
  | y :: l => if nlt y x = true then y :: insT x l else x :: y :: l
/-- How many stand ahead that are less. -/
def plT (x : ByteArray) : List ByteArray → Nat
  | [] => 0
  | y :: l => if nlt y x = true then plT x l + 1 else 0
theorem plT_le (x : ByteArray) : ∀ l, plT x l ≤ l.length
  | [] => Nat.le_refl _
  | y :: l => by
    have := plT_le x l
    simp only [plT, List.length_cons]; split <;> omega
theorem insT_eq (x : ByteArray) : ∀ l, insT x l = l.take (plT x l) ++ x :: l.drop (plT x l)
  | [] => rfl
  | y :: l => by
    simp only [insT, plT]
    split
    · rw [insT_eq x l]; rfl
    · rfl
theorem insT_mem {x z : ByteArray} : ∀ {l}, z ∈ insT x l ↔ z = x ∨ z ∈ l
  | [] => by simp [insT]
  | y :: l => by
    simp only [insT]
    split
    · rw [List.mem_cons, insT_mem (l := l), List.mem_cons]
      constructor
      · rintro (h | h | h)
        · exact .inr (.inl h)
        · exact .inl h
        · exact .inr (.inr h)
      · rintro (h | h | h)
        · exact .inr (.inl h)
        · exact .inl h
        · exact .inr (.inr h)
    · simp
def Srt (l : List ByteArray) : Prop := l.Pairwise fun a b => nlt a b = true
theorem insT_srt {x : ByteArray} : ∀ {l : List ByteArray}, Srt l → x ∉ l → Srt (insT x l)
  | [], _, _ => List.pairwise_singleton _ _
  | y :: l, h, hx => by
    obtain ⟨h1, h2⟩ := List.pairwise_cons.1 h
    simp only [insT]
    split
    · rename_i hy
      refine List.pairwise_cons.2 ⟨fun z hz => ?_, insT_srt h2 fun hm => hx (List.mem_cons_of_mem _ hm)⟩
      rcases insT_mem.1 hz with rfl | hz
      · exact hy
      · exact h1 z hz
    · rename_i hy
      have hxy : nlt x y = true := by
        rcases nlt_total (a := x) (b := y) (fun e => hx (by rw [e]; simp)) with k | k
        · exact k
        · exact absurd k hy
      refine List.pairwise_cons.2 ⟨fun z hz => ?_, h⟩
      rcases List.mem_cons.1 hz with rfl | hz
      · exact hxy
      · exact nlt_trans hxy (h1 z hz)
/-- Of two rising lists that have the same they are one. -/
theorem srt_eq : ∀ {a b : List ByteArray}, Srt a → Srt b → (∀ x, x ∈ a ↔ x ∈ b) → a = b
  | [], [], _, _, _ => rfl
  | [], y :: b, _, _, h => by have := (h y).2 (by simp); cases this
  | x :: a, [], _, _, h => by have := (h x).1 (by simp); cases this
  | x :: a, y :: b, ha, hb, h => by
    obtain ⟨a1, a2⟩ := List.pairwise_cons.1 ha
    obtain ⟨b1, b2⟩ := List.pairwise_cons.1 hb
    have hxy : x = y := by
      rcases List.mem_cons.1 ((h x).1 (by simp)) with e | hx
      · exact e
      · rcases List.mem_cons.1 ((h y).2 (by simp)) with e | hy
        · exact e.symm
        · have k := nlt_asym (a1 y hy)
          rw [b1 x hx] at k; cases k
    subst hxy
    congr 1
    refine srt_eq a2 b2 fun z => ⟨fun hz => ?_, fun hz => ?_⟩
    · rcases List.mem_cons.1 ((h z).1 (List.mem_cons_of_mem _ hz)) with e | k
      · subst e; have := a1 z hz; rw [nlt_irr] at this; cases this
      · exact k
    · rcases List.mem_cons.1 ((h z).2 (List.mem_cons_of_mem _ hz)) with e | k
      · subst e; have := b1 z hz; rw [nlt_irr] at this; cases this
      · exact k
/-! ### a view's -/
def addT (l : List ByteArray) (d : Nd) : List ByteArray := if d.k = 1 ∧ (∀ y ∈ l, y ≠ d.n) then insT d.n l else l
def tabsL (v : List Nd) : List ByteArray := v.foldl addT []
def namesL (v : List Nd) : List ByteArray := (v.filter fun d => decide (d.k = 1)).map Nd.n
def tabsV (v : List Nd) : List ByteArray := if viewB v = true then tabsL v else []
theorem tabsL_succ {v : List Nd} {k : Nat} (h : k < v.length) : tabsL (v.take (k + 1)) = addT (tabsL (v.take k)) (ndx v k) := by
  unfold tabsL
  rw [List.take_succ_eq_append_getElem h, List.foldl_append, ← ndx_eq v k h]; rfl
theorem namesL_succ {v : List Nd} {k : Nat} (h : k < v.length) : namesL (v.take (k + 1)) = namesL (v.take k) ++ (if (ndx v k).k = 1 then [(ndx v k).n] else []) := by
  unfold namesL
  rw [List.take_succ_eq_append_getElem h, List.filter_append, List.map_append, ← ndx_eq v k h]
  congr 1
  by_cases hk : (ndx v k).k = 1
  · rw [if_pos hk]; simp [hk]
  · rw [if_neg hk]; simp [hk]
theorem tabs_good (v : List Nd) : ∀ k, k ≤ v.length → Srt (tabsL (v.take k)) ∧ (∀ x, x ∈ tabsL (v.take k) ↔ x ∈ namesL (v.take k)) ∧ (tabsL (v.take k)).length ≤ k
  | 0, _ => ⟨by simp [tabsL, Srt], by simp [tabsL, namesL], by simp [tabsL]⟩
  | k + 1, h => by
    obtain ⟨h1, h2, h3⟩ := tabs_good v k (by omega)
    rw [tabsL_succ (by omega), namesL_succ (by omega)]
    unfold addT
    by_cases hk : (ndx v k).k = 1
    · rw [if_pos hk]
      by_cases hm : (ndx v k).n ∈ tabsL (v.take k)
      · rw [if_neg fun h => h.2 _ hm rfl]
        refine ⟨h1, fun x => ?_, by omega⟩
        rw [List.mem_append, ← h2 x, List.mem_singleton]
        exact ⟨.inl, fun h => h.elim id fun e => by rw [e]; exact hm⟩
      · rw [if_pos ⟨hk, fun y hy e => hm (by rw [← e]; exact hy)⟩]
        refine ⟨insT_srt h1 hm, fun x => ?_, ?_⟩
        · rw [insT_mem, h2 x, List.mem_append, List.mem_singleton, or_comm]
        · have := plT_le (ndx v k).n (tabsL (v.take k))
          rw [insT_eq, List.length_append, List.length_cons, List.length_take, List.length_drop]
          omega
    · rw [if_neg fun h => hk h.1, if_neg hk, List.append_nil]
      exact ⟨h1, h2, by omega⟩
/-! ### sorted, and neighbours made one -/
theorem before_le : ∀ (a b : List UInt8), bytesBefore a b = true → a < b
  | [], [], h => by simp [bytesBefore] at h
  | [], _ :: _, _ => List.Lex.nil
  | x :: a, [], h => by simp [bytesBefore] at h
  | x :: a, y :: b, h => by
    simp only [bytesBefore, Bool.or_eq_true, Bool.and_eq_true, decide_eq_true_eq, beq_iff_eq] at h
    rcases h with h | ⟨rfl, h⟩
    · exact List.Lex.rel h
    · exact List.Lex.cons (before_le a b h)
theorem le_before {a b : List UInt8} (h : a ≤ b) : a = b ∨ bytesBefore a b = true := by
  by_cases e : a = b
  · exact .inl e
  · rcases WideAt.bytes_total _ _ e with k | k
    · exact .inr k
    · exact absurd (before_le _ _ k) h
theorem compactUpTo_mem (d : Array (List UInt8)) (x : List UInt8) : ∀ m, x ∈ Lib.compactUpTo d m ↔ ∃ j, j < m ∧ d[j]! = x
  | 0 => by simp [Lib.compactUpTo]
  | m + 1 => by
    rw [Lib.compactUpTo_succ, List.mem_append, compactUpTo_mem d x m]
    cases hk : Lib.keeps d m with
    | true =>
      simp only [if_true, List.mem_singleton]
      constructor
      · rintro (⟨j, hj, e⟩ | e)
        · exact ⟨j, by omega, e⟩
        · exact ⟨m, by omega, e.symm⟩
      · rintro ⟨j, hj, e⟩
        by_cases hjm : j = m
        · subst hjm; exact .inr e.symm
        · exact .inl ⟨j, by omega, e⟩
    | false =>
      simp only [Bool.false_eq_true, if_false, List.not_mem_nil, or_false]
      constructor
      · rintro ⟨j, hj, e⟩; exact ⟨j, by omega, e⟩
      · rintro ⟨j, hj, e⟩
        by_cases hjm : j = m
        · subst hjm
          unfold Lib.keeps at hk
          simp only [decide_eq_false_iff_not, not_or, Decidable.not_not] at hk
          exact ⟨j - 1, by omega, by rw [← hk.2]; exact e⟩
        · exact ⟨j, by omega, e⟩
theorem compactUpTo_srt {d : Array (List UInt8)} (hd : ∀ i j, i < j → j < d.size → d[i]! ≤ d[j]!) : ∀ m, m ≤ d.size → (Lib.compactUpTo d m).Pairwise fun a b => bytesBefore a b = true
  | 0, _ => by simp [Lib.compactUpTo]
  | m + 1, h => by
    rw [Lib.compactUpTo_succ]
    cases hk : Lib.keeps d m with
    | false => simpa using compactUpTo_srt hd m (by omega)
    | true =>
      simp only [if_true]
      refine List.pairwise_append.2 ⟨compactUpTo_srt hd m (by omega), List.pairwise_singleton _ _, fun a ha b hb => ?_⟩
      obtain rfl : b = d[m]! := by simpa using hb
      obtain ⟨j, hj, rfl⟩ := (compactUpTo_mem d a m).1 ha
      unfold Lib.keeps at hk
      have hne : d[m]! ≠ d[m - 1]! := by
        rcases (of_decide_eq_true hk) with e | e
        · omega
        · exact e
      have h1 : bytesBefore d[m - 1]! d[m]! = true := by
        rcases le_before (hd (m - 1) m (by omega) (by omega)) with e | k
        · exact absurd e.symm hne
        · exact k
      by_cases e : j = m - 1
      · subst e; exact h1
      · rcases le_before (hd j (m - 1) (by omega) (by omega)) with e2 | k
        · rw [e2]; exact h1
        · exact WideShapes.bytes_trans _ _ _ k h1
theorem sorted_le (zs : List (List UInt8)) : (zs.mergeSort fun x y => decide (x ≤ y)).Pairwise fun a b => a ≤ b := by
  have h := List.pairwise_mergeSort (le := fun (x y : List UInt8) => decide (x ≤ y)) (fun a b c h1 h2 => decide_eq_true (List.le_trans (of_decide_eq_true h1) (of_decide_eq_true h2))) (fun a b => by
    rcases List.le_total a b with h | h
    · rw [decide_eq_true h]; rfl
    · rw [decide_eq_true h, Bool.or_true]) zs
  exact h.imp fun h => of_decide_eq_true h
/-- All of them sorted, and neighbours that are alike made one. -/
def onceL (l : List ByteArray) : List (List UInt8) := Lib.compact ((l.map bl).mergeSort fun x y => decide (x ≤ y))
theorem onceL_eq {v : List Nd} : onceL (namesL v) = (tabsL v).map bl := by
  have hg := tabs_good v v.length (Nat.le_refl _)
  rw [List.take_length] at hg
  obtain ⟨h1, h2, _⟩ := hg
  have hs := sorted_le ((namesL v).map bl)
  have hlen : ∀ zs : List (List UInt8), Lib.compact zs = Lib.compactUpTo zs.toArray zs.length := fun _ => rfl
  have hm : ∀ x, x ∈ onceL (namesL v) ↔ x ∈ (namesL v).map bl := fun x => by
    unfold onceL
    rw [hlen, compactUpTo_mem]
    constructor
    · rintro ⟨j, hj, e⟩
      have : x ∈ (((namesL v).map bl).mergeSort fun x y => decide (x ≤ y)) := by
        rw [← e, getElem!_pos _ j (by simpa using hj)]
        simp
      exact List.mem_mergeSort.1 this
    · intro hx
      obtain ⟨j, hj, e⟩ := List.getElem_of_mem (List.mem_mergeSort (le := fun x y => decide (x ≤ y)).2 hx)
      exact ⟨j, hj, by rw [getElem!_pos _ j (by simpa using hj)]; simpa using e⟩
  have hp : (onceL (namesL v)).Pairwise fun a b => bytesBefore a b = true := by
    unfold onceL
    rw [hlen]
    refine compactUpTo_srt (fun i j hij hj => ?_) _ (by simp)
    rw [getElem!_pos _ i (by omega), getElem!_pos _ j hj]
    simp only [List.getElem_toArray]
    exact List.pairwise_iff_getElem.1 hs i j _ _ hij
  have hb : ∃ l : List ByteArray, onceL (namesL v) = l.map bl := ⟨(onceL (namesL v)).map fun x => ⟨x.toArray⟩, by
    rw [List.map_map]
    refine (List.map_congr_left (g := id) fun x _ => ?_).symm ▸ (List.map_id _).symm
    exact bl_mk x⟩
  obtain ⟨l, hl⟩ := hb
  rw [hl]
  congr 1
  refine srt_eq ?_ h1 fun x => ?_
  · rw [hl] at hp
    exact List.pairwise_map.1 hp
  · rw [h2 x]
    have := hm (bl x)
    rw [hl] at this
    constructor
    · intro hx
      obtain ⟨y, hy, e⟩ := List.mem_map.1 (this.1 (List.mem_map.2 ⟨x, hx, rfl⟩))
      rw [← bl_inj e]; exact hy
    · intro hx
      obtain ⟨y, hy, e⟩ := List.mem_map.1 (this.2 (List.mem_map.2 ⟨x, hx, rfl⟩))
      rw [← bl_inj e]; exact hy
theorem first_table {v : List Nd} (h : viewB v = true) : 0 < v.length ∧ (ndx v 0).k = 1 := by
  obtain ⟨h1, h2, _⟩ := viewB_all h
  have h0 : 0 < v.length := by
    rcases Nat.eq_zero_or_pos v.length with e | e
    · rw [e, freeAt_zero] at h2; cases h2
    · exact e
  refine ⟨h0, ?_⟩
  have := h1 0 h0
  unfold okNd at this
  rw [Bool.and_eq_true, decide_eq_true_eq, freeAt_zero] at this
  have h3 := this.2
  unfold looksN at h3
  split at h3
  · assumption
  · split at h3 <;> omega
theorem names_pos {v : List Nd} (h : viewB v = true) : 0 < (namesL v).length := by
  obtain ⟨h0, h1⟩ := first_table h
  have : (ndx v 0).n ∈ namesL v := List.mem_map.2 ⟨ndx v 0, List.mem_filter.2 ⟨ndx_mem h0, decide_eq_true h1⟩, rfl⟩
  exact List.length_pos_of_mem this
end Go.Proofs.YtpadhcoboapodaaDoor
