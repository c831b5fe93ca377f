/- Texts joined: Heap0, Heap1, Heap2, Heap3, Heap4, BagOf2, BagOf3: contracts and plain facts; each says its own below. -/
import Derived.Test.YtjidfoeajnfmdaaJB
import Derived.Test.YtjidfoeajnfmdaaJC
import Derived.Test.YtjidfoeajnfmdaaJD
/- A method of a value, called through an interface that holds a pointer to it: which function it is, and the receiver read from memory. The types and functions of the program that are named: the heap of counts. -/
namespace Go.Proofs.Ytjidfoeajnfmdaa
open Go.RowKit
theorem wrap_run (P : Program) (t : TypeId) (a : Addr) (s m : String) (w : World) : (Builtin.ssaWrapNilChk_ #[t] t #[.pointer (some a), strVal s, strVal m]).run P w = .ok (.pointer (some a)) w := rfl
theorem load_heap (p n c : Nat) (A : Option Addr) (w : World) (hp : w.cell? ⟨p, 0, none⟩ = some (.slice A n c)) : (loadVar 104 ⟨p, 0, none⟩).run Try.prog w = .ok (.slice A n c) w := by
  simp [loadVar, go_sem, hp]
theorem meth_val {P : Program} {t elem : TypeId} {name : String} {f : FuncId} (hu : P.underlying t = some (.pointer elem)) (h : (P.info? t).map (fun i => (i.methods.find? (·.name == name)).map fun m => (m.path.toList.length, m.func)) = some (some (0, some (f, false))))
    (a : Addr) (v : Value) (fuel : Nat) (w : World) (hl : (loadVar elem a).run P w = .ok v w) : (method (fuel + 1) t (.pointer (some a)) name).run P w = .ok (f, v) w := by
  cases hi : P.info? t with
  | none => rw [hi] at h; cases h
  | some i =>
    rw [hi] at h
    simp only [Option.map_some, Option.some.injEq] at h
    cases hm : i.methods.find? (·.name == name) with
    | none => rw [hm] at h; cases h
    | some m =>
      rw [hm] at h
      simp only [Option.map_some, Option.some.injEq, Prod.mk.injEq] at h
      obtain ⟨h1, h2⟩ := h
      have h3 : m.path.toList = [] := List.length_eq_zero_iff.1 h1
      have h4 : m.path = #[] := by simpa using h3
      simp [method, typeInfo, hi, hm, h2, h4, follow, receiverAt, Place.get, run_underlying hu, wrap_run, asAddr, hl]
theorem infoLen : (Try.prog.info? 106).map (fun i => (i.methods.find? (·.name == "Len")).map fun m => (m.path.toList.length, m.func)) = some (some (0, some (89, false))) := by kernel_rfl
theorem infoLess : (Try.prog.info? 106).map (fun i => (i.methods.find? (·.name == "Less")).map fun m => (m.path.toList.length, m.func)) = some (some (0, some (127, false))) := by kernel_rfl
theorem infoSwap : (Try.prog.info? 106).map (fun i => (i.methods.find? (·.name == "Swap")).map fun m => (m.path.toList.length, m.func)) = some (some (0, some (128, false))) := by kernel_rfl
end Go.Proofs.Ytjidfoeajnfmdaa

/- Plain facts on a heap of counts in a list: what a sift down keeps, what it brings; the first is the least. No condition; nothing of the program is named. -/
namespace Go.Proofs.Ytjidfoeajnfmdaa
open Go.RowKit

def noEnt : Ent := ⟨[], 0, none, 0, 0⟩
def ex (es : List Ent) (i : Nat) : Ent := es[i]?.getD noEnt
theorem ex_eq {es : List Ent} {i : Nat} (h : i < es.length) : ex es i = es[i] := by simp [ex, h]
def kx (es : List Ent) (i : Nat) : List Int := (ex es i).r
def swp (es : List Ent) (i j : Nat) : List Ent := (es.set i (ex es j)).set j (ex es i)
theorem swp_length (es : List Ent) (i j : Nat) : (swp es i j).length = es.length := by simp [swp]
theorem ex_swp {es : List Ent} {i j : Nat} (hi : i < es.length) (hj : j < es.length) (k : Nat) : ex (swp es i j) k = if k = j then ex es i else if k = i then ex es j else ex es k := by
  unfold swp ex
  rw [List.getElem?_set, List.getElem?_set]
  by_cases e1 : k = j
  · subst e1
    rw [if_pos rfl, if_pos rfl, if_pos (by simpa using hj)]
    rfl
  · rw [if_neg (Ne.symm e1), if_neg e1]
    by_cases e2 : k = i
    · subst e2
      rw [if_pos rfl, if_pos rfl, if_pos hi]
      rfl
    · rw [if_neg (Ne.symm e2), if_neg e2]
theorem swp_perm {es : List Ent} {i j : Nat} (hi : i < es.length) (hj : j < es.length) : (swp es i j).Perm es := by
  have e : swp es i j = (es.set i es[j]).set j es[i] := by unfold swp; rw [ex_eq hi, ex_eq hj]
  rw [e]
  by_cases hij : i = j
  · subst hij
    simp
  · rcases Nat.lt_or_ge i j with h | h
    · have h1 : es = es.take i ++ es[i] :: (es.drop (i + 1)).take (j - i - 1) ++ es[j] :: es.drop (j + 1) := by
        have a1 := (List.take_append_drop i es).symm
        have a2 := List.drop_eq_getElem_cons hi
        have a3 := (List.take_append_drop (j - i - 1) (es.drop (i + 1))).symm
        rw [List.drop_drop, show i + 1 + (j - i - 1) = j by omega, List.drop_eq_getElem_cons hj] at a3
        rw [a2, a3] at a1
        simpa using a1
      have hl1 : (es.take i).length = i := by simp; omega
      have hl2 : ((es.drop (i + 1)).take (j - i - 1)).length = j - i - 1 := by simp; omega
      have h2 : (es.set i es[j]).set j es[i] = es.take i ++ es[j] :: (es.drop (i + 1)).take (j - i - 1) ++ es[i] :: es.drop (j + 1) := by
        apply List.ext_getElem?
        intro k
        rw [List.getElem?_set, List.getElem?_set]
        simp only [List.append_assoc, List.cons_append, List.length_set]
        by_cases c1 : k < i
        · rw [if_neg (by omega), if_neg (by omega), List.getElem?_append_left (by omega), List.getElem?_take, if_pos c1]
        · rw [List.getElem?_append_right (by omega), hl1]
          by_cases c2 : k = i
          · subst c2; rw [if_neg (by omega), if_pos rfl, if_pos hi]; simp
          · obtain ⟨d, hd⟩ : ∃ d, k - i = d + 1 := ⟨k - i - 1, by omega⟩
            rw [hd, List.getElem?_cons_succ]
            by_cases c3 : k < j
            · rw [if_neg (by omega), if_neg (by omega), List.getElem?_append_left (by omega), List.getElem?_take, if_pos (by omega), List.getElem?_drop]
              congr 1; omega
            · rw [List.getElem?_append_right (by omega), hl2]
              by_cases c4 : k = j
              · subst c4
                rw [if_pos rfl, if_pos hj, show d - (k - i - 1) = 0 by omega]; simp
              · obtain ⟨d', hd'⟩ : ∃ d', d - (j - i - 1) = d' + 1 := ⟨d - (j - i - 1) - 1, by omega⟩
                rw [if_neg (by omega), if_neg (by omega), hd', List.getElem?_cons_succ, List.getElem?_drop]
                congr 1; omega
      rw [h2]
      conv => rhs; rw [h1]
      simp only [List.append_assoc, List.cons_append]
      refine List.Perm.append_left _ ?_
      refine (List.Perm.cons _ List.perm_middle).trans ?_
      refine (List.Perm.swap _ _ _).trans ?_
      exact List.Perm.cons _ List.perm_middle.symm
    · have hlt : j < i := by omega
      have hc : (es.set i es[j]).set j es[i] = (es.set j es[i]).set i es[j] := List.set_comm _ _ (by omega)
      rw [hc]
      have h1 : es = es.take j ++ es[j] :: (es.drop (j + 1)).take (i - j - 1) ++ es[i] :: es.drop (i + 1) := by
        have a1 := (List.take_append_drop j es).symm
        have a2 := List.drop_eq_getElem_cons hj
        have a3 := (List.take_append_drop (i - j - 1) (es.drop (j + 1))).symm
        rw [List.drop_drop, show j + 1 + (i - j - 1) = i by omega, List.drop_eq_getElem_cons hi] at a3
        rw [a2, a3] at a1
        simpa using a1
      have hl1 : (es.take j).length = j := by simp; omega
      have hl2 : ((es.drop (j + 1)).take (i - j - 1)).length = i - j - 1 := by simp; omega
      have h2 : (es.set j es[i]).set i es[j] = es.take j ++ es[i] :: (es.drop (j + 1)).take (i - j - 1) ++ es[j] :: es.drop (i + 1) := by
        apply List.ext_getElem?
        intro k
        rw [List.getElem?_set, List.getElem?_set]
        simp only [List.append_assoc, List.cons_append, List.length_set]
        by_cases c1 : k < j
        · rw [if_neg (by omega), if_neg (by omega), List.getElem?_append_left (by omega), List.getElem?_take, if_pos c1]
        · rw [List.getElem?_append_right (by omega), hl1]
          by_cases c2 : k = j
          · subst c2; rw [if_neg (by omega), if_pos rfl, if_pos hj]; simp
          · obtain ⟨d, hd⟩ : ∃ d, k - j = d + 1 := ⟨k - j - 1, by omega⟩
            rw [hd, List.getElem?_cons_succ]
            by_cases c3 : k < i
            · rw [if_neg (by omega), if_neg (by omega), List.getElem?_append_left (by omega), List.getElem?_take, if_pos (by omega), List.getElem?_drop]
              congr 1; omega
            · rw [List.getElem?_append_right (by omega), hl2]
              by_cases c4 : k = i
              · subst c4
                rw [if_pos rfl, if_pos hi, show d - (k - j - 1) = 0 by omega]; simp
              · obtain ⟨d', hd'⟩ : ∃ d', d - (i - j - 1) = d' + 1 := ⟨d - (i - j - 1) - 1, by omega⟩
                rw [if_neg (by omega), if_neg (by omega), hd', List.getElem?_cons_succ, List.getElem?_drop]
                congr 1; omega
      rw [h2]
      conv => rhs; rw [h1]
      simp only [List.append_assoc, List.cons_append]
      refine List.Perm.append_left _ ?_
      refine (List.Perm.cons _ List.perm_middle).trans ?_
      refine (List.Perm.swap _ _ _).trans ?_
      exact List.Perm.cons _ List.perm_middle.symm

/-- From place a on no child is less than its parent. -/
def HF (es : List Ent) (n a : Nat) : Prop := ∀ j, 1 ≤ j → j < n → a ≤ (j - 1) / 2 → lessB (kx es j) (kx es ((j - 1) / 2)) = false
theorem HF.half (es : List Ent) (n : Nat) : HF es n (n / 2) := fun j _ _ h3 => by omega
/-- What stands while one sifts down from i0, at place i. -/
def DI (es0 : List Ent) (i0 n i : Nat) (es : List Ent) : Prop :=
  es.Perm es0 ∧ es.length = es0.length ∧ (∀ j, n ≤ j → ex es j = ex es0 j) ∧ i0 ≤ i ∧
  (HF es0 n (i0 + 1) → (∀ j, 1 ≤ j → j < n → i0 ≤ (j - 1) / 2 → (j - 1) / 2 ≠ i → lessB (kx es j) (kx es ((j - 1) / 2)) = false) ∧
    (i0 < i → i0 ≤ (i - 1) / 2 ∧ 1 ≤ i ∧ ∀ j, 1 ≤ j → j < n → (j - 1) / 2 = i → lessB (kx es j) (kx es ((i - 1) / 2)) = false))
theorem DI.start (es : List Ent) (i0 n : Nat) : DI es i0 n i0 es :=
  ⟨List.Perm.refl _, rfl, fun _ _ => rfl, Nat.le_refl _, fun h => ⟨fun j h1 h2 h3 h4 => h j h1 h2 (by omega), fun h0 => absurd h0 (Nat.lt_irrefl _)⟩⟩
theorem kx_swp {es : List Ent} {i j : Nat} (hi : i < es.length) (hj : j < es.length) (k : Nat) : kx (swp es i j) k = if k = j then kx es i else if k = i then kx es j else kx es k := by
  unfold kx
  rw [ex_swp hi hj]
  split
  · rfl
  · split <;> rfl
theorem DI.step {es0 es : List Ent} {i0 n i m : Nat} (h : DI es0 i0 n i es) (hn : n ≤ es.length) (hm : m < n) (hc : (m - 1) / 2 = i) (hm1 : 1 ≤ m) (him : i < m) (hl : lessB (kx es m) (kx es i) = true)
    (hs : ∀ s, 1 ≤ s → s < n → (s - 1) / 2 = i → lessB (kx es s) (kx es m) = false) : DI es0 i0 n m (swp es i m) := by
  obtain ⟨h1, h2, h3, h4, h5⟩ := h
  have hil : i < es.length := by omega
  have hml : m < es.length := by omega
  refine ⟨(swp_perm hil hml).trans h1, by rw [swp_length, h2], fun j hj => ?_, by omega, fun hF => ?_⟩
  · rw [ex_swp hil hml, if_neg (by omega), if_neg (by omega)]; exact h3 j hj
  · obtain ⟨hA, hB⟩ := h5 hF
    refine ⟨fun j hj1 hj2 hj3 hj4 => ?_, fun _ => ⟨by omega, hm1, fun j hj1 hj2 hj3 => ?_⟩⟩
    · rw [kx_swp hil hml, kx_swp hil hml]
      rw [if_neg hj4]
      by_cases e1 : j = m
      · subst e1
        rw [if_pos rfl, if_pos hc]
        exact less_asymm hl
      · rw [if_neg e1]
        by_cases e2 : j = i
        · subst e2
          rw [if_pos rfl, if_neg (by omega)]
          obtain ⟨_, _, hB3⟩ := hB (by omega)
          exact hB3 m hm1 hm hc
        · rw [if_neg e2]
          by_cases e3 : (j - 1) / 2 = i
          · rw [if_pos e3]; exact hs j hj1 hj2 e3
          · rw [if_neg e3]; exact hA j hj1 hj2 hj3 e3
    · rw [kx_swp hil hml, kx_swp hil hml, if_neg (by omega), if_neg (by omega), hc, if_neg (by omega), if_pos rfl]
      have := hA j hj1 hj2 (by omega) (by omega)
      rw [hj3] at this
      exact this
theorem DI.stop {es0 es : List Ent} {i0 n i : Nat} (h : DI es0 i0 n i es) (hs : ∀ s, 1 ≤ s → s < n → (s - 1) / 2 = i → lessB (kx es s) (kx es i) = false) (hF : HF es0 n (i0 + 1)) : HF es n i0 := by
  obtain ⟨hA, _⟩ := h.2.2.2.2 hF
  intro j h1 h2 h3
  by_cases e : (j - 1) / 2 = i
  · rw [e]; exact hs j h1 h2 e
  · exact hA j h1 h2 h3 e
theorem heap_min {es : List Ent} {n : Nat} (h : HF es n 0) : ∀ j, j < n → lessB (kx es j) (kx es 0) = false := by
  intro j
  induction j using Nat.strongRecOn with
  | _ j ih =>
    intro hj
    rcases Nat.eq_zero_or_pos j with h0 | h0
    · subst h0; exact less_irrefl _
    · have h1 := ih ((j - 1) / 2) (by omega) (by omega)
      have h2 := h j h0 hj (Nat.zero_le _)
      exact le_trans_B h1 h2
end Go.Proofs.Ytjidfoeajnfmdaa

/- Contracts of the heap of counts: its Len, Less, Swap: what each returns, how the counts stand then. For counts that lie in memory of the call's own, rows of at most 2^40. -/
namespace Go.Proofs.Ytjidfoeajnfmdaa
open Go.RowKit

/-- The counts of a heap begin block g; their rows lie below lo; each is there once. -/
def HC (w : World) (lo g cap : Nat) (es : List Ent) : Prop :=
  w.ownsRow lo 62 2 (.slice (some ⟨g, 0, none⟩) es.length cap) es.length (entCells es) ∧ ∀ e ∈ es, Ints w lo e.A e.r ∧ e.r.length ≤ 1099511627776 ∧ e.n = 1
theorem HC.lt {w : World} {lo g cap : Nat} {es : List Ent} (h : HC w lo g cap es) : lo ≤ g ∧ g < w.heap.size := h.1.lt g rfl
theorem HC.on {w w' : World} {lo g cap : Nat} {es : List Ent} (h : HC w lo g cap es) (hb : Below w.heap.size w w') : HC w' lo g cap es :=
  ⟨own_keepB h.1 fun r e => hb.block r (h.1.lt r e).2, fun e he => ⟨(h.2 e he).1.below (hb.mono (by have := h.lt; omega)), (h.2 e he).2⟩⟩
theorem HC.parts {w : World} {lo g cap : Nat} {es : List Ent} (h : HC w lo g cap es) : ∃ cur : Array Value, lo ≤ g ∧ w.heap[g]? = some (.cells cur 62 (0, 0)) ∧ es.length ≤ cap ∧ cap ≤ maxLen ∧ cur.size = cap * 2 ∧ cur.toList.take (es.length * 2) = entCells es := by
  rcases h.1.2 with ⟨hv, _⟩ | ⟨g', cap', cur, hv, h2, h3, h4, h5, h6, h7⟩
  · cases hv
  · injection hv with h8 _ h10
    injection h8 with h8
    injection h8 with h8 _ _
    subst h8 h10
    exact ⟨cur, h2, h3, h4, h5, h6, h7⟩
theorem HC.cells {w : World} {lo g cap : Nat} {es : List Ent} (h : HC w lo g cap es) {i : Nat} (hi : i < es.length) :
    w.cell? ⟨g, i * 2, none⟩ = some (.slice (ex es i).A (kx es i).length (ex es i).c) ∧ w.cell? ⟨g, i * 2 + 1, none⟩ = some (.int .i64 (ex es i).n) ∧ w.frozen? ⟨g, i * 2, none⟩ = false ∧ w.frozen? ⟨g, i * 2 + 1, none⟩ = false := by
  obtain ⟨cur, h2, h3, h4, h5, h6, h7⟩ := h.parts
  have hB : Blk w g 62 cur := h3
  have e0 : ∀ k, k < es.length * 2 → cur[k]? = (entCells es)[k]? := fun k hk => by rw [← h7, List.getElem?_take, if_pos hk, Array.getElem?_toList]
  unfold kx
  rw [ex_eq hi]
  exact ⟨by rw [hB.cell, e0 _ (by omega), entCells_get0 es i hi], by rw [hB.cell, e0 _ (by omega), entCells_get1 es i hi], hB.frozen _, hB.frozen _⟩
theorem entCells_set : ∀ (es : List Ent) (i : Nat) (e : Ent), i < es.length → entCells (es.set i e) = ((entCells es).set (i * 2) (.slice e.A e.r.length e.c)).set (i * 2 + 1) (.int .i64 e.n)
  | f :: es, 0, e, _ => by simp [entCells, Ent.cells]
  | f :: es, i + 1, e, h => by
    have := entCells_set es i e (by simpa using h)
    rw [show (i + 1) * 2 = i * 2 + 2 by omega, show i * 2 + 2 + 1 = i * 2 + 1 + 2 by omega]
    simpa [entCells, Ent.cells] using this
theorem HC.set {w : World} {lo g cap : Nat} {es : List Ent} (h : HC w lo g cap es) {i : Nat} (hi : i < es.length) (e : Ent) (he : Ints w lo e.A e.r ∧ e.r.length ≤ 1099511627776 ∧ e.n = 1) :
    HC ((w.setCell ⟨g, i * 2, none⟩ (.slice e.A e.r.length e.c)).setCell ⟨g, i * 2 + 1, none⟩ (.int .i64 e.n)) lo g cap (es.set i e) := by
  obtain ⟨cur, h2, h3, h4, h5, h6, h7⟩ := h.parts
  have hB : Blk w g 62 cur := h3
  have hk : ∀ p : Addr, p.block < lo → ((w.setCell ⟨g, i * 2, none⟩ (.slice e.A e.r.length e.c)).setCell ⟨g, i * 2 + 1, none⟩ (.int .i64 e.n)).cell? p = w.cell? p := by
    intro p hp
    rw [World.cell?_setCell_other _ _ _ _ (fun e => by subst e; simp at hp; omega), World.cell?_setCell_other _ _ _ _ (fun e => by subst e; simp at hp; omega)]
  refine ⟨⟨entCells_length _, .inr ⟨g, cap, _, by rw [List.length_set], h2, (hB.set_ _ _).set_ _ _, by rw [List.length_set]; exact h4, h5, by simpa using h6, ?_⟩⟩, fun f hf => ?_⟩
  · rw [entCells_set es i e hi, ← h7, List.length_set, Array.toList_setIfInBounds, Array.toList_setIfInBounds, List.take_set, List.take_set]
  · rcases List.mem_or_eq_of_mem_set hf with h1 | h1
    · exact ⟨(h.2 f h1).1.keep hk, (h.2 f h1).2⟩
    · subst h1; exact ⟨he.1.keep hk, he.2⟩

theorem heapLen_any (A : Option Addr) (n c : Nat) (w : World) : Calls Try.prog 89 #[.slice A n c] w fun e w' => e = .returned (.int .i64 n) ∧ w = w' := by
  go_enter Try.func89, Try.ntmps89
  go_wp2
  go_ret
  exact ⟨rfl, rfl⟩
set_option maxRecDepth 100000 in
set_option maxHeartbeats 1000000 in
theorem heapLess_any (lo g cap : Nat) (es : List Ent) (i j : Nat) (w : World) (h : HC w lo g cap es) (hi : i < es.length) (hj : j < es.length) :
    Calls Try.prog 127 #[.slice (some ⟨g, 0, none⟩) es.length cap, .int .i64 i, .int .i64 j] w fun e w' => e = .returned (.bool (lessB (kx es i) (kx es j))) ∧ Below w.heap.size w w' := by
  obtain ⟨ci, _, _, _⟩ := h.cells hi
  obtain ⟨cj, _, _, _⟩ := h.cells hj
  have hlo : lo ≤ w.heap.size := by have := h.lt; omega
  have hei := h.2 es[i] (List.getElem_mem hi)
  have hej := h.2 es[j] (List.getElem_mem hj)
  rw [← ex_eq hi] at hei
  rw [← ex_eq hj] at hej
  have i1 : Ints w.drew w.drew.heap.size (ex es i).A (kx es i) := hei.1.more hlo
  have i2 : Ints w.drew w.drew.heap.size (ex es j).A (kx es j) := hej.1.more hlo
  have l1 : (kx es i).length ≤ 1099511627776 := hei.2.1
  have l2 : (kx es j).length ≤ 1099511627776 := hej.2.1
  have hbd : Below w.heap.size w w.drew := bel_drewN (Below.refl _ _) 1
  go_enter Try.func127, Try.ntmps127
  go_wp2_with fail
  go_still_tail 10, (by kernel_rfl)
  change wpList _ _ _ _ _ w.drew
  clear ci cj hei hej h
  generalize w.drew = wd at *
  go_wp2_with fail
  refine (implRowLess_any _ _ _ _ (kx es i) (kx es j) l1 l2 wd i1 i2).mono ?_
  rintro e w1 ⟨rfl, hb1⟩
  have hb := hbd.trans (hb1.mono hbd.size)
  go_wp2
  go_ret
  exact ⟨rfl, hb⟩
set_option maxRecDepth 100000 in
set_option maxHeartbeats 1000000 in
theorem heapSwap_any (lo g cap : Nat) (es : List Ent) (i j : Nat) (w : World) (h : HC w lo g cap es) (hi : i < es.length) (hj : j < es.length) (hij : i ≠ j) :
    Calls Try.prog 128 #[.slice (some ⟨g, 0, none⟩) es.length cap, .int .i64 i, .int .i64 j] w fun e w' => (∃ v, e = .returned v) ∧ HC w' lo g cap (swp es i j) ∧ w.grownBy w' (some g) := by
  obtain ⟨ci0, ci1, fi0, fi1⟩ := h.cells hi
  obtain ⟨cj0, cj1, fj0, fj1⟩ := h.cells hj
  go_enter Try.func128, Try.ntmps128
  go_wp2_with fail
  go_region
  have hei := h.2 es[i] (List.getElem_mem hi)
  have hej := h.2 es[j] (List.getElem_mem hj)
  rw [← ex_eq hi] at hei
  rw [← ex_eq hj] at hej
  have h1 := h.set hi (ex es j) hej
  have hk1 : Ints ((w.setCell ⟨g, i * 2, none⟩ (.slice (ex es j).A (ex es j).r.length (ex es j).c)).setCell ⟨g, i * 2 + 1, none⟩ (.int .i64 (ex es j).n)) lo (ex es i).A (ex es i).r := hei.1.keep fun p hp => by
    have := h.lt
    rw [World.cell?_setCell_other _ _ _ _ (fun e => by subst e; simp at hp; omega), World.cell?_setCell_other _ _ _ _ (fun e => by subst e; simp at hp; omega)]
  have h2 := h1.set (i := j) (by rw [List.length_set]; exact hj) (ex es i) ⟨hk1, hei.2⟩
  have hg2 : w.grownBy ((((w.setCell ⟨g, i * 2, none⟩ (.slice (ex es j).A (ex es j).r.length (ex es j).c)).setCell ⟨g, i * 2 + 1, none⟩ (.int .i64 (ex es j).n)).setCell ⟨g, j * 2, none⟩ (.slice (ex es i).A (ex es i).r.length (ex es i).c)).setCell ⟨g, j * 2 + 1, none⟩ (.int .i64 (ex es i).n)) (some g) :=
    grown_trans (grown_trans (grown_trans (grown_setCell _ g _ _) (grown_setCell _ g _ _)) (grown_setCell _ g _ _)) (grown_setCell _ g _ _)
  have H2 := Lib.hid h2
  have HG2 := Lib.hid hg2
  clear h1 h2 hg2 hk1 hei hej
  go_end0
  exact ⟨⟨_, rfl⟩, H2.out, grown_trans HG2.out (grown_drew _ _)⟩
end Go.Proofs.Ytjidfoeajnfmdaa

/- Contracts of container/heap over the heap of counts: down, Init, Pop: how the counts stand then, and which one comes out. For heaps of at most 2^40. -/
namespace Go.Proofs.Ytjidfoeajnfmdaa
open Go.RowKit

/-- The heap's variable, block p, and its counts. -/
def HP (w : World) (lo p g cap : Nat) (es : List Ent) : Prop :=
  Blk w p 104 #[.slice (some ⟨g, 0, none⟩) es.length cap] ∧ lo ≤ p ∧ HC w lo g cap es
theorem HP.ne {w : World} {lo p g cap : Nat} {es : List Ent} (h : HP w lo p g cap es) : p ≠ g := by
  intro e
  obtain ⟨cur, _, h3, _⟩ := h.2.2.parts
  have h1 := h.1
  unfold Blk at h1
  rw [e, h3] at h1
  injection h1 with h1
  injection h1 with _ h2 _
  exact absurd h2 (by decide)
theorem HP.on {w w' : World} {lo p g cap : Nat} {es : List Ent} (h : HP w lo p g cap es) (hb : Below w.heap.size w w') : HP w' lo p g cap es := ⟨h.1.below hb h.1.lt, h.2.1, h.2.2.on hb⟩
theorem HP.turned {w w' : World} {lo p g cap : Nat} {es es' : List Ent} (h : HP w lo p g cap es) (hc : HC w' lo g cap es') (hl : es'.length = es.length) (hg : w.grownBy w' (some g)) : HP w' lo p g cap es' :=
  ⟨by rw [hl]; exact h.1.grown hg (fun e => h.ne (Option.some.inj e)), h.2.1, hc⟩
theorem HP.lo {w : World} {lo p g cap : Nat} {es : List Ent} (h : HP w lo p g cap es) : lo ≤ w.heap.size := by have := h.1.lt; have := h.2.1; omega
theorem HP.mLen {w : World} {lo p g cap : Nat} {es : List Ent} (h : HP w lo p g cap es) : ∀ fuel, (method (fuel + 1) 106 (.pointer (some ⟨p, 0, none⟩)) "Len").run Try.prog w = .ok (89, .slice (some ⟨g, 0, none⟩) es.length cap) w :=
  fun fuel => meth_val Try.underlying106 infoLen _ _ fuel w (load_heap p es.length cap _ w (h.1.cell 0))
theorem HP.mLess {w : World} {lo p g cap : Nat} {es : List Ent} (h : HP w lo p g cap es) : ∀ fuel, (method (fuel + 1) 106 (.pointer (some ⟨p, 0, none⟩)) "Less").run Try.prog w = .ok (127, .slice (some ⟨g, 0, none⟩) es.length cap) w :=
  fun fuel => meth_val Try.underlying106 infoLess _ _ fuel w (load_heap p es.length cap _ w (h.1.cell 0))
theorem HP.mSwap {w : World} {lo p g cap : Nat} {es : List Ent} (h : HP w lo p g cap es) : ∀ fuel, (method (fuel + 1) 106 (.pointer (some ⟨p, 0, none⟩)) "Swap").run Try.prog w = .ok (128, .slice (some ⟨g, 0, none⟩) es.length cap) w :=
  fun fuel => meth_val Try.underlying106 infoSwap _ _ fuel w (load_heap p es.length cap _ w (h.1.cell 0))

theorem heapLess_at (lo g cap : Nat) (es : List Ent) (i j : Nat) (x y : Int) (w : World) (h : HC w lo g cap es) (hi : i < es.length) (hj : j < es.length) (hx : x = (i : Int)) (hy : y = (j : Int)) :
    Calls Try.prog 127 #[.slice (some ⟨g, 0, none⟩) es.length cap, .int .i64 x, .int .i64 y] w fun e w' => e = .returned (.bool (lessB (kx es i) (kx es j))) ∧ Below w.heap.size w w' := by
  subst hx hy; exact heapLess_any lo g cap es i j w h hi hj
theorem heapSwap_at (lo g cap : Nat) (es : List Ent) (i j : Nat) (x y : Int) (w : World) (h : HC w lo g cap es) (hi : i < es.length) (hj : j < es.length) (hij : i ≠ j) (hx : x = (i : Int)) (hy : y = (j : Int)) :
    Calls Try.prog 128 #[.slice (some ⟨g, 0, none⟩) es.length cap, .int .i64 x, .int .i64 y] w fun e w' => (∃ v, e = .returned v) ∧ HC w' lo g cap (swp es i j) ∧ w.grownBy w' (some g) := by
  subst hx hy; exact heapSwap_any lo g cap es i j w h hi hj hij
theorem Within.of_below {lo top : Nat} {w w' : World} (h : Below w.heap.size w w') : Within lo top w w' := ⟨h.os, h.tape, h.output, h.size, fun b hb _ => h.block b hb⟩
/-- What a sift down from i0 leaves. -/
def Down (lo top p g cap i0 n : Nat) (es : List Ent) (w : World) (e : Ending) (w' : World) : Prop :=
  (∃ v, e = .returned v) ∧ ∃ es', HP w' lo p g cap es' ∧ es'.length = es.length ∧ es'.Perm es ∧ (∀ j, n ≤ j → ex es' j = ex es j) ∧ (HF es n (i0 + 1) → HF es' n i0) ∧ Within lo top w w'

set_option maxRecDepth 100000 in
set_option maxHeartbeats 8000000 in
theorem down_any (lo top p g cap i0 n : Nat) (es : List Ent) (w : World) (h : HP w lo p g cap es) (hgt : g < top) (hn : n ≤ es.length) (hi0 : i0 ≤ es.length) (hl : es.length ≤ 1099511627776) :
    Calls Try.prog 102 #[.iface 106 (.pointer (some ⟨p, 0, none⟩)), .int .i64 i0, .int .i64 n] w (Down lo top p g cap i0 n es w) := by
  go_enter Try.func102, Try.ntmps102
  go_wp2
  go_loopw [7] (fun s wr => ∃ (i : Nat) (fs : List Ent), i ≤ es.length ∧ s = .int .i64 i ∧ DI es i0 n i fs ∧ HP wr lo p g cap fs ∧ Within lo top w wr) (fun s _ => n - (intOf s).toNat)
  case atStart => exact ⟨i0, es, hi0, rfl, DI.start es i0 n, h, Within.refl _ _ _⟩
  case round =>
    obtain ⟨i, fs, hi, rfl, hD, hH, hW⟩ := hrel
    have hfl : fs.length = es.length := hD.2.1
    have HFL := Lib.hid hfl
    have HDI := Lib.hid hD
    have hnf : n ≤ fs.length := by omega
    clear hD hfl h
    by_cases hlt : 2 * i + 1 < n
    · have hd1 : decide ((n : Int) ≤ 2 * (i : Int) + 1) = false := by simp; omega
      have h10 : ¬ (2 * (i : Int) + 1 < 0) := by omega
      by_cases h2n : 2 * i + 2 < n
      · have h2i : 2 * (i : Int) + 1 + 1 < (n : Int) := by omega
        have hm1 := hH.mLess
        go_wp2_with fail
        refine (heapLess_at lo g cap fs (2 * i + 2) (2 * i + 1) _ _ wr hH.2.2 (by omega) (by omega) (by omega) (by omega)).mono ?_
        rintro e w2 ⟨rfl, hb2⟩
        have hH2 := hH.on hb2
        have hW2 : Within lo top w w2 := hW.trans (Within.of_below hb2)
        clear hm1 hH hW hb2
        cases hl2 : lessB (kx fs (2 * i + 2)) (kx fs (2 * i + 1)) with
        | true =>
          have SIB := Lib.hid (show ∀ s, 1 ≤ s → s < n → (s - 1) / 2 = i → lessB (kx fs s) (kx fs (2 * i + 2)) = false from fun s h1 h2 h3 => by
            have : s = 2 * i + 1 ∨ s = 2 * i + 2 := by omega
            rcases this with rfl | rfl
            · exact less_asymm hl2
            · exact less_irrefl _)
          clear hl2
          have hm2 := hH2.mLess
          go_wp2_with fail
          refine (heapLess_at lo g cap fs (2 * i + 2) i _ _ w2 hH2.2.2 (by omega) (by omega) (by omega) rfl).mono ?_
          rintro e w3 ⟨rfl, hb3⟩
          have hH3 := hH2.on hb3
          have hW3 : Within lo top w w3 := hW2.trans (Within.of_below hb3)
          clear hm2 hH2 hW2 hb3
          cases hl3 : lessB (kx fs (2 * i + 2)) (kx fs i) with
          | false =>
            have SS := Lib.hid (show ∀ s, 1 ≤ s → s < n → (s - 1) / 2 = i → lessB (kx fs s) (kx fs i) = false from fun s h1 h2 h3 => le_trans_B hl3 (SIB.out s h1 h2 h3))
            clear hl3
            go_wp2
            go_ret
            exact ⟨⟨_, rfl⟩, fs, hH3, HFL.out, HDI.out.1, HDI.out.2.2.1, HDI.out.stop SS.out, hW3⟩
          | true =>
            have HL3 := Lib.hid hl3
            clear hl3
            have hm3 := hH3.mSwap
            go_wp2_with fail
            refine (heapSwap_at lo g cap fs i (2 * i + 2) _ _ w3 hH3.2.2 (by omega) (by omega) (by omega) rfl (by omega)).mono ?_
            rintro e w4 ⟨⟨v4, rfl⟩, hC4, hg4⟩
            have hH4 : HP w4 lo p g cap (swp fs i (2 * i + 2)) := hH3.turned hC4 (swp_length _ _ _) hg4
            have hW4 : Within lo top w w4 := hW3.trans (Within.of_grown hg4 (.inl ⟨hH3.2.2.lt.1, hgt⟩))
            have HD4 := Lib.hid (HDI.out.step (m := 2 * i + 2) hnf (by omega) (by omega) (by omega) (by omega) HL3.out SIB.out)
            clear hm3 hH3 hW3 hC4 hg4
            go_wp2
            go_roundw
            case rel => exact ⟨2 * i + 2, swp fs i (2 * i + 2), by omega, by go_num, HD4.out, hH4, hW4⟩
            case measure => simp [intOf]; omega
        | false =>
          have SIB := Lib.hid (show ∀ s, 1 ≤ s → s < n → (s - 1) / 2 = i → lessB (kx fs s) (kx fs (2 * i + 1)) = false from fun s h1 h2 h3 => by
            have : s = 2 * i + 1 ∨ s = 2 * i + 2 := by omega
            rcases this with rfl | rfl
            · exact less_irrefl _
            · exact hl2)
          clear hl2
          have hm2 := hH2.mLess
          go_wp2_with fail
          refine (heapLess_at lo g cap fs (2 * i + 1) i _ _ w2 hH2.2.2 (by omega) (by omega) (by omega) rfl).mono ?_
          rintro e w3 ⟨rfl, hb3⟩
          have hH3 := hH2.on hb3
          have hW3 : Within lo top w w3 := hW2.trans (Within.of_below hb3)
          clear hm2 hH2 hW2 hb3
          cases hl3 : lessB (kx fs (2 * i + 1)) (kx fs i) with
          | false =>
            have SS := Lib.hid (show ∀ s, 1 ≤ s → s < n → (s - 1) / 2 = i → lessB (kx fs s) (kx fs i) = false from fun s h1 h2 h3 => le_trans_B hl3 (SIB.out s h1 h2 h3))
            clear hl3
            go_wp2
            go_ret
            exact ⟨⟨_, rfl⟩, fs, hH3, HFL.out, HDI.out.1, HDI.out.2.2.1, HDI.out.stop SS.out, hW3⟩
          | true =>
            have HL3 := Lib.hid hl3
            clear hl3
            have hm3 := hH3.mSwap
            go_wp2_with fail
            refine (heapSwap_at lo g cap fs i (2 * i + 1) _ _ w3 hH3.2.2 (by omega) (by omega) (by omega) rfl (by omega)).mono ?_
            rintro e w4 ⟨⟨v4, rfl⟩, hC4, hg4⟩
            have hH4 : HP w4 lo p g cap (swp fs i (2 * i + 1)) := hH3.turned hC4 (swp_length _ _ _) hg4
            have hW4 : Within lo top w w4 := hW3.trans (Within.of_grown hg4 (.inl ⟨hH3.2.2.lt.1, hgt⟩))
            have HD4 := Lib.hid (HDI.out.step (m := 2 * i + 1) hnf (by omega) (by omega) (by omega) (by omega) HL3.out SIB.out)
            clear hm3 hH3 hW3 hC4 hg4
            go_wp2
            go_roundw
            case rel => exact ⟨2 * i + 1, swp fs i (2 * i + 1), by omega, by go_num, HD4.out, hH4, hW4⟩
            case measure => simp [intOf]; omega
      · have h2d : decide (2 * (i : Int) + 1 + 1 < (n : Int)) = false := by simp; omega
        have SIB := Lib.hid (show ∀ s, 1 ≤ s → s < n → (s - 1) / 2 = i → lessB (kx fs s) (kx fs (2 * i + 1)) = false from fun s h1 h2 h3 => by
          have : s = 2 * i + 1 := by omega
          subst this
          exact less_irrefl _)
        have hm2 := hH.mLess
        go_wp2_with fail
        refine (heapLess_at lo g cap fs (2 * i + 1) i _ _ wr hH.2.2 (by omega) (by omega) (by omega) rfl).mono ?_
        rintro e w3 ⟨rfl, hb3⟩
        have hH3 := hH.on hb3
        have hW3 : Within lo top w w3 := hW.trans (Within.of_below hb3)
        clear hm2 hH hW hb3
        cases hl3 : lessB (kx fs (2 * i + 1)) (kx fs i) with
        | false =>
          have SS := Lib.hid (show ∀ s, 1 ≤ s → s < n → (s - 1) / 2 = i → lessB (kx fs s) (kx fs i) = false from fun s h1 h2 h3 => le_trans_B hl3 (SIB.out s h1 h2 h3))
          clear hl3
          go_wp2
          go_ret
          exact ⟨⟨_, rfl⟩, fs, hH3, HFL.out, HDI.out.1, HDI.out.2.2.1, HDI.out.stop SS.out, hW3⟩
        | true =>
          have HL3 := Lib.hid hl3
          clear hl3
          have hm3 := hH3.mSwap
          go_wp2_with fail
          refine (heapSwap_at lo g cap fs i (2 * i + 1) _ _ w3 hH3.2.2 (by omega) (by omega) (by omega) rfl (by omega)).mono ?_
          rintro e w4 ⟨⟨v4, rfl⟩, hC4, hg4⟩
          have hH4 : HP w4 lo p g cap (swp fs i (2 * i + 1)) := hH3.turned hC4 (swp_length _ _ _) hg4
          have hW4 : Within lo top w w4 := hW3.trans (Within.of_grown hg4 (.inl ⟨hH3.2.2.lt.1, hgt⟩))
          have HD4 := Lib.hid (HDI.out.step (m := 2 * i + 1) hnf (by omega) (by omega) (by omega) (by omega) HL3.out SIB.out)
          clear hm3 hH3 hW3 hC4 hg4
          go_wp2
          go_roundw
          case rel => exact ⟨2 * i + 1, swp fs i (2 * i + 1), by omega, by go_num, HD4.out, hH4, hW4⟩
          case measure => simp [intOf]; omega
    · have hge : (n : Int) ≤ 2 * (i : Int) + 1 := by omega
      have SS := Lib.hid (show ∀ s, 1 ≤ s → s < n → (s - 1) / 2 = i → lessB (kx fs s) (kx fs i) = false from fun s h1 h2 h3 => by omega)
      go_wp2
      go_ret
      exact ⟨⟨_, rfl⟩, fs, hH, HFL.out, HDI.out.1, HDI.out.2.2.1, HDI.out.stop SS.out, hW⟩
end Go.Proofs.Ytjidfoeajnfmdaa

/- Contracts of container/heap over the heap of counts: Init and Pop. For heaps of at most 2^40. -/
namespace Go.Proofs.Ytjidfoeajnfmdaa
open Go.RowKit

theorem down_at (lo top p g cap i0 n : Nat) (x y : Int) (es : List Ent) (w : World) (h : HP w lo p g cap es) (hgt : g < top) (hn : n ≤ es.length) (hi0 : i0 ≤ es.length) (hl : es.length ≤ 1099511627776) (hx : x = (i0 : Int)) (hy : y = (n : Int)) :
    Calls Try.prog 102 #[.iface 106 (.pointer (some ⟨p, 0, none⟩)), .int .i64 x, .int .i64 y] w (Down lo top p g cap i0 n es w) := by
  subst hx hy; exact down_any lo top p g cap i0 n es w h hgt hn hi0 hl
/-- What Init leaves. -/
def Inited (lo top p g cap : Nat) (es : List Ent) (w : World) (e : Ending) (w' : World) : Prop :=
  (∃ v, e = .returned v) ∧ ∃ fs, HP w' lo p g cap fs ∧ fs.length = es.length ∧ fs.Perm es ∧ HF fs es.length 0 ∧ Within lo top w w'
set_option maxRecDepth 100000 in
set_option maxHeartbeats 2000000 in
theorem heapInit_any (lo top p g cap : Nat) (es : List Ent) (w : World) (h : HP w lo p g cap es) (hgt : g < top) (hl : es.length ≤ 1099511627776) :
    Calls Try.prog 88 #[.iface 106 (.pointer (some ⟨p, 0, none⟩))] w (Inited lo top p g cap es w) := by
  have hm := h.mLen
  go_enter Try.func88, Try.ntmps88
  go_wp2_with fail
  refine (heapLen_any _ _ _ w).mono ?_
  rintro e w1 ⟨rfl, rfl⟩
  clear hm
  go_wp2
  go_loopw [3] (fun s wr => ∃ (a : Nat) (fs : List Ent), a ≤ es.length ∧ s = .int .i64 ((a : Int) - 1) ∧ HP wr lo p g cap fs ∧ fs.length = es.length ∧ fs.Perm es ∧ HF fs es.length a ∧ Within lo top w wr) (fun s _ => (intOf s + 1).toNat)
  case atStart => exact ⟨es.length / 2, es, by omega, by rw [show ((es.length / 2 : Nat) : Int) = (es.length : Int) / 2 by omega], h, rfl, List.Perm.refl _, HF.half _ _, Within.refl _ _ _⟩
  case round =>
    obtain ⟨a, fs, ha, rfl, hH, hfl, hpm, hF, hW⟩ := hrel
    have HFL := Lib.hid hfl
    have HPM := Lib.hid hpm
    have HHF := Lib.hid hF
    clear hpm hF
    by_cases h0 : 0 < a
    · have h1 : (0 : Int) ≤ (a : Int) - 1 := by omega
      have h2 : fs.length ≤ 1099511627776 := by omega
      have h3 : es.length ≤ fs.length := by omega
      have h4 : a - 1 ≤ fs.length := by omega
      clear hfl
      go_wp2_with fail
      refine (down_at lo top p g cap (a - 1) es.length _ _ fs wr hH hgt h3 h4 h2 (by omega) rfl).mono ?_
      rintro e w2 ⟨⟨v, rfl⟩, fs2, hH2, hl2, hp2, _, hF2, hb2⟩
      have HL2 := Lib.hid (hl2.trans HFL.out)
      have HP2 := Lib.hid (hp2.trans HPM.out)
      have HF2 := Lib.hid (hF2 (by rw [show a - 1 + 1 = a by omega]; exact HHF.out))
      have hW2 := hW.trans hb2
      clear hl2 hp2 hF2 hb2 hH hW
      go_wp2
      go_roundw
      case rel => exact ⟨a - 1, fs2, by omega, by go_num, hH2, HL2.out, HP2.out, HF2.out, hW2⟩
      case measure => simp [intOf]; omega
    · have ha0 : a = 0 := by omega
      have hd : decide ((0 : Int) ≤ (a : Int) - 1) = false := by simp; omega
      have HA := Lib.hid ha0
      clear ha0 hfl
      go_wp2
      go_end0
      exact ⟨⟨_, rfl⟩, fs, hH, HFL.out, HPM.out, (by have := HHF.out; rwa [HA.out] at this), hW⟩

theorem swp_self (es : List Ent) (i : Nat) (h : i < es.length) : swp es i i = es := by
  unfold swp; rw [ex_eq h]; simp
set_option maxRecDepth 100000 in
set_option maxHeartbeats 1000000 in
theorem heapSwap_same (lo g cap : Nat) (es : List Ent) (i : Nat) (w : World) (h : HC w lo g cap es) (hi : i < es.length) :
    Calls Try.prog 128 #[.slice (some ⟨g, 0, none⟩) es.length cap, .int .i64 i, .int .i64 i] w fun e w' => (∃ v, e = .returned v) ∧ HC w' lo g cap (swp es i i) ∧ w.grownBy w' (some g) := by
  obtain ⟨ci0, ci1, fi0, fi1⟩ := h.cells hi
  go_enter Try.func128, Try.ntmps128
  go_wp2_with fail
  go_region
  have hei := h.2 es[i] (List.getElem_mem hi)
  rw [← ex_eq hi] at hei
  have h1 := h.set hi (ex es i) hei
  have hk1 : Ints ((w.setCell ⟨g, i * 2, none⟩ (.slice (ex es i).A (ex es i).r.length (ex es i).c)).setCell ⟨g, i * 2 + 1, none⟩ (.int .i64 (ex es i).n)) lo (ex es i).A (ex es i).r := hei.1.keep fun p hp => by
    have := h.lt
    rw [World.cell?_setCell_other _ _ _ _ (fun e => by subst e; simp at hp; omega), World.cell?_setCell_other _ _ _ _ (fun e => by subst e; simp at hp; omega)]
  have h2 := h1.set (i := i) (by rw [List.length_set]; exact hi) (ex es i) ⟨hk1, hei.2⟩
  have hg2 : w.grownBy ((((w.setCell ⟨g, i * 2, none⟩ (.slice (ex es i).A (ex es i).r.length (ex es i).c)).setCell ⟨g, i * 2 + 1, none⟩ (.int .i64 (ex es i).n)).setCell ⟨g, i * 2, none⟩ (.slice (ex es i).A (ex es i).r.length (ex es i).c)).setCell ⟨g, i * 2 + 1, none⟩ (.int .i64 (ex es i).n)) (some g) :=
    grown_trans (grown_trans (grown_trans (grown_setCell _ g _ _) (grown_setCell _ g _ _)) (grown_setCell _ g _ _)) (grown_setCell _ g _ _)
  have H2 := Lib.hid h2
  have HG2 := Lib.hid hg2
  clear h1 h2 hg2 hk1 hei
  go_end0
  exact ⟨⟨_, rfl⟩, H2.out, grown_trans HG2.out (grown_drew _ _)⟩
theorem heapSwap_to (lo g cap : Nat) (es : List Ent) (i j : Nat) (x y : Int) (w : World) (h : HC w lo g cap es) (hi : i < es.length) (hj : j < es.length) (hx : x = (i : Int)) (hy : y = (j : Int)) :
    Calls Try.prog 128 #[.slice (some ⟨g, 0, none⟩) es.length cap, .int .i64 x, .int .i64 y] w fun e w' => (∃ v, e = .returned v) ∧ HC w' lo g cap (swp es i j) ∧ w.grownBy w' (some g) := by
  by_cases e : i = j
  · subst e hx hy; exact heapSwap_same lo g cap es i w h hi
  · exact heapSwap_at lo g cap es i j x y w h hi hj e hx hy

theorem HC.take {w : World} {lo g cap : Nat} {es : List Ent} (h : HC w lo g cap es) {k : Nat} (hk : k ≤ es.length) : HC w lo g cap (es.take k) := by
  obtain ⟨cur, h2, h3, h4, h5, h6, h7⟩ := h.parts
  have hl : (es.take k).length = k := by simp; omega
  refine ⟨⟨by rw [entCells_length], .inr ⟨g, cap, cur, rfl, h2, h3, by omega, h5, h6, ?_⟩⟩, fun e he => h.2 e (List.mem_of_mem_take he)⟩
  rw [hl, ← entCells_take es k hk, ← h7, List.take_take, Nat.min_eq_left (by omega)]
set_option maxRecDepth 100000 in
set_option maxHeartbeats 2000000 in
theorem hpPop_any (lo top p g cap n : Nat) (es : List Ent) (w : World) (h : HP w lo p g cap es) (hpt : p < top) (hn : es.length = n + 1) (hl : es.length ≤ 1099511627776) :
    Calls Try.prog 129 #[.pointer (some ⟨p, 0, none⟩)] w fun e w' => e = .returned (.iface 62 (.agg #[.slice (ex es n).A (kx es n).length (ex es n).c, .int .i64 (ex es n).n])) ∧ HP w' lo p g cap (es.take n) ∧ Within lo top w w' := by
  obtain ⟨c0, c1, _, _⟩ := h.2.2.cells (i := n) (by omega)
  have hp0 : w.cell? ⟨p, 0, none⟩ = some (.slice (some ⟨g, 0, none⟩) es.length cap) := h.1.cell 0
  have hpf := h.1.frozen 0
  have hcap : es.length ≤ cap := h.2.2.parts.choose_spec.2.2.1
  have hpl := h.1.lt
  have htl : (es.take n).length = n := by rw [List.length_take]; omega
  have hS : HP (w.setCell ⟨p, 0, none⟩ (.slice (some ⟨g, 0, none⟩) n cap)) lo p g cap (es.take n) := by
    refine ⟨?_, h.2.1, ?_⟩
    · rw [htl]
      have := h.1.set_ 0 (.slice (some ⟨g, 0, none⟩) n cap)
      simpa using this
    · have hc := h.2.2.take (k := n) (by omega)
      have hne := h.ne
      refine ⟨own_keepB hc.1 fun r e => Below.heap_setCell _ _ _ _ (fun e2 => hne (((Option.some.inj e).trans e2).symm)), fun e he => ⟨(hc.2 e he).1.keep fun q hq => World.cell?_setCell_other _ _ _ _ (fun e2 => by subst e2; have := h.2.1; simp at hq; omega), (hc.2 e he).2⟩⟩
  have hH := hS.on ((Below.refl _ _).alloc (Nat.le_refl _) (.cells #[.slice (ex es n).A (kx es n).length (ex es n).c, .int .i64 (ex es n).n] 62))
  have hB : Within lo top w ((w.setCell ⟨p, 0, none⟩ (.slice (some ⟨g, 0, none⟩) n cap)).alloc (.cells #[.slice (ex es n).A (kx es n).length (ex es n).c, .int .i64 (ex es n).n] 62)) := ((Within.refl lo top w).setCell (p := ⟨p, 0, none⟩) ⟨h.2.1, hpt⟩ _).trans (Within.of_below ((Below.refl _ _).alloc (Nat.le_refl _) _))
  have HH := Lib.hid hH
  have HB := Lib.hid hB
  have hni : (es.length : Int) = (n : Int) + 1 := by omega
  have hn0 : (0 : Int) ≤ (n : Int) := by omega
  have hn1 : (n : Int) < (es.length : Int) := by omega
  have hn2 : (n : Int) ≤ (cap : Int) := by omega
  clear hH hB hS h htl
  go_enter Try.func129, Try.ntmps129
  go_wp2
  go_ret
  exact ⟨rfl, HH.out, HB.out⟩

theorem HP.mPop (p : Nat) (w : World) : ∀ fuel, (method (fuel + 1) 106 (.pointer (some ⟨p, 0, none⟩)) "Pop").run Try.prog w = .ok (129, .pointer (some ⟨p, 0, none⟩)) w := fun _ => by kernel_rfl
/-- What Pop leaves: the least comes out. -/
def Popped (lo top p g cap n : Nat) (es : List Ent) (w : World) (e : Ending) (w' : World) : Prop :=
  e = .returned (.iface 62 (.agg #[.slice (ex es 0).A (kx es 0).length (ex es 0).c, .int .i64 (ex es 0).n])) ∧ ∃ fs, HP w' lo p g cap fs ∧ fs.length = n ∧ es.Perm (ex es 0 :: fs) ∧ HF fs n 0 ∧ (∀ f ∈ fs, lessB f.r (kx es 0) = false) ∧ Within lo top w w'
theorem pop_facts {es es2 : List Ent} {n : Nat} (hn : es.length = n + 1) (hF : HF es (n + 1) 0) (hl : es2.length = es.length) (hp : es2.Perm (swp es 0 n)) (hx : ∀ j, n ≤ j → ex es2 j = ex (swp es 0 n) j) (hd : HF (swp es 0 n) n 1 → HF es2 n 0) :
    ex es2 n = ex es 0 ∧ es.Perm (ex es 0 :: es2.take n) ∧ HF (es2.take n) n 0 ∧ ∀ f ∈ es2.take n, lessB f.r (kx es 0) = false := by
  have h0 : 0 < es.length := by omega
  have hnl : n < es.length := by omega
  have hn2 : n < es2.length := by omega
  have e1 : ex es2 n = ex es 0 := by rw [hx n (Nat.le_refl _), ex_swp h0 hnl, if_pos rfl]
  have hper : es.Perm (ex es 0 :: es2.take n) := by
    have a1 : es.Perm es2 := (hp.trans (swp_perm h0 hnl)).symm
    have a2 : es2 = es2.take n ++ [ex es 0] := by
      have := List.take_succ_eq_append_getElem hn2
      rw [List.take_of_length_le (by omega), ← ex_eq hn2, e1] at this
      exact this
    rw [a2] at a1
    exact a1.trans (List.perm_append_singleton _ _)
  have hF1 : HF (swp es 0 n) n 1 := by
    intro j h1 h2 h3
    rw [kx_swp h0 hnl, kx_swp h0 hnl, if_neg (by omega), if_neg (by omega), if_neg (by omega), if_neg (by omega)]
    exact hF j h1 (by omega) (Nat.zero_le _)
  have hF2 := hd hF1
  have hk : ∀ j, j < n → kx (es2.take n) j = kx es2 j := by
    intro j hj
    unfold kx ex
    rw [List.getElem?_take, if_pos hj]
  refine ⟨e1, hper, fun j h1 h2 h3 => ?_, fun f hf => ?_⟩
  · rw [hk j h2, hk _ (by omega)]; exact hF2 j h1 h2 h3
  · have hm : f ∈ es := hper.symm.subset (List.mem_cons_of_mem _ hf)
    obtain ⟨j, hj, rfl⟩ := List.getElem_of_mem hm
    have := heap_min hF j (by omega)
    rwa [show kx es j = es[j].r by unfold kx; rw [ex_eq hj]] at this
set_option maxRecDepth 100000 in
set_option maxHeartbeats 4000000 in
theorem heapPop_any (lo top p g cap n : Nat) (es : List Ent) (w : World) (h : HP w lo p g cap es) (hgt : g < top) (hpt : p < top) (hn : es.length = n + 1) (hF : HF es (n + 1) 0) (hl : es.length ≤ 1099511627776) :
    Calls Try.prog 90 #[.iface 106 (.pointer (some ⟨p, 0, none⟩))] w (Popped lo top p g cap n es w) := by
  have HN := Lib.hid hn
  have HHF := Lib.hid hF
  have hn1 : n < es.length := by omega
  have hn2 : es.length ≤ n + 1 := by omega
  clear hF hn
  have hm := h.mLen
  go_enter Try.func90, Try.ntmps90
  go_wp2_with fail
  refine (heapLen_any _ _ _ w).mono ?_
  rintro e w1 ⟨rfl, rfl⟩
  have hm2 := h.mSwap
  clear hm
  go_wp2_with fail
  refine (heapSwap_to lo g cap es 0 n _ _ w h.2.2 (by omega) hn1 rfl (by omega)).mono ?_
  rintro e w2 ⟨⟨v2, rfl⟩, hC2, hg2⟩
  have hH2 : HP w2 lo p g cap (swp es 0 n) := h.turned hC2 (swp_length _ _ _) hg2
  have hW2 : Within lo top w w2 := Within.of_grown hg2 (.inl ⟨h.2.2.lt.1, hgt⟩)
  have hsl : (swp es 0 n).length = es.length := swp_length _ _ _
  have h3 : n ≤ (swp es 0 n).length := by omega
  have h4 : (swp es 0 n).length ≤ 1099511627776 := by omega
  have HSL := Lib.hid hsl
  clear hm2 h hC2 hg2 hsl
  go_wp2_with fail
  refine (down_at lo top p g cap 0 n _ _ (swp es 0 n) w2 hH2 hgt h3 (Nat.zero_le _) h4 rfl (by omega)).mono ?_
  rintro e w3 ⟨⟨v3, rfl⟩, es3, hH3, hl3, hp3, hx3, hF3, hb3⟩
  have hW3 := hW2.trans hb3
  have hl3' := hl3.trans HSL.out
  obtain ⟨e1, e2, e3, e4⟩ := pop_facts HN.out HHF.out hl3' hp3 hx3 hF3
  have HE1 := Lib.hid e1
  have HE2 := Lib.hid e2
  have HE3 := Lib.hid e3
  have HE4 := Lib.hid e4
  have HL3 := Lib.hid (hl3'.trans HN.out)
  have hl5 : es3.length ≤ 1099511627776 := by omega
  clear e1 e2 e3 e4 hl3 hl3' hp3 hx3 hF3 hb3 hH2 hW2 HSL h3 h4
  have hm4 := HP.mPop p w3
  go_wp2_with fail
  refine (hpPop_any lo top p g cap n es3 w3 hH3 hpt HL3.out hl5).mono ?_
  rintro e w4 ⟨rfl, hH4, hb4⟩
  have hW4 := hW3.trans hb4
  have HK := Lib.hid (show kx es3 n = kx es 0 by unfold kx; rw [HE1.out])
  rw [HK.out, HE1.out]
  clear hm4 hH3 hW3 hb4
  go_wp2
  go_ret
  exact ⟨rfl, es3.take n, hH4, (by rw [List.length_take]; have := HL3.out; omega), HE2.out, HE3.out, HE4.out, hW4⟩
end Go.Proofs.Ytjidfoeajnfmdaa

/- The contract of the program's BagOf: the bag of its rows in memory of its own; nothing that lay has turned. For slices of at most 2^20 rows, each of at most 2^40. -/
namespace Go.Proofs.Ytjidfoeajnfmdaa
open Go.RowKit

theorem make_heap (n : Nat) (hn : n ≤ 1099511627776) (w : World) : (Instr.makeSlice 104 (.int .i64 0) (.int .i64 (n : Int))).run Try.prog w = .ok (.slice (some ⟨w.heap.size, 0, none⟩) 0 n) (w.alloc (.cells (madeCells #[.slice none 0 0, .int .i64 0] (n * 2)) 62)) := by
  obtain ⟨i, hi, hz, hs, hby⟩ := info_parts info_count
  have := run_make (P := Try.prog) w 104 62 i (.agg #[.slice none 0 0, .int .i64 0]) Try.underlying104 hi hz .i64 .i64 0 (n : Int) (by omega) (by omega) (by rw [hby]; omega) (by omega)
  rw [hs] at this
  simpa [Value.cells] using this
/-- The heap with one more count. -/
theorem HC.push {w w' : World} {lo g cap : Nat} {es : List Ent} {v' : Value} {e : Ent} {o : Obj} (h : HC w lo g cap es) (hg : (w.alloc o).grownBy w' (some g)) (hown : w'.ownsRow lo 62 2 v' (es.length + 1) (entCells es ++ e.cells)) (hat : v'.ownBlock = some g ∨ v'.ownBlock = some (w.alloc o).heap.size)
    (he : Ints w lo e.A e.r ∧ e.r.length ≤ 1099511627776 ∧ e.n = 1) : ∃ g' cap', v' = .slice (some ⟨g', 0, none⟩) (es ++ [e]).length cap' ∧ HC w' lo g' cap' (es ++ [e]) := by
  obtain ⟨g', hv⟩ : ∃ g', v'.ownBlock = some g' := by
    rcases hat with h | h
    · exact ⟨_, h⟩
    · exact ⟨_, h⟩
  have hform : ∃ cap', v' = .slice (some ⟨g', 0, none⟩) (es ++ [e]).length cap' := by
    rcases hown.2 with ⟨rfl, _⟩ | ⟨g2, cap2, cur, rfl, _⟩
    · cases hv
    · have e2 : g2 = g' := Option.some.inj hv
      subst e2
      exact ⟨cap2, by simp⟩
  obtain ⟨cap', rfl⟩ := hform
  have hlt := h.lt
  have hk : ∀ p : Addr, p.block < lo → w'.cell? p = w.cell? p := fun p hp => by
    have e1 : w'.heap[p.block]? = (w.alloc o).heap[p.block]? := hg.block _ (by rw [World.size_alloc]; omega) (fun e => by have := Option.some.inj e; omega)
    rw [World.cell?_of_block e1, World.cell?_alloc_lt w o p (by omega)]
  refine ⟨g', cap', rfl, ?_, fun f hf => ?_⟩
  · rw [entCells_append, show entCells [e] = e.cells by simp [entCells], List.length_append, List.length_singleton]
    simpa using hown
  · rcases List.mem_append.1 hf with hf | hf
    · exact ⟨(h.2 f hf).1.keep hk, (h.2 f hf).2⟩
    · obtain rfl := List.mem_singleton.1 hf
      exact ⟨he.1.keep hk, he.2⟩
/-- The variable set anew. -/
theorem HP.put {w : World} {lo p g cap : Nat} {es : List Ent} {cs : Array Value} (hB : Blk w p 104 cs) (hs : cs.size = 1) (hp : lo ≤ p) (hne : p ≠ g) (hc : HC w lo g cap es) : HP (w.setCell ⟨p, 0, none⟩ (.slice (some ⟨g, 0, none⟩) es.length cap)) lo p g cap es := by
  refine ⟨?_, hp, own_keepB hc.1 fun r e => Below.heap_setCell _ _ _ _ (fun e2 => hne ((Option.some.inj e).trans e2).symm), fun e he => ⟨(hc.2 e he).1.keep fun q hq => World.cell?_setCell_other _ _ _ _ (fun e2 => by subst e2; simp at hq; omega), (hc.2 e he).2⟩⟩
  have := hB.set_ 0 (.slice (some ⟨g, 0, none⟩) es.length cap)
  have e1 : cs.setIfInBounds 0 (.slice (some ⟨g, 0, none⟩) es.length cap) = #[.slice (some ⟨g, 0, none⟩) es.length cap] := by
    apply Array.ext_getElem?
    intro i
    rw [Array.getElem?_setIfInBounds]
    by_cases h0 : 0 = i
    · subst h0; simp [hs]
    · rw [if_neg h0, Array.getElem?_eq_none (by omega), Array.getElem?_eq_none (by simp; omega)]
  rwa [e1] at this

/-- The program's bag while the heap is emptied: the rows that came out, in order. -/
theorem last_same {pre : List (List Int)} {r : List Int} (hl : pre.length ≤ 1048576) (hlast : ∀ p ∈ bagOfL pre, lessB r p.1 = false) {m : Nat} (hm : (bagOfL pre).length = m + 1) (he : rx (bagOfL pre) m = r) :
    withL (bagOfL pre) r 1 = (bagOfL pre).take m ++ (r, addW (nx (bagOfL pre) m) 1) :: (bagOfL pre).drop (m + 1) := by
  obtain ⟨h1, h2, h3⟩ := bagOf_facts pre (by omega)
  have hml : m < (bagOfL pre).length := by omega
  have hp : placeL (bagOfL pre) r = m := by
    have hpl := place_le (bagOfL pre) r
    have key : ∀ (b : List (List Int × Int)) (k : Nat), SB b → k < b.length → rx b k = r → placeL b r = k := by
      intro b
      induction b with
      | nil => intro k _ hk; simp at hk
      | cons x bs ih =>
        obtain ⟨q, n⟩ := x
        intro k hs hk hr
        cases k with
        | zero =>
          have : q = r := by simpa [rx] using hr
          subst this
          simp [placeL, less_irrefl]
        | succ k =>
          have hk' : k < bs.length := by simpa using hk
          have e1 : rx ((q, n) :: bs) (k + 1) = rx bs k := by simp [rx]
          rw [e1] at hr
          have hmem : (rx bs k, nx bs k) ∈ bs := by rw [← bag_ix hk']; exact List.getElem_mem hk'
          have hq := (List.pairwise_cons.1 hs).1 _ hmem
          simp only [hr] at hq
          rw [placeL, if_pos hq, ih k (List.pairwise_cons.1 hs).2 hk' hr]
    exact key _ m h1 hml he
  have hn : ¬ addW (nx (bagOfL pre) m) 1 = 0 := by
    have ht := times_at h1 hml
    rw [he, h3] at ht
    have hb := occ_bd pre r
    have hz : nx (bagOfL pre) m ≠ 0 := by
      have hmem : (rx (bagOfL pre) m, nx (bagOfL pre) m) ∈ bagOfL pre := by rw [← bag_ix hml]; exact List.getElem_mem hml
      exact h2 _ hmem
    rw [addW_small (by omega) (by omega) (by omega) (by omega)]
    omega
  exact withL_same hp hml he hn
theorem last_new {pre : List (List Int)} {r : List Int} (hl : pre.length ≤ 1048576) (hlast : ∀ p ∈ bagOfL pre, lessB r p.1 = false) (hne : ∀ m, (bagOfL pre).length = m + 1 → ¬ rx (bagOfL pre) m = r) :
    withL (bagOfL pre) r 1 = bagOfL pre ++ [(r, 1)] := by
  obtain ⟨h1, h2, h3⟩ := bagOf_facts pre (by omega)
  have key : ∀ (b : List (List Int × Int)), SB b → (∀ p ∈ b, lessB r p.1 = false) → (∀ m, b.length = m + 1 → ¬ rx b m = r) → placeL b r = b.length := by
    intro b
    induction b with
    | nil => intros; rfl
    | cons x bs ih =>
      obtain ⟨q, n⟩ := x
      intro hs hle hne
      have hq : lessB q r = true := by
        rcases less_tri q r with e | e | e
        · exact e
        · exfalso
          rcases Nat.eq_zero_or_pos bs.length with h0 | h0
          · exact hne 0 (by simp [h0]) (by simpa [rx] using e)
          · have hmem : (rx bs 0, nx bs 0) ∈ bs := by rw [← bag_ix h0]; exact List.getElem_mem h0
            have := (List.pairwise_cons.1 hs).1 _ hmem
            have h4 := hle _ (List.mem_cons_of_mem _ hmem)
            simp only at this h4
            rw [e] at this
            rw [this] at h4; cases h4
        · have := hle (q, n) (by simp)
          simp only at this
          rw [e] at this; cases this
      rw [placeL, if_pos hq, ih (List.pairwise_cons.1 hs).2 (fun p hp => hle p (List.mem_cons_of_mem _ hp)) (fun m hm hr => hne (m + 1) (by simp [hm]) (by simpa [rx] using hr))]
      rfl
  have hp := key _ h1 hlast hne
  rw [withL_new hp (fun h => by omega) (by decide), List.take_length, List.drop_length]
end Go.Proofs.Ytjidfoeajnfmdaa

/- The contract of the program's BagOf: the bag of its rows in memory of its own; nothing that lay has turned. For slices of at most 2^20 rows, each of at most 2^40. -/
namespace Go.Proofs.Ytjidfoeajnfmdaa
open Go.RowKit

/-- How many the heap's variable holds. -/
def lenAt (p : Nat) (w : World) : Nat := match w.cell? ⟨p, 0, none⟩ with | some (.slice _ n _) => n | _ => 0
theorem HP.len {w : World} {lo p g cap : Nat} {es : List Ent} (h : HP w lo p g cap es) : lenAt p w = es.length := by
  have := h.1.cell 0
  unfold lenAt
  rw [this]; rfl
theorem OBag.top {w w' : World} {lo s : Nat} {v : Value} {es : List Ent} (h : OBag w s v es) (hw : Within lo s w w') : OBag w' s v es :=
  h.keep h.inside fun b h1 h2 => hw.block b h2 (by omega)
theorem HP.far {w w' : World} {lo p g cap gb : Nat} {es : List Ent} (h : HP w lo p g cap es) (hg : w.grownBy w' (some gb)) (h1 : g < gb) (h2 : p < gb) : HP w' lo p g cap es := by
  have hlt := h.2.2.lt
  refine ⟨h.1.grown hg (fun e => by have := Option.some.inj e; omega), h.2.1, own_keepB h.2.2.1 fun r e => hg.block r (h.2.2.1.lt r e).2 (fun e2 => by have : g = r := Option.some.inj e; have := Option.some.inj e2; omega), fun e he => ⟨(h.2.2.2 e he).1.keep fun q hq => ?_, (h.2.2.2 e he).2⟩⟩
  exact World.cell?_of_block (hg.block q.block (by omega) (fun e2 => by have := Option.some.inj e2; have := h.2.1; omega))
theorem slicesEqual_yes (A A' : Option Addr) (c c' : Nat) (zs ys : List Int) (w : World) (B B' : Nat) (hI : Ints w B A zs) (hI' : Ints w B' A' ys) (hl : zs.length ≤ 1099511627776) (hl' : ys.length ≤ 1099511627776) (h : zs = ys) :
    Calls Try.prog 91 #[.slice A zs.length c, .slice A' ys.length c'] w fun e w' => e = .returned (.bool true) ∧ ∃ n, w' = w.drewN n := by rw [← decide_eq_true h]; exact slicesEqual_any A A' c c' zs ys w B B' hI hI' hl hl'
theorem slicesEqual_no (A A' : Option Addr) (c c' : Nat) (zs ys : List Int) (w : World) (B B' : Nat) (hI : Ints w B A zs) (hI' : Ints w B' A' ys) (hl : zs.length ≤ 1099511627776) (hl' : ys.length ≤ 1099511627776) (h : ¬ zs = ys) :
    Calls Try.prog 91 #[.slice A zs.length c, .slice A' ys.length c'] w fun e w' => e = .returned (.bool false) ∧ ∃ n, w' = w.drewN n := by rw [← decide_eq_false h]; exact slicesEqual_any A A' c c' zs ys w B B' hI hI' hl hl'

theorem assert_count (v : Value) (x : TypeId) (w : World) : (Instr.typeAssert (.iface 62 v) x 62 true).run Try.prog w = .ok (.tuple #[v, .bool true]) w := by
  simp [Instr.typeAssert, run_underlying Try.underlying62]

set_option maxRecDepth 100000 in
set_option maxHeartbeats 8000000 in
theorem implBagOf_any (A : Option Addr) (c : Nat) (rows : List (List Int)) (w : World) (hB : Rws w w.heap.size A rows) (hl : rows.length ≤ 1048576) :
    Calls Try.prog 71 #[.slice A rows.length c] w (OwnBag w.heap.size (bagOfL rows) w) := by
  have hta := assert_count
  have HLe := Lib.hid (show ∀ r ∈ rows, r.length ≤ 1099511627776 from fun r hr => by
    obtain ⟨j, hj, rfl⟩ := List.getElem_of_mem hr
    obtain ⟨_, _, _, _, hc⟩ := hB (by omega)
    obtain ⟨_, _, _, _, h4⟩ := hc j hj
    rwa [rr_eq hj] at h4)
  obtain ⟨i0, hi0, hz0, hz1, hz2⟩ := info_parts info_count
  have hmk := make_heap rows.length (by omega) w
  have hE0 : HC (w.alloc (.cells (madeCells #[.slice none 0 0, .int .i64 0] (rows.length * 2)) 62)) w.heap.size w.heap.size rows.length [] := ⟨World.ownsRow_made w _ rows.length (Nat.le_refl _) (by simp only [maxLen]; omega) (size_madeCells _ _), fun e he => by cases he⟩
  have b0 := (Below.refl w.heap.size w).alloc (Nat.le_refl _) (.cells (madeCells #[.slice none 0 0, .int .i64 0] (rows.length * 2)) 62)
  have b1 := b0.alloc b0.size (.cells #[.slice (some ⟨w.heap.size, 0, none⟩) 0 rows.length] 104)
  have hE1 : HP ((w.alloc (.cells (madeCells #[.slice none 0 0, .int .i64 0] (rows.length * 2)) 62)).alloc (.cells #[.slice (some ⟨w.heap.size, 0, none⟩) 0 rows.length] 104)) w.heap.size (w.heap.size + 1) w.heap.size rows.length [] := by
    refine ⟨?_, by omega, hE0.on ((Below.refl _ _).alloc (Nat.le_refl _) _)⟩
    have := Blk.new (w.alloc (.cells (madeCells #[.slice none 0 0, .int .i64 0] (rows.length * 2)) 62)) 104 #[.slice (some ⟨w.heap.size, 0, none⟩) 0 rows.length]
    rwa [World.size_alloc] at this
  clear hE0 b0
  go_enter Try.func71, Try.ntmps71
  go_wp2
  go_loopw [15] (fun s wr => ∃ (k g cap : Nat) (es : List Ent), k ≤ rows.length ∧ s = .int .i64 k ∧ HP wr w.heap.size (w.heap.size + 1) g cap es ∧ es.map Ent.r = rows.take k ∧ Below w.heap.size w wr) (fun s _ => rows.length - (intOf s).toNat)
  case atStart => exact ⟨0, w.heap.size, rows.length, [], Nat.zero_le _, rfl, hE1, rfl, b1⟩
  case round =>
    obtain ⟨k, g, cap, es, hk, rfl, hH, he, hW⟩ := hrel
    have hel : es.length = k := by have := congrArg List.length he; simp at this; omega
    have HE := Lib.hid he
    have HEL := Lib.hid hel
    have hel2 : es.length ≤ 1048576 := by omega
    have hpl := hH.1.lt
    have hp0 : wr.cell? ⟨w.heap.size + 1, 0, none⟩ = some (.slice (some ⟨g, 0, none⟩) es.length cap) := hH.1.cell 0
    have hpf := hH.1.frozen 0
    clear he hel hE1 b1 hmk
    by_cases hlt : k < rows.length
    · obtain ⟨b, off, rfl, hblt, hc⟩ := hB (by omega)
      obtain ⟨Ar, cr, c1, c3, c4⟩ := hc k hlt
      have h1 : wr.cell? ⟨b, off + k, none⟩ = some (.slice Ar (rr rows k).length cr) := (hW.cell hblt).trans c1
      have h3 := c3.below hW
      clear hc c1 c3
      have hw0 : w.heap.size ≤ wr.heap.size := hW.size
      go_wp2_with (at_builtin; refine wpList_append_any _ rfl (.tmp 19) (.tmp 22) 104 rfl w.heap.size 62 i0 _ 2 32 Try.underlying104 hi0 hz0 hz1 hz2 rfl (by decide) _ _ (entCells es) rfl (hH.2.2.1.alloc _) _ (some ⟨wr.heap.size, 0, none⟩) 1 1 [.slice Ar (rr rows k).length cr, .int .i64 1] rfl (reads_new2 wr _ _ _) (by simp [Value.oneCell']) (by simp only [maxLen]; omega) (by omega) (by rw [World.size_alloc]; omega) ?_; intro v2 w2 hown2 hg2 hat2; obtain ⟨g2, cap2, hv2, hC2⟩ := hH.2.2.push (e := ⟨rr rows k, 1, Ar, cr, 0⟩) hg2 hown2 hat2 ⟨h3, c4, rfl⟩; subst hv2; have hB2 := (hH.1.alloc _).grown hg2 (fun e => hH.ne (Option.some.inj e)); have q0 : w2.cell? ⟨w.heap.size + 1, 0, none⟩ = some (.slice (some ⟨g, 0, none⟩) es.length cap) := hB2.cell 0; have qf := hB2.frozen 0)
      have hne2 : w.heap.size + 1 ≠ g2 := by
        intro e
        obtain ⟨cur, _, h3, _⟩ := hC2.parts
        unfold Blk at hB2
        rw [← e, hB2] at h3
        injection h3 with h3
        injection h3 with _ h4 _
        exact absurd h4 (by decide)
      have hH2 := HP.put hB2 rfl (by omega) hne2 hC2
      have hW2 : Below w.heap.size w w2 := (hW.alloc hW.size _).grown hg2 (by rw [World.size_alloc]; omega) (fun r e => by have : g = r := Option.some.inj e; have := hH.2.2.lt; omega)
      have hW3 : Below w.heap.size w (w2.setCell ⟨w.heap.size + 1, 0, none⟩ (.slice (some ⟨g2, 0, none⟩) (es ++ [(⟨rr rows k, 1, Ar, cr, 0⟩ : Ent)]).length cap2)) := hW2.setCell (p := ⟨w.heap.size + 1, 0, none⟩) (by simp) _
      have e1 : (es ++ [(⟨rr rows k, 1, Ar, cr, 0⟩ : Ent)]).length = es.length + 1 := by simp
      rw [e1] at hH2 hW3
      clear e1
      have HE2 := Lib.hid (show (es ++ [(⟨rr rows k, 1, Ar, cr, 0⟩ : Ent)]).map Ent.r = rows.take (k + 1) by rw [List.map_append, HE.out, List.take_succ_eq_append_getElem hlt, rr_eq hlt]; rfl)
      have HH2 := Lib.hid hH2
      clear hown2 hg2 hat2 hC2 hB2 hH hW hW2 q0 qf hH2 hp0 hpf h1 h3
      go_wp2
      go_roundw
      case rel => exact ⟨k + 1, g2, cap2, _, by omega, by go_num, HH2.out, HE2.out, hW3⟩
      case measure => simp [intOf]; omega
    · have hd : decide (k < rows.length) = false := by simpa using hlt
      have HEQ := Lib.hid (show es.map Ent.r = rows by rw [HE.out, List.take_of_length_le (by omega)])
      have hgl := hH.2.2.lt
      clear HE HEL hB hp0 hpf
      go_wp2_with fail
      refine (heapInit_any w.heap.size wr.heap.size (w.heap.size + 1) g cap es wr hH hgl.2 (by omega)).mono ?_
      rintro e w2 ⟨⟨v2, rfl⟩, hs, hH2, hl2, hp2, hF2, hW2⟩
      have hlow : w.heap.size ≤ wr.heap.size := hW.size
      have hb2 : Below w.heap.size w w2 := hW.trans (hW2.bel hlow)
      have hgt : g < w2.heap.size := by have := hW2.size; omega
      have hpt : w.heap.size + 1 < w2.heap.size := by have := hW2.size; omega
      have hE3 := OBag.nil (empty_counts w2)
      have b3 := (Below.refl w2.heap.size w2).alloc (Nat.le_refl _) (.cells #[] 62)
      have hH3 := hH2.on b3
      have hb3 : Below w.heap.size w (w2.alloc (.cells #[] 62)) := hb2.trans (b3.mono hb2.size)
      have HPM := Lib.hid (show rows.Perm ([] ++ hs.map Ent.r) by
        have := (hp2.map Ent.r).symm
        rw [HEQ.out] at this
        simpa using this)
      have HF3 := Lib.hid (show HF hs hs.length 0 by rw [hl2]; exact hF2)
      clear hl2 hp2 hF2 hW2 hH2 hH hW hgl HEQ b3
      go_wp2
      go_loopw [6, 7, 8, 9] (fun v _ _ _ wq => ∃ (gb cb : Nat) (bs hs : List Ent) (pre : List (List Int)), v = .slice (some ⟨gb, 0, none⟩) bs.length cb ∧ HP wq w.heap.size (w.heap.size + 1) g cap hs ∧ HF hs hs.length 0 ∧ OB wq w2.heap.size gb cb bs ∧ bs.map Ent.pair = bagOfL pre ∧ rows.Perm (pre ++ hs.map Ent.r) ∧ (∀ f ∈ hs, ∀ q ∈ bagOfL pre, lessB f.r q.1 = false) ∧ Below w.heap.size w wq) (fun _ _ _ _ wq => lenAt (w.heap.size + 1) wq)
      case atStart => exact ⟨w2.heap.size, 0, [], hs, [], rfl, hH3, HF3.out, hE3, rfl, HPM.out, fun f _ q hq => (by cases hq), hb3⟩
      case round =>
        obtain ⟨gb, cb, bs, ts, pre, rfl, hH, hF, hO, hbs, hpm, hle, hW⟩ := hrel
        have HHF := Lib.hid hF
        have HBS := Lib.hid hbs
        have HPM2 := Lib.hid hpm
        have HLE := Lib.hid hle
        have hlen := hH.len
        have HLEN := Lib.hid hlen
        have hp0 : wr.cell? ⟨w.heap.size + 1, 0, none⟩ = some (.slice (some ⟨g, 0, none⟩) ts.length cap) := hH.1.cell 0
        have hpl := hH.1.lt
        have htot : pre.length + ts.length = rows.length := by have := HPM2.out.length_eq; simp at this; omega
        clear hF hbs hpm hle hlen hH3 hE3 HF3 HPM hb3
        have hgb := hO.lt
        by_cases h0 : 0 < ts.length
        · obtain ⟨n, hn⟩ : ∃ n, ts.length = n + 1 := ⟨ts.length - 1, by omega⟩
          have HN := Lib.hid hn
          have hnb : n < 1048576 := by omega
          have hc0 := hH.2.2.2 ts[0] (List.getElem_mem h0)
          rw [← ex_eq h0] at hc0
          have HMEM := Lib.hid (show ex ts 0 ∈ ts by rw [ex_eq h0]; exact List.getElem_mem h0)
          clear hn
          go_wp2_with fail
          refine (heapLen_any _ _ _ wr).mono ?_
          rintro e w' ⟨rfl, rfl⟩
          go_wp2_with fail
          refine (heapPop_any w.heap.size w2.heap.size (w.heap.size + 1) g cap n ts wr hH hgt hpt HN.out (by rw [← HN.out]; exact HHF.out) (by omega)).mono ?_
          rintro e w4 ⟨rfl, fs, hH4, hfl, hpm4, hF4, hmin, hW4⟩
          have hlr : w.heap.size ≤ wr.heap.size := hW.size
          have hIr := hc0.1.below (hW4.bel hlr)
          have hrl : (kx ts 0).length ≤ 1099511627776 := hc0.2.1
          have hn1 : (ex ts 0).n = 1 := hc0.2.2
          have hIr' : Ints w4 w.heap.size (ex ts 0).A (kx ts 0) := hIr
          rw [hn1]
          have hb4 : Below w.heap.size w w4 := hW.trans (hW4.bel hlr)
          have hO4 : OB w4 w2.heap.size gb cb bs := OBag.top hO hW4
          have hpm5 : rows.Perm ((pre ++ [kx ts 0]) ++ fs.map Ent.r) := by
            have h1 := hpm4.map Ent.r
            rw [List.map_cons] at h1
            refine HPM2.out.trans ?_
            rw [List.append_assoc]
            exact List.Perm.append_left _ h1
          have hle5 : ∀ f ∈ fs, ∀ q ∈ bagOfL (pre ++ [kx ts 0]), lessB f.r q.1 = false := by
            intro f hf q hq
            rw [bagOf_snoc, withL_ins] at hq
            rcases ins_mem hq with hq | hq
            · exact HLE.out f (hpm4.symm.subset (List.mem_cons_of_mem _ hf)) q hq
            · rw [hq]; exact hmin f hf
          have hlast : ∀ q ∈ bagOfL pre, lessB (kx ts 0) q.1 = false := fun q hq => HLE.out _ HMEM.out q hq
          have hprel : pre.length ≤ 1048576 := by omega
          have hF5 : HF fs fs.length 0 := by rw [hfl]; exact hF4
          have hbl : bs.length ≤ 1048576 := by
            have h1 := congrArg List.length HBS.out
            have h2 := bagOf_length pre
            rw [List.length_map] at h1
            omega
          have HBR := Lib.hid (show ∀ e ∈ bs, e.r.length ≤ 1099511627776 from fun e he => bagOf_rows (rows := pre) (fun q hq => HLe.out q (HPM2.out.symm.subset (List.mem_append.2 (.inl hq)))) e.pair (by rw [← HBS.out]; exact List.mem_map_of_mem he))
          have HFL := Lib.hid hfl
          have HF5 := Lib.hid hF5
          have HPM5 := Lib.hid hpm5
          have HLE5 := Lib.hid hle5
          have HLAST := Lib.hid hlast
          have hs4 : w2.heap.size ≤ w4.heap.size := by have := hO4.lt; omega
          clear hIr hc0 hn1 hpm5 hle5 hlast hF5 hF4 hmin hpm4 hfl hW4 hH hO hW hp0 HMEM HLE HPM2 HHF hlr hpl
          generalize kx ts 0 = r at *
          generalize (ex ts 0).A = A0 at *
          generalize (ex ts 0).c = c0 at *
          have b5 := (Below.refl w4.heap.size w4).alloc (Nat.le_refl _) (.cells #[.slice A0 r.length c0, .int .i64 1] 62)
          have BC := Blk.new w4 62 #[.slice A0 r.length c0, .int .i64 1]
          rcases Nat.eq_zero_or_pos bs.length with hb0 | hb0
          · obtain rfl : bs = [] := List.length_eq_zero_iff.1 hb0
            clear hb0
            have LASTNEW := Lib.hid (last_new hprel HLAST.out (fun m hm => by
              have := congrArg List.length HBS.out
              rw [List.length_map, List.length_nil] at this
              omega))
            have hHa := hH4.on b5
            have hOa : OB (w4.alloc (.cells #[.slice A0 r.length c0, .int .i64 1] 62)) w2.heap.size gb cb ([] : List Ent) := OBag.on hO4 b5
            have hba : Below w.heap.size w (w4.alloc (.cells #[.slice A0 r.length c0, .int .i64 1] 62)) := hb4.trans (b5.mono hb4.size)
            have hIa : Ints (w4.alloc (.cells #[.slice A0 r.length c0, .int .i64 1] 62)) (w4.alloc (.cells #[.slice A0 r.length c0, .int .i64 1] 62)).heap.size A0 r := (hIr'.more hb4.size).on b5
            have BCa := BC
            have hlo4a : w2.heap.size ≤ (w4.alloc (.cells #[.slice A0 r.length c0, .int .i64 1] 62)).heap.size := Nat.le_trans hs4 b5.size
            have hlowa : w.heap.size ≤ (w4.alloc (.cells #[.slice A0 r.length c0, .int .i64 1] 62)).heap.size := hba.size
            have hgbG : gb < w4.heap.size := hO4.lt.2
            go_wp2_with fail
            clear hH4 hO4 hb4 hIr' BC b5 hs4
            generalize w4.alloc (.cells #[.slice A0 r.length c0, .int .i64 1] 62) = wa at *
            generalize w4.heap.size = G at *
            have hnG : some G ≠ (Value.slice (some ⟨gb, 0, none⟩) ([] : List Ent).length cb).ownBlock := fun e => by have : G = gb := Option.some.inj e; omega
            go_quiet (fail)
            have hHb : HP (wa.drewN nq) w.heap.size (w.heap.size + 1) g cap fs := hHa
            have hOb : OB (wa.drewN nq) w2.heap.size gb cb ([] : List Ent) := hOa
            have hbb := bel_drewN hba nq
            have hIb : Ints (wa.drewN nq) (wa.drewN nq).heap.size A0 r := hIa
            have BCb := BCa.drewN nq
            have hlo4b : w2.heap.size ≤ (wa.drewN nq).heap.size := hlo4a
            have hlowb : w.heap.size ≤ (wa.drewN nq).heap.size := hlowa
            clear hHa hOa hba hIa BCa hlo4a hlowa
            generalize wa.drewN nq = wb at *
            go_wp2_with fail
            have hlo4 : w2.heap.size ≤ wb.heap.size := hlo4b
            have hGl := BCb.lt
            have d0 : wb.cell? ⟨G, 0, none⟩ = some (.slice A0 r.length c0) := BCb.cell 0
            have d1 : wb.cell? ⟨G, 1, none⟩ = some (.int .i64 1) := BCb.cell 1
            go_region_held3 (fun w' => w'.cell? ⟨G, 0, none⟩ = some (.slice A0 r.length c0) ∧ w'.cell? ⟨G, 1, none⟩ = some (.int .i64 1))
              (first | go_keep | exact ⟨(far_cell (p := ⟨G, 0, none⟩) hb6 hgrow7 hGl hnG).trans d0, (far_cell (p := ⟨G, 1, none⟩) hb6 hgrow7 hGl hnG).trans d1⟩ | exact ⟨(hb6.cell (p := ⟨G, 0, none⟩) hGl).trans d0, (hb6.cell (p := ⟨G, 1, none⟩) hGl).trans d1⟩)
              (first | (refine step_append_any _ rfl (.tmp 62) (.tmp 69) 38 (by rfl) w2.heap.size 62 i0 _ 2 32 Try.underlying38 hi0 hz0 hz1 hz2 rfl (by omega) _ _ (entCells ([] : List Ent)) (by rfl) (hO6.1.alloc _) _ (some ⟨w6.heap.size, 0, none⟩) 1 1 [.slice A6 r.length c6, .int .i64 1] (by rfl) (reads_new2 w6 _ _ _) (by simp [Value.oneCell']) (by simp only [maxLen]; omega) (by omega) (by rw [World.size_alloc]; have hs1 : wb.heap.size ≤ w6.heap.size := hb6.size; omega) ?_; intro v7 w7 hown7 hgrow7 hat7) | (go_at_call 66; refine (copyOfRow_row A0 c0 r _ (by exact hIb) hrl).mono ?_; rintro e w6 ⟨A6, c6, g6, rfl, hg6, hR6, hb6⟩; have hO6 := (OBag.drewN hOb 1).on hb6))
            have hs6 : wb.heap.size ≤ w6.heap.size := hb6.size
            have hO7 : OBag w7 w2.heap.size v7 (([] : List Ent) ++ [⟨r, 1, A6, c6, g6⟩]) := OBag.pushRow hOb rfl hlo4 hg6 hR6 hO6 hown7 hgrow7 hat7
            obtain ⟨g7, hg7⟩ : ∃ g7, v7.ownBlock = some g7 := by
              rcases hat7 with h | h
              · exact ⟨_, h⟩
              · exact ⟨_, h⟩
            obtain ⟨c7, hv7, hOB7⟩ := hO7.ob hg7
            have b67 : Below wb.heap.size wb.drew (w6.alloc (.cells #[.slice A6 r.length c6, .int .i64 1] 62)) := Below.alloc hb6 hs6 _
            have hH7 : HP w7 w.heap.size (w.heap.size + 1) g cap fs := ((show HP wb.drew w.heap.size (w.heap.size + 1) g cap fs from hHb).on b67).far (gb := gb) hgrow7 (by have := hOb.lt; omega) (by have := hOb.lt; omega)
            have hW7 : Below w.heap.size w w7 := ((bel_drewN hbb 1).trans (b67.mono hlowb)).grown hgrow7 (by rw [World.size_alloc]; omega) (fun q e => by have : gb = q := Option.some.inj e; have := hOb.lt; omega)
            have HBS7 := Lib.hid (show (([] : List Ent) ++ [(⟨r, 1, A6, c6, g6⟩ : Ent)]).map Ent.pair = bagOfL (pre ++ [r]) by rw [bagOf_snoc, LASTNEW.out, List.map_append, HBS.out]; rfl)
            have hm7 := hH7.len
            have HM7 := Lib.hid hm7
            have HV7 := Lib.hid hv7
            clear hm7 hv7 hg7 hO7 hown7 hgrow7 hat7 hO6 hR6 hg6 hb6 b67 hHb hOb hbb hIb d0 d1
            go_wp2
            go_roundw
            case rel => exact ⟨g7, c7, _, fs, pre ++ [r], HV7.out, hH7, HF5.out, hOB7, HBS7.out, HPM5.out, HLE5.out, hW7⟩
            case measure => rw [HM7.out, HLEN.out, HFL.out, HN.out]; omega
          · obtain ⟨m, hm⟩ : ∃ m, bs.length = m + 1 := ⟨bs.length - 1, by omega⟩
            have hml : (bs.length : Int) - 1 = (m : Int) := by omega
            have hmlt : m < bs.length := by omega
            have hm0 : (0 : Int) ≤ (m : Int) := by omega
            have hm1 : (m : Int) < (bs.length : Int) := by omega
            have HM := Lib.hid hm
            clear hm
            have hlb : (bagOfL pre).length = m + 1 := by have := congrArg List.length HBS.out; rw [List.length_map, HM.out] at this; exact this.symm
            have HRX := Lib.hid (show rx (bagOfL pre) m = bs[m].r by rw [← HBS.out, rx_map hmlt])
            have HNX := Lib.hid (show nx (bagOfL pre) m = bs[m].n by rw [← HBS.out, nx_map hmlt])
            have HLB := Lib.hid hlb
            have hel := HBR.out bs[m] (List.getElem_mem hmlt)
            clear hlb
            have hHa := hH4.on b5
            have hOa : OB (w4.alloc (.cells #[.slice A0 r.length c0, .int .i64 1] 62)) w2.heap.size gb cb bs := OBag.on hO4 b5
            have hba : Below w.heap.size w (w4.alloc (.cells #[.slice A0 r.length c0, .int .i64 1] 62)) := hb4.trans (b5.mono hb4.size)
            have hIa : Ints (w4.alloc (.cells #[.slice A0 r.length c0, .int .i64 1] 62)) (w4.alloc (.cells #[.slice A0 r.length c0, .int .i64 1] 62)).heap.size A0 r := (hIr'.more hb4.size).on b5
            have BCa := BC
            have hlo4a : w2.heap.size ≤ (w4.alloc (.cells #[.slice A0 r.length c0, .int .i64 1] 62)).heap.size := Nat.le_trans hs4 b5.size
            have hlowa : w.heap.size ≤ (w4.alloc (.cells #[.slice A0 r.length c0, .int .i64 1] 62)).heap.size := hba.size
            have hgbG : gb < w4.heap.size := hO4.lt.2
            obtain ⟨k0, k1, kf⟩ := OBag.cellsAt hOa hmlt
            have hIm := (hOa.2.1 bs[m] (List.getElem_mem hmlt)).1.ints
            have e0 : (w4.alloc (.cells #[.slice A0 r.length c0, .int .i64 1] 62)).cell? ⟨w4.heap.size, 0, none⟩ = some (.slice A0 r.length c0) := BC.cell 0
            by_cases he : bs[m].r = r
            · have HE := Lib.hid he
              clear he
              go_wp2_with fail
              clear hH4 hO4 hb4 hIr' BC b5 hs4
              generalize w4.alloc (.cells #[.slice A0 r.length c0, .int .i64 1] 62) = wa at *
              generalize w4.heap.size = G at *
              have hnG : some G ≠ (Value.slice (some ⟨gb, 0, none⟩) bs.length cb).ownBlock := fun e => by have : G = gb := Option.some.inj e; omega
              go_quiet (first | (go_at_call 91; exact Calls.quiet_of (slicesEqual_yes bs[m].A A0 bs[m].c c0 bs[m].r r _ _ _ (by exact hIm) (by exact hIa) hel hrl HE.out)))
              have k1b : (wa.drewN nq).cell? ⟨gb, m * 2 + 1, none⟩ = some (.int .i64 bs[m].n) := k1
              have kfb : (wa.drewN nq).frozen? ⟨gb, m * 2 + 1, none⟩ = false := kf
              clear k0 k1 kf hIm e0
              have hHb : HP (wa.drewN nq) w.heap.size (w.heap.size + 1) g cap fs := hHa
              have hOb : OB (wa.drewN nq) w2.heap.size gb cb bs := hOa
              have hbb := bel_drewN hba nq
              have hIb : Ints (wa.drewN nq) (wa.drewN nq).heap.size A0 r := hIa
              have BCb := BCa.drewN nq
              have hlo4b : w2.heap.size ≤ (wa.drewN nq).heap.size := hlo4a
              have hlowb : w.heap.size ≤ (wa.drewN nq).heap.size := hlowa
              clear hHa hOa hba hIa BCa hlo4a hlowa
              generalize wa.drewN nq = wb at *
              have d1 : wb.cell? ⟨G, 1, none⟩ = some (.int .i64 1) := BCb.cell 1
              have hadd : IntKind.i64.wrap (bs[m].n + 1) = addW bs[m].n 1 := rfl
              have hadd' : wrap64 (bs[m].n + 1) = addW bs[m].n 1 := by unfold addW; rw [IntKind.wrap_i64, wrap64]
              go_wp2_with fail
              go_region
              have hOs := hOb.setN hmlt (addW bs[m].n 1)
              have hHs := hHb.far (grown_setCell wb gb (m * 2 + 1) (.int .i64 (addW bs[m].n 1))) (by have := hOb.lt; omega) (by have := hOb.lt; omega)
              have hbs : Below w.heap.size w (wb.setCell ⟨gb, m * 2 + 1, none⟩ (.int .i64 (addW bs[m].n 1))) := hbb.setCell (p := ⟨gb, m * 2 + 1, none⟩) (by have := hOb.lt; simp; omega) _
              have HBS7 := Lib.hid (show (bs.set m { bs[m] with n := addW bs[m].n 1 }).map Ent.pair = bagOfL (pre ++ [r]) by
                rw [bagOf_snoc, last_same hprel HLAST.out HLB.out (HRX.out.trans HE.out), pair_setN hmlt, HBS.out, HRX.out, HNX.out, HE.out])
              have HM7 := Lib.hid hHs.len
              clear hOb hHb hbb hIb BCb k1b kfb d1 hadd hadd'
              go_wp2
              go_roundw
              case rel => exact ⟨gb, cb, bs.set m { bs[m] with n := addW bs[m].n 1 }, fs, pre ++ [r], by rw [List.length_set], hHs, HF5.out, hOs, HBS7.out, HPM5.out, HLE5.out, bel_drewN hbs 1⟩
              case measure => rw [show lenAt (w.heap.size + 1) (World.drew (wb.setCell ⟨gb, m * 2 + 1, none⟩ (.int .i64 (addW bs[m].n 1)))) = fs.length from HM7.out, HLEN.out, HFL.out, HN.out]; omega
            · have LASTNEW := Lib.hid (last_new hprel HLAST.out (fun q hq hr => by
                have hqm : q = m := by have := HLB.out; omega
                subst hqm
                exact he (HRX.out.symm.trans hr)))
              have HE := Lib.hid he
              clear he
              go_wp2_with fail
              clear hH4 hO4 hb4 hIr' BC b5 hs4
              generalize w4.alloc (.cells #[.slice A0 r.length c0, .int .i64 1] 62) = wa at *
              generalize w4.heap.size = G at *
              have hnG : some G ≠ (Value.slice (some ⟨gb, 0, none⟩) bs.length cb).ownBlock := fun e => by have : G = gb := Option.some.inj e; omega
              go_quiet (first | (go_at_call 91; exact Calls.quiet_of (slicesEqual_no bs[m].A A0 bs[m].c c0 bs[m].r r _ _ _ (by exact hIm) (by exact hIa) hel hrl HE.out)))
              clear k0 k1 kf hIm e0
              have hHb : HP (wa.drewN nq) w.heap.size (w.heap.size + 1) g cap fs := hHa
              have hOb : OB (wa.drewN nq) w2.heap.size gb cb bs := hOa
              have hbb := bel_drewN hba nq
              have hIb : Ints (wa.drewN nq) (wa.drewN nq).heap.size A0 r := hIa
              have BCb := BCa.drewN nq
              have hlo4b : w2.heap.size ≤ (wa.drewN nq).heap.size := hlo4a
              have hlowb : w.heap.size ≤ (wa.drewN nq).heap.size := hlowa
              clear hHa hOa hba hIa BCa hlo4a hlowa
              generalize wa.drewN nq = wb at *
              go_wp2_with fail
              have hlo4 : w2.heap.size ≤ wb.heap.size := hlo4b
              have hGl := BCb.lt
              have d0 : wb.cell? ⟨G, 0, none⟩ = some (.slice A0 r.length c0) := BCb.cell 0
              have d1 : wb.cell? ⟨G, 1, none⟩ = some (.int .i64 1) := BCb.cell 1
              go_region_held3 (fun w' => w'.cell? ⟨G, 0, none⟩ = some (.slice A0 r.length c0) ∧ w'.cell? ⟨G, 1, none⟩ = some (.int .i64 1))
                (first | go_keep | exact ⟨(far_cell (p := ⟨G, 0, none⟩) hb6 hgrow7 hGl hnG).trans d0, (far_cell (p := ⟨G, 1, none⟩) hb6 hgrow7 hGl hnG).trans d1⟩ | exact ⟨(hb6.cell (p := ⟨G, 0, none⟩) hGl).trans d0, (hb6.cell (p := ⟨G, 1, none⟩) hGl).trans d1⟩)
                (first | (refine step_append_any _ rfl (.tmp 62) (.tmp 69) 38 (by rfl) w2.heap.size 62 i0 _ 2 32 Try.underlying38 hi0 hz0 hz1 hz2 rfl (by omega) _ _ (entCells bs) (by rfl) (hO6.1.alloc _) _ (some ⟨w6.heap.size, 0, none⟩) 1 1 [.slice A6 r.length c6, .int .i64 1] (by rfl) (reads_new2 w6 _ _ _) (by simp [Value.oneCell']) (by simp only [maxLen]; omega) (by omega) (by rw [World.size_alloc]; have hs1 : wb.heap.size ≤ w6.heap.size := hb6.size; omega) ?_; intro v7 w7 hown7 hgrow7 hat7) | (go_at_call 66; refine (copyOfRow_row A0 c0 r _ (by exact hIb) hrl).mono ?_; rintro e w6 ⟨A6, c6, g6, rfl, hg6, hR6, hb6⟩; have hO6 := (OBag.drewN hOb 1).on hb6))
              have hs6 : wb.heap.size ≤ w6.heap.size := hb6.size
              have hO7 : OBag w7 w2.heap.size v7 (bs ++ [⟨r, 1, A6, c6, g6⟩]) := OBag.pushRow hOb rfl hlo4 hg6 hR6 hO6 hown7 hgrow7 hat7
              obtain ⟨g7, hg7⟩ : ∃ g7, v7.ownBlock = some g7 := by
                rcases hat7 with h | h
                · exact ⟨_, h⟩
                · exact ⟨_, h⟩
              obtain ⟨c7, hv7, hOB7⟩ := hO7.ob hg7
              have b67 : Below wb.heap.size wb.drew (w6.alloc (.cells #[.slice A6 r.length c6, .int .i64 1] 62)) := Below.alloc hb6 hs6 _
              have hH7 : HP w7 w.heap.size (w.heap.size + 1) g cap fs := ((show HP wb.drew w.heap.size (w.heap.size + 1) g cap fs from hHb).on b67).far (gb := gb) hgrow7 (by have := hOb.lt; omega) (by have := hOb.lt; omega)
              have hW7 : Below w.heap.size w w7 := ((bel_drewN hbb 1).trans (b67.mono hlowb)).grown hgrow7 (by rw [World.size_alloc]; omega) (fun q e => by have : gb = q := Option.some.inj e; have := hOb.lt; omega)
              have HBS7 := Lib.hid (show (bs ++ [(⟨r, 1, A6, c6, g6⟩ : Ent)]).map Ent.pair = bagOfL (pre ++ [r]) by rw [bagOf_snoc, LASTNEW.out, List.map_append, HBS.out]; rfl)
              have hm7 := hH7.len
              have HM7 := Lib.hid hm7
              have HV7 := Lib.hid hv7
              clear hm7 hv7 hg7 hO7 hown7 hgrow7 hat7 hO6 hR6 hg6 hb6 b67 hHb hOb hbb hIb d0 d1
              go_wp2
              go_roundw
              case rel => exact ⟨g7, c7, _, fs, pre ++ [r], HV7.out, hH7, HF5.out, hOB7, HBS7.out, HPM5.out, HLE5.out, hW7⟩
              case measure => rw [HM7.out, HLEN.out, HFL.out, HN.out]; omega
        · have hd0 : decide (0 < ts.length) = false := by simpa using h0
          have ht0 : ts = [] := List.length_eq_zero_iff.1 (by omega)
          have HT0 := Lib.hid ht0
          clear ht0
          go_wp2_with fail
          refine (heapLen_any _ _ _ wr).mono ?_
          rintro e w' ⟨rfl, rfl⟩
          go_wp2
          go_ret
          refine ⟨gb, cb, bs, rfl, OBag.lower hO (by omega), ?_, hW⟩
          have h1 := HPM2.out
          rw [HT0.out, List.map_nil, List.append_nil] at h1
          rw [HBS.out]
          exact (bagOf_perm h1 (by omega)).symm
end Go.Proofs.Ytjidfoeajnfmdaa
