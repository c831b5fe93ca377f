/- Texts joined: Heap0, Heap1, Heap2, Heap3, Heap4, TogThy, Tog0, Del1, TogI, TogP, BagOf3: contracts and plain facts; each says its own below. -/
import Derived.Test.YtedbjjhkjkpnkaaDoorJB
import Derived.Test.YtedbjjhkjkpnkaaDoorJC
import Derived.Test.YtedbjjhkjkpnkaaDoorJD
/- A method of a value, called through an interface that holds a pointer to it: which function it is, and the receiver read from memory. The types and functions of the program that are named: the heap of counts. -/
namespace Go.Proofs.YtedbjjhkjkpnkaaDoor
open Go.RowKit
theorem wrap_run (P : Program) (t : TypeId) (a : Addr) (s m : String) (w : World) : (Builtin.ssaWrapNilChk_ #[t] t #[.pointer (some a), strVal s, strVal m]).run P w = .ok (.pointer (some a)) w := rfl
theorem load_heap (p n c : Nat) (A : Option Addr) (w : World) (hp : w.cell? ⟨p, 0, none⟩ = some (.slice A n c)) : (loadVar 60 ⟨p, 0, none⟩).run Tryd.prog w = .ok (.slice A n c) w := by
  simp [loadVar, go_sem, hp]
theorem meth_val {P : Program} {t elem : TypeId} {name : String} {f : FuncId} (hu : P.underlying t = some (.pointer elem)) (h : (P.info? t).map (fun i => (i.methods.find? (·.name == name)).map fun m => (m.path.toList.length, m.func)) = some (some (0, some (f, false))))
    (a : Addr) (v : Value) (fuel : Nat) (w : World) (hl : (loadVar elem a).run P w = .ok v w) : (method (fuel + 1) t (.pointer (some a)) name).run P w = .ok (f, v) w := by
  cases hi : P.info? t with
  | none => rw [hi] at h; cases h
  | some i =>
    rw [hi] at h
    simp only [Option.map_some, Option.some.injEq] at h
    cases hm : i.methods.find? (·.name == name) with
    | none => rw [hm] at h; cases h
    | some m =>
      rw [hm] at h
      simp only [Option.map_some, Option.some.injEq, Prod.mk.injEq] at h
      obtain ⟨h1, h2⟩ := h
      have h3 : m.path.toList = [] := List.length_eq_zero_iff.1 h1
      have h4 : m.path = #[] := by simpa using h3
      simp [method, typeInfo, hi, hm, h2, h4, follow, receiverAt, Place.get, run_underlying hu, wrap_run, asAddr, hl]
theorem infoLen : (Tryd.prog.info? 62).map (fun i => (i.methods.find? (·.name == "Len")).map fun m => (m.path.toList.length, m.func)) = some (some (0, some (44, false))) := by kernel_rfl
theorem infoLess : (Tryd.prog.info? 62).map (fun i => (i.methods.find? (·.name == "Less")).map fun m => (m.path.toList.length, m.func)) = some (some (0, some (88, false))) := by kernel_rfl
theorem infoSwap : (Tryd.prog.info? 62).map (fun i => (i.methods.find? (·.name == "Swap")).map fun m => (m.path.toList.length, m.func)) = some (some (0, some (89, false))) := by kernel_rfl
end Go.Proofs.YtedbjjhkjkpnkaaDoor

/- Plain facts on a heap of counts in a list: what a sift down keeps, what it brings; the first is the least. No condition; nothing of the program is named. -/
namespace Go.Proofs.YtedbjjhkjkpnkaaDoor
open Go.RowKit

def noEnt : Ent := ⟨[], 0, none, 0, 0⟩
def ex (es : List Ent) (i : Nat) : Ent := es[i]?.getD noEnt
theorem ex_eq {es : List Ent} {i : Nat} (h : i < es.length) : ex es i = es[i] := by simp [ex, h]
def kx (es : List Ent) (i : Nat) : List Int := (ex es i).r
def swp (es : List Ent) (i j : Nat) : List Ent := (es.set i (ex es j)).set j (ex es i)
theorem swp_length (es : List Ent) (i j : Nat) : (swp es i j).length = es.length := by simp [swp]
theorem ex_swp {es : List Ent} {i j : Nat} (hi : i < es.length) (hj : j < es.length) (k : Nat) : ex (swp es i j) k = if k = j then ex es i else if k = i then ex es j else ex es k := by
  unfold swp ex
  rw [List.getElem?_set, List.getElem?_set]
  by_cases e1 : k = j
  · subst e1
    rw [if_pos rfl, if_pos rfl, if_pos (by simpa using hj)]
    rfl
  · rw [if_neg (Ne.symm e1), if_neg e1]
    by_cases e2 : k = i
    · subst e2
      rw [if_pos rfl, if_pos rfl, if_pos hi]
      rfl
    · rw [if_neg (Ne.symm e2), if_neg e2]
theorem swp_perm {es : List Ent} {i j : Nat} (hi : i < es.length) (hj : j < es.length) : (swp es i j).Perm es := by
  have e : swp es i j = (es.set i es[j]).set j es[i] := by unfold swp; rw [ex_eq hi, ex_eq hj]
  rw [e]
  by_cases hij : i = j
  · subst hij
    simp
  · rcases Nat.lt_or_ge i j with h | h
    · have h1 : es = es.take i ++ es[i] :: (es.drop (i + 1)).take (j - i - 1) ++ es[j] :: es.drop (j + 1) := by
        have a1 := (List.take_append_drop i es).symm
        have a2 := List.drop_eq_getElem_cons hi
        have a3 := (List.take_append_drop (j - i - 1) (es.drop (i + 1))).symm
        rw [List.drop_drop, show i + 1 + (j - i - 1) = j by omega, List.drop_eq_getElem_cons hj] at a3
        rw [a2, a3] at a1
        simpa using a1
      have hl1 : (es.take i).length = i := by simp; omega
      have hl2 : ((es.drop (i + 1)).take (j - i - 1)).length = j - i - 1 := by simp; omega
      have h2 : (es.set i es[j]).set j es[i] = es.take i ++ es[j] :: (es.drop (i + 1)).take (j - i - 1) ++ es[i] :: es.drop (j + 1) := by
        apply List.ext_getElem?
        intro k
        rw [List.getElem?_set, List.getElem?_set]
        simp only [List.append_assoc, List.cons_append, List.length_set]
        by_cases c1 : k < i
        · rw [if_neg (by omega), if_neg (by omega), List.getElem?_append_left (by omega), List.getElem?_take, if_pos c1]
        · rw [List.getElem?_append_right (by omega), hl1]
          by_cases c2 : k = i
          · subst c2; rw [if_neg (by omega), if_pos rfl, if_pos hi]; simp
          · obtain ⟨d, hd⟩ : ∃ d, k - i = d + 1 := ⟨k - i - 1, by omega⟩
            rw [hd, List.getElem?_cons_succ]
            by_cases c3 : k < j
            · rw [if_neg (by omega), if_neg (by omega), List.getElem?_append_left (by omega), List.getElem?_take, if_pos (by omega), List.getElem?_drop]
              congr 1; omega
            · rw [List.getElem?_append_right (by omega), hl2]
              by_cases c4 : k = j
              · subst c4
                rw [if_pos rfl, if_pos hj, show d - (k - i - 1) = 0 by omega]; simp
              · obtain ⟨d', hd'⟩ : ∃ d', d - (j - i - 1) = d' + 1 := ⟨d - (j - i - 1) - 1, by omega⟩
                rw [if_neg (by omega), if_neg (by omega), hd', List.getElem?_cons_succ, List.getElem?_drop]
                congr 1; omega
      rw [h2]
      conv => rhs; rw [h1]
      simp only [List.append_assoc, List.cons_append]
      refine List.Perm.append_left _ ?_
      refine (List.Perm.cons _ List.perm_middle).trans ?_
      refine (List.Perm.swap _ _ _).trans ?_
      exact List.Perm.cons _ List.perm_middle.symm
    · have hlt : j < i := by omega
      have hc : (es.set i es[j]).set j es[i] = (es.set j es[i]).set i es[j] := List.set_comm _ _ (by omega)
      rw [hc]
      have h1 : es = es.take j ++ es[j] :: (es.drop (j + 1)).take (i - j - 1) ++ es[i] :: es.drop (i + 1) := by
        have a1 := (List.take_append_drop j es).symm
        have a2 := List.drop_eq_getElem_cons hj
        have a3 := (List.take_append_drop (i - j - 1) (es.drop (j + 1))).symm
        rw [List.drop_drop, show j + 1 + (i - j - 1) = i by omega, List.drop_eq_getElem_cons hi] at a3
        rw [a2, a3] at a1
        simpa using a1
      have hl1 : (es.take j).length = j := by simp; omega
      have hl2 : ((es.drop (j + 1)).take (i - j - 1)).length = i - j - 1 := by simp; omega
      have h2 : (es.set j es[i]).set i es[j] = es.take j ++ es[i] :: (es.drop (j + 1)).take (i - j - 1) ++ es[j] :: es.drop (i + 1) := by
        apply List.ext_getElem?
        intro k
        rw [List.getElem?_set, List.getElem?_set]
        simp only [List.append_assoc, List.cons_append, List.length_set]
        by_cases c1 : k < j
        · rw [if_neg (by omega), if_neg (by omega), List.getElem?_append_left (by omega), List.getElem?_take, if_pos c1]
        · rw [List.getElem?_append_right (by omega), hl1]
          by_cases c2 : k = j
          · subst c2; rw [if_neg (by omega), if_pos rfl, if_pos hj]; simp
          · obtain ⟨d, hd⟩ : ∃ d, k - j = d + 1 := ⟨k - j - 1, by omega⟩
            rw [hd, List.getElem?_cons_succ]
            by_cases c3 : k < i
            · rw [if_neg (by omega), if_neg (by omega), List.getElem?_append_left (by omega), List.getElem?_take, if_pos (by omega), List.getElem?_drop]
              congr 1; omega
            · rw [List.getElem?_append_right (by omega), hl2]
              by_cases c4 : k = i
              · subst c4
                rw [if_pos rfl, if_pos hi, show d - (k - j - 1) = 0 by omega]; simp
              · obtain ⟨d', hd'⟩ : ∃ d', d - (i - j - 1) = d' + 1 := ⟨d - (i - j - 1) - 1, by omega⟩
                rw [if_neg (by omega), if_neg (by omega), hd', List.getElem?_cons_succ, List.getElem?_drop]
                congr 1; omega
      rw [h2]
      conv => rhs; rw [h1]
      simp only [List.append_assoc, List.cons_append]
      refine List.Perm.append_left _ ?_
      refine (List.Perm.cons _ List.perm_middle).trans ?_
      refine (List.Perm.swap _ _ _).trans ?_
      exact List.Perm.cons _ List.perm_middle.symm

/-- From place a on no child is less than its parent. -/
def HF (es : List Ent) (n a : Nat) : Prop := ∀ j, 1 ≤ j → j < n → a ≤ (j - 1) / 2 → lessB (kx es j) (kx es ((j - 1) / 2)) = false
theorem HF.half (es : List Ent) (n : Nat) : HF es n (n / 2) := fun j _ _ h3 => by omega
/-- What stands while one sifts down from i0, at place i. -/
def DI (es0 : List Ent) (i0 n i : Nat) (es : List Ent) : Prop :=
  es.Perm es0 ∧ es.length = es0.length ∧ (∀ j, n ≤ j → ex es j = ex es0 j) ∧ i0 ≤ i ∧
  (HF es0 n (i0 + 1) → (∀ j, 1 ≤ j → j < n → i0 ≤ (j - 1) / 2 → (j - 1) / 2 ≠ i → lessB (kx es j) (kx es ((j - 1) / 2)) = false) ∧
    (i0 < i → i0 ≤ (i - 1) / 2 ∧ 1 ≤ i ∧ ∀ j, 1 ≤ j → j < n → (j - 1) / 2 = i → lessB (kx es j) (kx es ((i - 1) / 2)) = false))
theorem DI.start (es : List Ent) (i0 n : Nat) : DI es i0 n i0 es :=
  ⟨List.Perm.refl _, rfl, fun _ _ => rfl, Nat.le_refl _, fun h => ⟨fun j h1 h2 h3 h4 => h j h1 h2 (by omega), fun h0 => absurd h0 (Nat.lt_irrefl _)⟩⟩
theorem kx_swp {es : List Ent} {i j : Nat} (hi : i < es.length) (hj : j < es.length) (k : Nat) : kx (swp es i j) k = if k = j then kx es i else if k = i then kx es j else kx es k := by
  unfold kx
  rw [ex_swp hi hj]
  split
  · rfl
  · split <;> rfl
theorem DI.step {es0 es : List Ent} {i0 n i m : Nat} (h : DI es0 i0 n i es) (hn : n ≤ es.length) (hm : m < n) (hc : (m - 1) / 2 = i) (hm1 : 1 ≤ m) (him : i < m) (hl : lessB (kx es m) (kx es i) = true)
    (hs : ∀ s, 1 ≤ s → s < n → (s - 1) / 2 = i → lessB (kx es s) (kx es m) = false) : DI es0 i0 n m (swp es i m) := by
  obtain ⟨h1, h2, h3, h4, h5⟩ := h
  have hil : i < es.length := by omega
  have hml : m < es.length := by omega
  refine ⟨(swp_perm hil hml).trans h1, by rw [swp_length, h2], fun j hj => ?_, by omega, fun hF => ?_⟩
  · rw [ex_swp hil hml, if_neg (by omega), if_neg (by omega)]; exact h3 j hj
  · obtain ⟨hA, hB⟩ := h5 hF
    refine ⟨fun j hj1 hj2 hj3 hj4 => ?_, fun _ => ⟨by omega, hm1, fun j hj1 hj2 hj3 => ?_⟩⟩
    · rw [kx_swp hil hml, kx_swp hil hml]
      rw [if_neg hj4]
      by_cases e1 : j = m
      · subst e1
        rw [if_pos rfl, if_pos hc]
        exact less_asymm hl
      · rw [if_neg e1]
        by_cases e2 : j = i
        · subst e2
          rw [if_pos rfl, if_neg (by omega)]
          obtain ⟨_, _, hB3⟩ := hB (by omega)
          exact hB3 m hm1 hm hc
        · rw [if_neg e2]
          by_cases e3 : (j - 1) / 2 = i
          · rw [if_pos e3]; exact hs j hj1 hj2 e3
          · rw [if_neg e3]; exact hA j hj1 hj2 hj3 e3
    · rw [kx_swp hil hml, kx_swp hil hml, if_neg (by omega), if_neg (by omega), hc, if_neg (by omega), if_pos rfl]
      have := hA j hj1 hj2 (by omega) (by omega)
      rw [hj3] at this
      exact this
theorem DI.stop {es0 es : List Ent} {i0 n i : Nat} (h : DI es0 i0 n i es) (hs : ∀ s, 1 ≤ s → s < n → (s - 1) / 2 = i → lessB (kx es s) (kx es i) = false) (hF : HF es0 n (i0 + 1)) : HF es n i0 := by
  obtain ⟨hA, _⟩ := h.2.2.2.2 hF
  intro j h1 h2 h3
  by_cases e : (j - 1) / 2 = i
  · rw [e]; exact hs j h1 h2 e
  · exact hA j h1 h2 h3 e
theorem heap_min {es : List Ent} {n : Nat} (h : HF es n 0) : ∀ j, j < n → lessB (kx es j) (kx es 0) = false := by
  intro j
  induction j using Nat.strongRecOn with
  | _ j ih =>
    intro hj
    rcases Nat.eq_zero_or_pos j with h0 | h0
    · subst h0; exact less_irrefl _
    · have h1 := ih ((j - 1) / 2) (by omega) (by omega)
      have h2 := h j h0 hj (Nat.zero_le _)
      exact le_trans_B h1 h2
end Go.Proofs.YtedbjjhkjkpnkaaDoor

/- Contracts of the heap of counts: its Len, Less, Swap: what each returns, how the counts stand then. For counts that lie in memory of the call's own, rows of at most 2^40. -/
namespace Go.Proofs.YtedbjjhkjkpnkaaDoor
open Go.RowKit

/-- A row that lies below hi, in another block than g. -/
def RowG (w : World) (hi g : Nat) (A : Option Addr) (zs : List Int) : Prop :=
  0 < zs.length → ∃ b off, A = some ⟨b, off, none⟩ ∧ b < hi ∧ b ≠ g ∧ b < w.heap.size ∧ ∀ j, j < zs.length → w.cell? ⟨b, off + j, none⟩ = some (.int .i64 (ix zs j))
theorem RowG.keep {w w' : World} {hi g : Nat} {A : Option Addr} {zs : List Int} (h : RowG w hi g A zs) (hs : w.heap.size ≤ w'.heap.size) (hk : ∀ p : Addr, p.block < hi → p.block ≠ g → p.block < w.heap.size → w'.cell? p = w.cell? p) : RowG w' hi g A zs := fun hn => by
  obtain ⟨b, off, e, h1, h2, h3, hc⟩ := h hn
  exact ⟨b, off, e, h1, h2, by omega, fun j hj => (hk _ h1 h2 h3).trans (hc j hj)⟩
theorem RowG.on {w w' : World} {hi g : Nat} {A : Option Addr} {zs : List Int} (h : RowG w hi g A zs) (hb : Below w.heap.size w w') : RowG w' hi g A zs := h.keep hb.size fun _ _ _ h3 => hb.cell h3
theorem RowG.ints {w : World} {hi g : Nat} {A : Option Addr} {zs : List Int} (h : RowG w hi g A zs) : Ints w w.heap.size A zs := fun hn => by
  obtain ⟨b, off, e, _, _, h3, hc⟩ := h hn
  exact ⟨b, off, e, h3, hc⟩
theorem RowG.of {w : World} {B hi g : Nat} {A : Option Addr} {zs : List Int} (h : Ints w B A zs) (h1 : B ≤ hi) (h2 : B ≤ w.heap.size) (h3 : B ≤ g) : RowG w hi g A zs := fun hn => by
  obtain ⟨b, off, e, hb, hc⟩ := h hn
  exact ⟨b, off, e, by omega, by omega, by omega, hc⟩
/-- The counts of a heap begin block g; their rows lie below hi, and not in g. -/
def HC (w : World) (lo hi g cap : Nat) (es : List Ent) : Prop :=
  w.ownsRow lo 37 2 (.slice (some ⟨g, 0, none⟩) es.length cap) es.length (entCells es) ∧ ∀ e ∈ es, RowG w hi g e.A e.r ∧ e.r.length ≤ 1099511627776
theorem HC.lt {w : World} {lo hi g cap : Nat} {es : List Ent} (h : HC w lo hi g cap es) : lo ≤ g ∧ g < w.heap.size := h.1.lt g rfl
theorem HC.on {w w' : World} {lo hi g cap : Nat} {es : List Ent} (h : HC w lo hi g cap es) (hb : Below w.heap.size w w') : HC w' lo hi g cap es :=
  ⟨own_keepB h.1 fun r e => hb.block r (h.1.lt r e).2, fun e he => ⟨(h.2 e he).1.on hb, (h.2 e he).2⟩⟩
theorem HC.parts {w : World} {lo hi g cap : Nat} {es : List Ent} (h : HC w lo hi g cap es) : ∃ cur : Array Value, lo ≤ g ∧ w.heap[g]? = some (.cells cur 37 (0, 0)) ∧ es.length ≤ cap ∧ cap ≤ maxLen ∧ cur.size = cap * 2 ∧ cur.toList.take (es.length * 2) = entCells es := by
  rcases h.1.2 with ⟨hv, _⟩ | ⟨g', cap', cur, hv, h2, h3, h4, h5, h6, h7⟩
  · cases hv
  · injection hv with h8 _ h10
    injection h8 with h8
    injection h8 with h8 _ _
    subst h8 h10
    exact ⟨cur, h2, h3, h4, h5, h6, h7⟩
theorem HC.cells {w : World} {lo hi g cap : Nat} {es : List Ent} (h : HC w lo hi g cap es) {i : Nat} (hil : i < es.length) :
    w.cell? ⟨g, i * 2, none⟩ = some (.slice (ex es i).A (kx es i).length (ex es i).c) ∧ w.cell? ⟨g, i * 2 + 1, none⟩ = some (.int .i64 (ex es i).n) ∧ w.frozen? ⟨g, i * 2, none⟩ = false ∧ w.frozen? ⟨g, i * 2 + 1, none⟩ = false := by
  obtain ⟨cur, h2, h3, h4, h5, h6, h7⟩ := h.parts
  have hB : Blk w g 37 cur := h3
  have e0 : ∀ k, k < es.length * 2 → cur[k]? = (entCells es)[k]? := fun k hk => by rw [← h7, List.getElem?_take, if_pos hk, Array.getElem?_toList]
  unfold kx
  rw [ex_eq hil]
  exact ⟨by rw [hB.cell, e0 _ (by omega), entCells_get0 es i hil], by rw [hB.cell, e0 _ (by omega), entCells_get1 es i hil], hB.frozen _, hB.frozen _⟩
theorem entCells_set : ∀ (es : List Ent) (i : Nat) (e : Ent), i < es.length → entCells (es.set i e) = ((entCells es).set (i * 2) (.slice e.A e.r.length e.c)).set (i * 2 + 1) (.int .i64 e.n)
  | f :: es, 0, e, _ => by simp [entCells, Ent.cells]
  | f :: es, i + 1, e, h => by
    have := entCells_set es i e (by simpa using h)
    rw [show (i + 1) * 2 = i * 2 + 2 by omega, show i * 2 + 2 + 1 = i * 2 + 1 + 2 by omega]
    simpa [entCells, Ent.cells] using this
theorem HC.set {w : World} {lo hi g cap : Nat} {es : List Ent} (h : HC w lo hi g cap es) {i : Nat} (hil : i < es.length) (e : Ent) (he : RowG w hi g e.A e.r ∧ e.r.length ≤ 1099511627776) :
    HC ((w.setCell ⟨g, i * 2, none⟩ (.slice e.A e.r.length e.c)).setCell ⟨g, i * 2 + 1, none⟩ (.int .i64 e.n)) lo hi g cap (es.set i e) := by
  obtain ⟨cur, h2, h3, h4, h5, h6, h7⟩ := h.parts
  have hB : Blk w g 37 cur := h3
  have hk : ∀ p : Addr, p.block < hi → p.block ≠ g → p.block < w.heap.size → ((w.setCell ⟨g, i * 2, none⟩ (.slice e.A e.r.length e.c)).setCell ⟨g, i * 2 + 1, none⟩ (.int .i64 e.n)).cell? p = w.cell? p := by
    intro p _ hp _
    rw [World.cell?_setCell_other _ _ _ _ (fun e => by subst e; exact hp rfl), World.cell?_setCell_other _ _ _ _ (fun e => by subst e; exact hp rfl)]
  refine ⟨⟨entCells_length _, .inr ⟨g, cap, _, by rw [List.length_set], h2, (hB.set_ _ _).set_ _ _, by rw [List.length_set]; exact h4, h5, by simpa using h6, ?_⟩⟩, fun f hf => ?_⟩
  · rw [entCells_set es i e hil, ← h7, List.length_set, Array.toList_setIfInBounds, Array.toList_setIfInBounds, List.take_set, List.take_set]
  · rcases List.mem_or_eq_of_mem_set hf with h1 | h1
    · exact ⟨(h.2 f h1).1.keep (by simp) hk, (h.2 f h1).2⟩
    · subst h1; exact ⟨he.1.keep (by simp) hk, he.2⟩

theorem heapLen_any (A : Option Addr) (n c : Nat) (w : World) : Calls Tryd.prog 44 #[.slice A n c] w fun e w' => e = .returned (.int .i64 n) ∧ w = w' := by
  go_enter Tryd.func44, Tryd.ntmps44
  go_wp2
  go_ret
  exact ⟨rfl, rfl⟩
set_option maxRecDepth 100000 in
set_option maxHeartbeats 1000000 in
theorem heapLess_any (lo hi g cap : Nat) (es : List Ent) (i j : Nat) (w : World) (h : HC w lo hi g cap es) (hil : i < es.length) (hj : j < es.length) :
    Calls Tryd.prog 88 #[.slice (some ⟨g, 0, none⟩) es.length cap, .int .i64 i, .int .i64 j] w fun e w' => e = .returned (.bool (lessB (kx es i) (kx es j))) ∧ Below w.heap.size w w' := by
  obtain ⟨ci, _, _, _⟩ := h.cells hil
  obtain ⟨cj, _, _, _⟩ := h.cells hj
  have hlo : lo ≤ w.heap.size := by have := h.lt; omega
  have hei := h.2 es[i] (List.getElem_mem hil)
  have hej := h.2 es[j] (List.getElem_mem hj)
  rw [← ex_eq hil] at hei
  rw [← ex_eq hj] at hej
  have i1 : Ints w.drew w.drew.heap.size (ex es i).A (kx es i) := hei.1.ints
  have i2 : Ints w.drew w.drew.heap.size (ex es j).A (kx es j) := hej.1.ints
  have l1 : (kx es i).length ≤ 1099511627776 := hei.2
  have l2 : (kx es j).length ≤ 1099511627776 := hej.2
  have hbd : Below w.heap.size w w.drew := bel_drewN (Below.refl _ _) 1
  go_enter Tryd.func88, Tryd.ntmps88
  go_wp2_with fail
  go_still_tail 10, (by kernel_rfl)
  change wpList _ _ _ _ _ w.drew
  clear ci cj hei hej h
  generalize w.drew = wd at *
  go_wp2_with fail
  refine (implRowLess_any _ _ _ _ (kx es i) (kx es j) l1 l2 wd i1 i2).mono ?_
  rintro e w1 ⟨rfl, hb1⟩
  have hb := hbd.trans (hb1.mono hbd.size)
  go_wp2
  go_ret
  exact ⟨rfl, hb⟩
set_option maxRecDepth 100000 in
set_option maxHeartbeats 1000000 in
theorem heapSwap_any (lo hi g cap : Nat) (es : List Ent) (i j : Nat) (w : World) (h : HC w lo hi g cap es) (hil : i < es.length) (hj : j < es.length) (hij : i ≠ j) :
    Calls Tryd.prog 89 #[.slice (some ⟨g, 0, none⟩) es.length cap, .int .i64 i, .int .i64 j] w fun e w' => (∃ v, e = .returned v) ∧ HC w' lo hi g cap (swp es i j) ∧ w.grownBy w' (some g) := by
  obtain ⟨ci0, ci1, fi0, fi1⟩ := h.cells hil
  obtain ⟨cj0, cj1, fj0, fj1⟩ := h.cells hj
  go_enter Tryd.func89, Tryd.ntmps89
  go_wp2_with fail
  go_region
  have hei := h.2 es[i] (List.getElem_mem hil)
  have hej := h.2 es[j] (List.getElem_mem hj)
  rw [← ex_eq hil] at hei
  rw [← ex_eq hj] at hej
  have h1 := h.set hil (ex es j) hej
  have hk1 : RowG ((w.setCell ⟨g, i * 2, none⟩ (.slice (ex es j).A (ex es j).r.length (ex es j).c)).setCell ⟨g, i * 2 + 1, none⟩ (.int .i64 (ex es j).n)) hi g (ex es i).A (ex es i).r := hei.1.keep (by simp) fun p _ hp _ => by
    rw [World.cell?_setCell_other _ _ _ _ (fun e => by subst e; exact hp rfl), World.cell?_setCell_other _ _ _ _ (fun e => by subst e; exact hp rfl)]
  have h2 := h1.set (i := j) (by rw [List.length_set]; exact hj) (ex es i) ⟨hk1, hei.2⟩
  have hg2 : w.grownBy ((((w.setCell ⟨g, i * 2, none⟩ (.slice (ex es j).A (ex es j).r.length (ex es j).c)).setCell ⟨g, i * 2 + 1, none⟩ (.int .i64 (ex es j).n)).setCell ⟨g, j * 2, none⟩ (.slice (ex es i).A (ex es i).r.length (ex es i).c)).setCell ⟨g, j * 2 + 1, none⟩ (.int .i64 (ex es i).n)) (some g) :=
    grown_trans (grown_trans (grown_trans (grown_setCell _ g _ _) (grown_setCell _ g _ _)) (grown_setCell _ g _ _)) (grown_setCell _ g _ _)
  have H2 := Lib.hid h2
  have HG2 := Lib.hid hg2
  clear h1 h2 hg2 hk1 hei hej
  go_end0
  exact ⟨⟨_, rfl⟩, H2.out, grown_trans HG2.out (grown_drew _ _)⟩
end Go.Proofs.YtedbjjhkjkpnkaaDoor

/- Contracts of container/heap over the heap of counts: down, Init, Pop: how the counts stand then, and which one comes out. For heaps of at most 2^40. -/
namespace Go.Proofs.YtedbjjhkjkpnkaaDoor
open Go.RowKit

/-- The heap's variable, block p, and its counts. -/
def HP (w : World) (lo hi p g cap : Nat) (es : List Ent) : Prop :=
  Blk w p 60 #[.slice (some ⟨g, 0, none⟩) es.length cap] ∧ (lo ≤ p ∧ hi ≤ p) ∧ HC w lo hi g cap es
theorem HP.ne {w : World} {lo hi p g cap : Nat} {es : List Ent} (h : HP w lo hi p g cap es) : p ≠ g := by
  intro e
  obtain ⟨cur, _, h3, _⟩ := h.2.2.parts
  have h1 := h.1
  unfold Blk at h1
  rw [e, h3] at h1
  injection h1 with h1
  injection h1 with _ h2 _
  exact absurd h2 (by decide)
theorem HP.on {w w' : World} {lo hi p g cap : Nat} {es : List Ent} (h : HP w lo hi p g cap es) (hb : Below w.heap.size w w') : HP w' lo hi p g cap es := ⟨h.1.below hb h.1.lt, h.2.1, h.2.2.on hb⟩
theorem HP.turned {w w' : World} {lo hi p g cap : Nat} {es es' : List Ent} (h : HP w lo hi p g cap es) (hc : HC w' lo hi g cap es') (hl : es'.length = es.length) (hg : w.grownBy w' (some g)) : HP w' lo hi p g cap es' :=
  ⟨by rw [hl]; exact h.1.grown hg (fun e => h.ne (Option.some.inj e)), h.2.1, hc⟩
theorem HP.lo {w : World} {lo hi p g cap : Nat} {es : List Ent} (h : HP w lo hi p g cap es) : lo ≤ w.heap.size := by have := h.1.lt; have := h.2.1; omega
theorem HP.mLen {w : World} {lo hi p g cap : Nat} {es : List Ent} (h : HP w lo hi p g cap es) : ∀ fuel, (method (fuel + 1) 62 (.pointer (some ⟨p, 0, none⟩)) "Len").run Tryd.prog w = .ok (44, .slice (some ⟨g, 0, none⟩) es.length cap) w :=
  fun fuel => meth_val Tryd.underlying62 infoLen _ _ fuel w (load_heap p es.length cap _ w (h.1.cell 0))
theorem HP.mLess {w : World} {lo hi p g cap : Nat} {es : List Ent} (h : HP w lo hi p g cap es) : ∀ fuel, (method (fuel + 1) 62 (.pointer (some ⟨p, 0, none⟩)) "Less").run Tryd.prog w = .ok (88, .slice (some ⟨g, 0, none⟩) es.length cap) w :=
  fun fuel => meth_val Tryd.underlying62 infoLess _ _ fuel w (load_heap p es.length cap _ w (h.1.cell 0))
theorem HP.mSwap {w : World} {lo hi p g cap : Nat} {es : List Ent} (h : HP w lo hi p g cap es) : ∀ fuel, (method (fuel + 1) 62 (.pointer (some ⟨p, 0, none⟩)) "Swap").run Tryd.prog w = .ok (89, .slice (some ⟨g, 0, none⟩) es.length cap) w :=
  fun fuel => meth_val Tryd.underlying62 infoSwap _ _ fuel w (load_heap p es.length cap _ w (h.1.cell 0))

theorem heapLess_at (lo hi g cap : Nat) (es : List Ent) (i j : Nat) (x y : Int) (w : World) (h : HC w lo hi g cap es) (hil : i < es.length) (hj : j < es.length) (hx : x = (i : Int)) (hy : y = (j : Int)) :
    Calls Tryd.prog 88 #[.slice (some ⟨g, 0, none⟩) es.length cap, .int .i64 x, .int .i64 y] w fun e w' => e = .returned (.bool (lessB (kx es i) (kx es j))) ∧ Below w.heap.size w w' := by
  subst hx hy; exact heapLess_any lo hi g cap es i j w h hil hj
theorem heapSwap_at (lo hi g cap : Nat) (es : List Ent) (i j : Nat) (x y : Int) (w : World) (h : HC w lo hi g cap es) (hil : i < es.length) (hj : j < es.length) (hij : i ≠ j) (hx : x = (i : Int)) (hy : y = (j : Int)) :
    Calls Tryd.prog 89 #[.slice (some ⟨g, 0, none⟩) es.length cap, .int .i64 x, .int .i64 y] w fun e w' => (∃ v, e = .returned v) ∧ HC w' lo hi g cap (swp es i j) ∧ w.grownBy w' (some g) := by
  subst hx hy; exact heapSwap_any lo hi g cap es i j w h hil hj hij
theorem Within.of_below {lo top : Nat} {w w' : World} (h : Below w.heap.size w w') : Within lo top w w' := ⟨h.os, h.tape, h.output, h.size, fun b hb _ => h.block b hb⟩
/-- What a sift down from i0 leaves. -/
def Down (lo hi top p g cap i0 n : Nat) (es : List Ent) (w : World) (e : Ending) (w' : World) : Prop :=
  (∃ v, e = .returned v) ∧ ∃ es', HP w' lo hi p g cap es' ∧ es'.length = es.length ∧ es'.Perm es ∧ (∀ j, n ≤ j → ex es' j = ex es j) ∧ (HF es n (i0 + 1) → HF es' n i0) ∧ Within lo top w w'

set_option maxRecDepth 100000 in
set_option maxHeartbeats 8000000 in
theorem down_any (lo hi top p g cap i0 n : Nat) (es : List Ent) (w : World) (h : HP w lo hi p g cap es) (hgt : g < top) (hn : n ≤ es.length) (hi0 : i0 ≤ es.length) (hl : es.length ≤ 1099511627776) :
    Calls Tryd.prog 56 #[.iface 62 (.pointer (some ⟨p, 0, none⟩)), .int .i64 i0, .int .i64 n] w (Down lo hi top p g cap i0 n es w) := by
  go_enter Tryd.func56, Tryd.ntmps56
  go_wp2
  go_loopw [7] (fun s wr => ∃ (i : Nat) (fs : List Ent), i ≤ es.length ∧ s = .int .i64 i ∧ DI es i0 n i fs ∧ HP wr lo hi p g cap fs ∧ Within lo top w wr) (fun s _ => n - (intOf s).toNat)
  case atStart => exact ⟨i0, es, hi0, rfl, DI.start es i0 n, h, Within.refl _ _ _⟩
  case round =>
    obtain ⟨i, fs, hib, rfl, hD, hH, hW⟩ := hrel
    have hfl : fs.length = es.length := hD.2.1
    have HFL := Lib.hid hfl
    have HDI := Lib.hid hD
    have hnf : n ≤ fs.length := by omega
    clear hD hfl h
    by_cases hlt : 2 * i + 1 < n
    · have hd1 : decide ((n : Int) ≤ 2 * (i : Int) + 1) = false := by simp; omega
      have h10 : ¬ (2 * (i : Int) + 1 < 0) := by omega
      by_cases h2n : 2 * i + 2 < n
      · have h2i : 2 * (i : Int) + 1 + 1 < (n : Int) := by omega
        have hm1 := hH.mLess
        go_wp2_with fail
        refine (heapLess_at lo hi g cap fs (2 * i + 2) (2 * i + 1) _ _ wr hH.2.2 (by omega) (by omega) (by omega) (by omega)).mono ?_
        rintro e w2 ⟨rfl, hb2⟩
        have hH2 := hH.on hb2
        have hW2 : Within lo top w w2 := hW.trans (Within.of_below hb2)
        clear hm1 hH hW hb2
        cases hl2 : lessB (kx fs (2 * i + 2)) (kx fs (2 * i + 1)) with
        | true =>
          have SIB := Lib.hid (show ∀ s, 1 ≤ s → s < n → (s - 1) / 2 = i → lessB (kx fs s) (kx fs (2 * i + 2)) = false from fun s h1 h2 h3 => by
            have : s = 2 * i + 1 ∨ s = 2 * i + 2 := by omega
            rcases this with rfl | rfl
            · exact less_asymm hl2
            · exact less_irrefl _)
          clear hl2
          have hm2 := hH2.mLess
          go_wp2_with fail
          refine (heapLess_at lo hi g cap fs (2 * i + 2) i _ _ w2 hH2.2.2 (by omega) (by omega) (by omega) rfl).mono ?_
          rintro e w3 ⟨rfl, hb3⟩
          have hH3 := hH2.on hb3
          have hW3 : Within lo top w w3 := hW2.trans (Within.of_below hb3)
          clear hm2 hH2 hW2 hb3
          cases hl3 : lessB (kx fs (2 * i + 2)) (kx fs i) with
          | false =>
            have SS := Lib.hid (show ∀ s, 1 ≤ s → s < n → (s - 1) / 2 = i → lessB (kx fs s) (kx fs i) = false from fun s h1 h2 h3 => le_trans_B hl3 (SIB.out s h1 h2 h3))
            clear hl3
            go_wp2
            go_ret
            exact ⟨⟨_, rfl⟩, fs, hH3, HFL.out, HDI.out.1, HDI.out.2.2.1, HDI.out.stop SS.out, hW3⟩
          | true =>
            have HL3 := Lib.hid hl3
            clear hl3
            have hm3 := hH3.mSwap
            go_wp2_with fail
            refine (heapSwap_at lo hi g cap fs i (2 * i + 2) _ _ w3 hH3.2.2 (by omega) (by omega) (by omega) rfl (by omega)).mono ?_
            rintro e w4 ⟨⟨v4, rfl⟩, hC4, hg4⟩
            have hH4 : HP w4 lo hi p g cap (swp fs i (2 * i + 2)) := hH3.turned hC4 (swp_length _ _ _) hg4
            have hW4 : Within lo top w w4 := hW3.trans (Within.of_grown hg4 (.inl ⟨hH3.2.2.lt.1, hgt⟩))
            have HD4 := Lib.hid (HDI.out.step (m := 2 * i + 2) hnf (by omega) (by omega) (by omega) (by omega) HL3.out SIB.out)
            clear hm3 hH3 hW3 hC4 hg4
            go_wp2
            go_roundw
            case rel => exact ⟨2 * i + 2, swp fs i (2 * i + 2), by omega, by go_num, HD4.out, hH4, hW4⟩
            case measure => simp [intOf]; omega
        | false =>
          have SIB := Lib.hid (show ∀ s, 1 ≤ s → s < n → (s - 1) / 2 = i → lessB (kx fs s) (kx fs (2 * i + 1)) = false from fun s h1 h2 h3 => by
            have : s = 2 * i + 1 ∨ s = 2 * i + 2 := by omega
            rcases this with rfl | rfl
            · exact less_irrefl _
            · exact hl2)
          clear hl2
          have hm2 := hH2.mLess
          go_wp2_with fail
          refine (heapLess_at lo hi g cap fs (2 * i + 1) i _ _ w2 hH2.2.2 (by omega) (by omega) (by omega) rfl).mono ?_
          rintro e w3 ⟨rfl, hb3⟩
          have hH3 := hH2.on hb3
          have hW3 : Within lo top w w3 := hW2.trans (Within.of_below hb3)
          clear hm2 hH2 hW2 hb3
          cases hl3 : lessB (kx fs (2 * i + 1)) (kx fs i) with
          | false =>
            have SS := Lib.hid (show ∀ s, 1 ≤ s → s < n → (s - 1) / 2 = i → lessB (kx fs s) (kx fs i) = false from fun s h1 h2 h3 => le_trans_B hl3 (SIB.out s h1 h2 h3))
            clear hl3
            go_wp2
            go_ret
            exact ⟨⟨_, rfl⟩, fs, hH3, HFL.out, HDI.out.1, HDI.out.2.2.1, HDI.out.stop SS.out, hW3⟩
          | true =>
            have HL3 := Lib.hid hl3
            clear hl3
            have hm3 := hH3.mSwap
            go_wp2_with fail
            refine (heapSwap_at lo hi g cap fs i (2 * i + 1) _ _ w3 hH3.2.2 (by omega) (by omega) (by omega) rfl (by omega)).mono ?_
            rintro e w4 ⟨⟨v4, rfl⟩, hC4, hg4⟩
            have hH4 : HP w4 lo hi p g cap (swp fs i (2 * i + 1)) := hH3.turned hC4 (swp_length _ _ _) hg4
            have hW4 : Within lo top w w4 := hW3.trans (Within.of_grown hg4 (.inl ⟨hH3.2.2.lt.1, hgt⟩))
            have HD4 := Lib.hid (HDI.out.step (m := 2 * i + 1) hnf (by omega) (by omega) (by omega) (by omega) HL3.out SIB.out)
            clear hm3 hH3 hW3 hC4 hg4
            go_wp2
            go_roundw
            case rel => exact ⟨2 * i + 1, swp fs i (2 * i + 1), by omega, by go_num, HD4.out, hH4, hW4⟩
            case measure => simp [intOf]; omega
      · have h2d : decide (2 * (i : Int) + 1 + 1 < (n : Int)) = false := by simp; omega
        have SIB := Lib.hid (show ∀ s, 1 ≤ s → s < n → (s - 1) / 2 = i → lessB (kx fs s) (kx fs (2 * i + 1)) = false from fun s h1 h2 h3 => by
          have : s = 2 * i + 1 := by omega
          subst this
          exact less_irrefl _)
        have hm2 := hH.mLess
        go_wp2_with fail
        refine (heapLess_at lo hi g cap fs (2 * i + 1) i _ _ wr hH.2.2 (by omega) (by omega) (by omega) rfl).mono ?_
        rintro e w3 ⟨rfl, hb3⟩
        have hH3 := hH.on hb3
        have hW3 : Within lo top w w3 := hW.trans (Within.of_below hb3)
        clear hm2 hH hW hb3
        cases hl3 : lessB (kx fs (2 * i + 1)) (kx fs i) with
        | false =>
          have SS := Lib.hid (show ∀ s, 1 ≤ s → s < n → (s - 1) / 2 = i → lessB (kx fs s) (kx fs i) = false from fun s h1 h2 h3 => le_trans_B hl3 (SIB.out s h1 h2 h3))
          clear hl3
          go_wp2
          go_ret
          exact ⟨⟨_, rfl⟩, fs, hH3, HFL.out, HDI.out.1, HDI.out.2.2.1, HDI.out.stop SS.out, hW3⟩
        | true =>
          have HL3 := Lib.hid hl3
          clear hl3
          have hm3 := hH3.mSwap
          go_wp2_with fail
          refine (heapSwap_at lo hi g cap fs i (2 * i + 1) _ _ w3 hH3.2.2 (by omega) (by omega) (by omega) rfl (by omega)).mono ?_
          rintro e w4 ⟨⟨v4, rfl⟩, hC4, hg4⟩
          have hH4 : HP w4 lo hi p g cap (swp fs i (2 * i + 1)) := hH3.turned hC4 (swp_length _ _ _) hg4
          have hW4 : Within lo top w w4 := hW3.trans (Within.of_grown hg4 (.inl ⟨hH3.2.2.lt.1, hgt⟩))
          have HD4 := Lib.hid (HDI.out.step (m := 2 * i + 1) hnf (by omega) (by omega) (by omega) (by omega) HL3.out SIB.out)
          clear hm3 hH3 hW3 hC4 hg4
          go_wp2
          go_roundw
          case rel => exact ⟨2 * i + 1, swp fs i (2 * i + 1), by omega, by go_num, HD4.out, hH4, hW4⟩
          case measure => simp [intOf]; omega
    · have hge : (n : Int) ≤ 2 * (i : Int) + 1 := by omega
      have SS := Lib.hid (show ∀ s, 1 ≤ s → s < n → (s - 1) / 2 = i → lessB (kx fs s) (kx fs i) = false from fun s h1 h2 h3 => by omega)
      go_wp2
      go_ret
      exact ⟨⟨_, rfl⟩, fs, hH, HFL.out, HDI.out.1, HDI.out.2.2.1, HDI.out.stop SS.out, hW⟩
end Go.Proofs.YtedbjjhkjkpnkaaDoor

/- Contracts of container/heap over the heap of counts: Init and Pop. For heaps of at most 2^40. -/
namespace Go.Proofs.YtedbjjhkjkpnkaaDoor
open Go.RowKit

theorem down_at (lo hi top p g cap i0 n : Nat) (x y : Int) (es : List Ent) (w : World) (h : HP w lo hi p g cap es) (hgt : g < top) (hn : n ≤ es.length) (hi0 : i0 ≤ es.length) (hl : es.length ≤ 1099511627776) (hx : x = (i0 : Int)) (hy : y = (n : Int)) :
    Calls Tryd.prog 56 #[.iface 62 (.pointer (some ⟨p, 0, none⟩)), .int .i64 x, .int .i64 y] w (Down lo hi top p g cap i0 n es w) := by
  subst hx hy; exact down_any lo hi top p g cap i0 n es w h hgt hn hi0 hl
/-- What Init leaves. -/
def Inited (lo hi top p g cap : Nat) (es : List Ent) (w : World) (e : Ending) (w' : World) : Prop :=
  (∃ v, e = .returned v) ∧ ∃ fs, HP w' lo hi p g cap fs ∧ fs.length = es.length ∧ fs.Perm es ∧ HF fs es.length 0 ∧ Within lo top w w'
set_option maxRecDepth 100000 in
set_option maxHeartbeats 2000000 in
theorem heapInit_any (lo hi top p g cap : Nat) (es : List Ent) (w : World) (h : HP w lo hi p g cap es) (hgt : g < top) (hl : es.length ≤ 1099511627776) :
    Calls Tryd.prog 43 #[.iface 62 (.pointer (some ⟨p, 0, none⟩))] w (Inited lo hi top p g cap es w) := by
  have hm := h.mLen
  go_enter Tryd.func43, Tryd.ntmps43
  go_wp2_with fail
  refine (heapLen_any _ _ _ w).mono ?_
  rintro e w1 ⟨rfl, rfl⟩
  clear hm
  go_wp2
  go_loopw [3] (fun s wr => ∃ (a : Nat) (fs : List Ent), a ≤ es.length ∧ s = .int .i64 ((a : Int) - 1) ∧ HP wr lo hi p g cap fs ∧ fs.length = es.length ∧ fs.Perm es ∧ HF fs es.length a ∧ Within lo top w wr) (fun s _ => (intOf s + 1).toNat)
  case atStart => exact ⟨es.length / 2, es, by omega, by rw [show ((es.length / 2 : Nat) : Int) = (es.length : Int) / 2 by omega], h, rfl, List.Perm.refl _, HF.half _ _, Within.refl _ _ _⟩
  case round =>
    obtain ⟨a, fs, ha, rfl, hH, hfl, hpm, hF, hW⟩ := hrel
    have HFL := Lib.hid hfl
    have HPM := Lib.hid hpm
    have HHF := Lib.hid hF
    clear hpm hF
    by_cases h0 : 0 < a
    · have h1 : (0 : Int) ≤ (a : Int) - 1 := by omega
      have h2 : fs.length ≤ 1099511627776 := by omega
      have h3 : es.length ≤ fs.length := by omega
      have h4 : a - 1 ≤ fs.length := by omega
      clear hfl
      go_wp2_with fail
      refine (down_at lo hi top p g cap (a - 1) es.length _ _ fs wr hH hgt h3 h4 h2 (by omega) rfl).mono ?_
      rintro e w2 ⟨⟨v, rfl⟩, fs2, hH2, hl2, hp2, _, hF2, hb2⟩
      have HL2 := Lib.hid (hl2.trans HFL.out)
      have HP2 := Lib.hid (hp2.trans HPM.out)
      have HF2 := Lib.hid (hF2 (by rw [show a - 1 + 1 = a by omega]; exact HHF.out))
      have hW2 := hW.trans hb2
      clear hl2 hp2 hF2 hb2 hH hW
      go_wp2
      go_roundw
      case rel => exact ⟨a - 1, fs2, by omega, by go_num, hH2, HL2.out, HP2.out, HF2.out, hW2⟩
      case measure => simp [intOf]; omega
    · have ha0 : a = 0 := by omega
      have hd : decide ((0 : Int) ≤ (a : Int) - 1) = false := by simp; omega
      have HA := Lib.hid ha0
      clear ha0 hfl
      go_wp2
      go_end0
      exact ⟨⟨_, rfl⟩, fs, hH, HFL.out, HPM.out, (by have := HHF.out; rwa [HA.out] at this), hW⟩

theorem swp_self (es : List Ent) (i : Nat) (h : i < es.length) : swp es i i = es := by
  unfold swp; rw [ex_eq h]; simp
set_option maxRecDepth 100000 in
set_option maxHeartbeats 1000000 in
theorem heapSwap_same (lo hi g cap : Nat) (es : List Ent) (i : Nat) (w : World) (h : HC w lo hi g cap es) (hil : i < es.length) :
    Calls Tryd.prog 89 #[.slice (some ⟨g, 0, none⟩) es.length cap, .int .i64 i, .int .i64 i] w fun e w' => (∃ v, e = .returned v) ∧ HC w' lo hi g cap (swp es i i) ∧ w.grownBy w' (some g) := by
  obtain ⟨ci0, ci1, fi0, fi1⟩ := h.cells hil
  go_enter Tryd.func89, Tryd.ntmps89
  go_wp2_with fail
  go_region
  have hei := h.2 es[i] (List.getElem_mem hil)
  rw [← ex_eq hil] at hei
  have h1 := h.set hil (ex es i) hei
  have hk1 : RowG ((w.setCell ⟨g, i * 2, none⟩ (.slice (ex es i).A (ex es i).r.length (ex es i).c)).setCell ⟨g, i * 2 + 1, none⟩ (.int .i64 (ex es i).n)) hi g (ex es i).A (ex es i).r := hei.1.keep (by simp) fun p _ hp _ => by
    rw [World.cell?_setCell_other _ _ _ _ (fun e => by subst e; exact hp rfl), World.cell?_setCell_other _ _ _ _ (fun e => by subst e; exact hp rfl)]
  have h2 := h1.set (i := i) (by rw [List.length_set]; exact hil) (ex es i) ⟨hk1, hei.2⟩
  have hg2 : w.grownBy ((((w.setCell ⟨g, i * 2, none⟩ (.slice (ex es i).A (ex es i).r.length (ex es i).c)).setCell ⟨g, i * 2 + 1, none⟩ (.int .i64 (ex es i).n)).setCell ⟨g, i * 2, none⟩ (.slice (ex es i).A (ex es i).r.length (ex es i).c)).setCell ⟨g, i * 2 + 1, none⟩ (.int .i64 (ex es i).n)) (some g) :=
    grown_trans (grown_trans (grown_trans (grown_setCell _ g _ _) (grown_setCell _ g _ _)) (grown_setCell _ g _ _)) (grown_setCell _ g _ _)
  have H2 := Lib.hid h2
  have HG2 := Lib.hid hg2
  clear h1 h2 hg2 hk1 hei
  go_end0
  exact ⟨⟨_, rfl⟩, H2.out, grown_trans HG2.out (grown_drew _ _)⟩
theorem heapSwap_to (lo hi g cap : Nat) (es : List Ent) (i j : Nat) (x y : Int) (w : World) (h : HC w lo hi g cap es) (hil : i < es.length) (hj : j < es.length) (hx : x = (i : Int)) (hy : y = (j : Int)) :
    Calls Tryd.prog 89 #[.slice (some ⟨g, 0, none⟩) es.length cap, .int .i64 x, .int .i64 y] w fun e w' => (∃ v, e = .returned v) ∧ HC w' lo hi g cap (swp es i j) ∧ w.grownBy w' (some g) := by
  by_cases e : i = j
  · subst e hx hy; exact heapSwap_same lo hi g cap es i w h hil
  · exact heapSwap_at lo hi g cap es i j x y w h hil hj e hx hy

theorem HC.take {w : World} {lo hi g cap : Nat} {es : List Ent} (h : HC w lo hi g cap es) {k : Nat} (hk : k ≤ es.length) : HC w lo hi g cap (es.take k) := by
  obtain ⟨cur, h2, h3, h4, h5, h6, h7⟩ := h.parts
  have hl : (es.take k).length = k := by simp; omega
  refine ⟨⟨by rw [entCells_length], .inr ⟨g, cap, cur, rfl, h2, h3, by omega, h5, h6, ?_⟩⟩, fun e he => h.2 e (List.mem_of_mem_take he)⟩
  rw [hl, ← entCells_take es k hk, ← h7, List.take_take, Nat.min_eq_left (by omega)]
set_option maxRecDepth 100000 in
set_option maxHeartbeats 2000000 in
theorem hpPop_any (lo hi top p g cap n : Nat) (es : List Ent) (w : World) (h : HP w lo hi p g cap es) (hpt : p < top) (hn : es.length = n + 1) (hl : es.length ≤ 1099511627776) :
    Calls Tryd.prog 90 #[.pointer (some ⟨p, 0, none⟩)] w fun e w' => e = .returned (.iface 37 (.agg #[.slice (ex es n).A (kx es n).length (ex es n).c, .int .i64 (ex es n).n])) ∧ HP w' lo hi p g cap (es.take n) ∧ RowG w' hi g (ex es n).A (kx es n) ∧ Within lo top w w' := by
  obtain ⟨c0, c1, _, _⟩ := h.2.2.cells (i := n) (by omega)
  have hp0 : w.cell? ⟨p, 0, none⟩ = some (.slice (some ⟨g, 0, none⟩) es.length cap) := h.1.cell 0
  have hpf := h.1.frozen 0
  have hcap : es.length ≤ cap := h.2.2.parts.choose_spec.2.2.1
  have hpl := h.1.lt
  have htl : (es.take n).length = n := by rw [List.length_take]; omega
  have hS : HP (w.setCell ⟨p, 0, none⟩ (.slice (some ⟨g, 0, none⟩) n cap)) lo hi p g cap (es.take n) := by
    refine ⟨?_, h.2.1, ?_⟩
    · rw [htl]
      have := h.1.set_ 0 (.slice (some ⟨g, 0, none⟩) n cap)
      simpa using this
    · have hc := h.2.2.take (k := n) (by omega)
      have hne := h.ne
      refine ⟨own_keepB hc.1 fun r e => Below.heap_setCell _ _ _ _ (fun e2 => hne (((Option.some.inj e).trans e2).symm)), fun e he => ⟨(hc.2 e he).1.keep (by simp) fun q hq _ _ => World.cell?_setCell_other _ _ _ _ (fun e2 => by subst e2; have := h.2.1; simp at hq; omega), (hc.2 e he).2⟩⟩
  have hRn : RowG w hi g (ex es n).A (kx es n) := by
    have := (h.2.2.2 es[n] (List.getElem_mem (by omega))).1
    rw [← ex_eq (show n < es.length by omega)] at this
    exact this
  have hRS : RowG (w.setCell ⟨p, 0, none⟩ (.slice (some ⟨g, 0, none⟩) n cap)) hi g (ex es n).A (kx es n) := hRn.keep (by simp) fun q hq _ _ => World.cell?_setCell_other _ _ _ _ (fun e2 => by subst e2; have := h.2.1; simp at hq; omega)
  have hRH := hRS.on ((Below.refl _ _).alloc (Nat.le_refl _) (.cells #[.slice (ex es n).A (kx es n).length (ex es n).c, .int .i64 (ex es n).n] 37))
  have hH := hS.on ((Below.refl _ _).alloc (Nat.le_refl _) (.cells #[.slice (ex es n).A (kx es n).length (ex es n).c, .int .i64 (ex es n).n] 37))
  have hB : Within lo top w ((w.setCell ⟨p, 0, none⟩ (.slice (some ⟨g, 0, none⟩) n cap)).alloc (.cells #[.slice (ex es n).A (kx es n).length (ex es n).c, .int .i64 (ex es n).n] 37)) := ((Within.refl lo top w).setCell (p := ⟨p, 0, none⟩) ⟨h.2.1.1, hpt⟩ _).trans (Within.of_below ((Below.refl _ _).alloc (Nat.le_refl _) _))
  have HH := Lib.hid hH
  have HB := Lib.hid hB
  have HR := Lib.hid hRH
  have hni : (es.length : Int) = (n : Int) + 1 := by omega
  have hn0 : (0 : Int) ≤ (n : Int) := by omega
  have hn1 : (n : Int) < (es.length : Int) := by omega
  have hn2 : (n : Int) ≤ (cap : Int) := by omega
  clear hH hB hS h htl hRn hRS hRH
  go_enter Tryd.func90, Tryd.ntmps90
  go_wp2
  go_ret
  exact ⟨rfl, HH.out, HR.out, HB.out⟩

theorem HP.mPop (p : Nat) (w : World) : ∀ fuel, (method (fuel + 1) 62 (.pointer (some ⟨p, 0, none⟩)) "Pop").run Tryd.prog w = .ok (90, .pointer (some ⟨p, 0, none⟩)) w := fun _ => by kernel_rfl
/-- What Pop leaves: the least comes out. -/
def Popped (lo hi top p g cap n : Nat) (es : List Ent) (w : World) (e : Ending) (w' : World) : Prop :=
  e = .returned (.iface 37 (.agg #[.slice (ex es 0).A (kx es 0).length (ex es 0).c, .int .i64 (ex es 0).n])) ∧ ∃ fs, HP w' lo hi p g cap fs ∧ fs.length = n ∧ es.Perm (ex es 0 :: fs) ∧ HF fs n 0 ∧ (∀ f ∈ fs, lessB f.r (kx es 0) = false) ∧ RowG w' hi g (ex es 0).A (kx es 0) ∧ Within lo top w w'
theorem pop_facts {es es2 : List Ent} {n : Nat} (hn : es.length = n + 1) (hF : HF es (n + 1) 0) (hl : es2.length = es.length) (hp : es2.Perm (swp es 0 n)) (hx : ∀ j, n ≤ j → ex es2 j = ex (swp es 0 n) j) (hd : HF (swp es 0 n) n 1 → HF es2 n 0) :
    ex es2 n = ex es 0 ∧ es.Perm (ex es 0 :: es2.take n) ∧ HF (es2.take n) n 0 ∧ ∀ f ∈ es2.take n, lessB f.r (kx es 0) = false := by
  have h0 : 0 < es.length := by omega
  have hnl : n < es.length := by omega
  have hn2 : n < es2.length := by omega
  have e1 : ex es2 n = ex es 0 := by rw [hx n (Nat.le_refl _), ex_swp h0 hnl, if_pos rfl]
  have hper : es.Perm (ex es 0 :: es2.take n) := by
    have a1 : es.Perm es2 := (hp.trans (swp_perm h0 hnl)).symm
    have a2 : es2 = es2.take n ++ [ex es 0] := by
      have := List.take_succ_eq_append_getElem hn2
      rw [List.take_of_length_le (by omega), ← ex_eq hn2, e1] at this
      exact this
    rw [a2] at a1
    exact a1.trans (List.perm_append_singleton _ _)
  have hF1 : HF (swp es 0 n) n 1 := by
    intro j h1 h2 h3
    rw [kx_swp h0 hnl, kx_swp h0 hnl, if_neg (by omega), if_neg (by omega), if_neg (by omega), if_neg (by omega)]
    exact hF j h1 (by omega) (Nat.zero_le _)
  have hF2 := hd hF1
  have hk : ∀ j, j < n → kx (es2.take n) j = kx es2 j := by
    intro j hj
    unfold kx ex
    rw [List.getElem?_take, if_pos hj]
  refine ⟨e1, hper, fun j h1 h2 h3 => ?_, fun f hf => ?_⟩
  · rw [hk j h2, hk _ (by omega)]; exact hF2 j h1 h2 h3
  · have hm : f ∈ es := hper.symm.subset (List.mem_cons_of_mem _ hf)
    obtain ⟨j, hj, rfl⟩ := List.getElem_of_mem hm
    have := heap_min hF j (by omega)
    rwa [show kx es j = es[j].r by unfold kx; rw [ex_eq hj]] at this
set_option maxRecDepth 100000 in
set_option maxHeartbeats 4000000 in
theorem heapPop_any (lo hi top p g cap n : Nat) (es : List Ent) (w : World) (h : HP w lo hi p g cap es) (hgt : g < top) (hpt : p < top) (hn : es.length = n + 1) (hF : HF es (n + 1) 0) (hl : es.length ≤ 1099511627776) :
    Calls Tryd.prog 45 #[.iface 62 (.pointer (some ⟨p, 0, none⟩))] w (Popped lo hi top p g cap n es w) := by
  have HN := Lib.hid hn
  have HHF := Lib.hid hF
  have hn1 : n < es.length := by omega
  have hn2 : es.length ≤ n + 1 := by omega
  clear hF hn
  have hm := h.mLen
  go_enter Tryd.func45, Tryd.ntmps45
  go_wp2_with fail
  refine (heapLen_any _ _ _ w).mono ?_
  rintro e w1 ⟨rfl, rfl⟩
  have hm2 := h.mSwap
  clear hm
  go_wp2_with fail
  refine (heapSwap_to lo hi g cap es 0 n _ _ w h.2.2 (by omega) hn1 rfl (by omega)).mono ?_
  rintro e w2 ⟨⟨v2, rfl⟩, hC2, hg2⟩
  have hH2 : HP w2 lo hi p g cap (swp es 0 n) := h.turned hC2 (swp_length _ _ _) hg2
  have hW2 : Within lo top w w2 := Within.of_grown hg2 (.inl ⟨h.2.2.lt.1, hgt⟩)
  have hsl : (swp es 0 n).length = es.length := swp_length _ _ _
  have h3 : n ≤ (swp es 0 n).length := by omega
  have h4 : (swp es 0 n).length ≤ 1099511627776 := by omega
  have HSL := Lib.hid hsl
  clear hm2 h hC2 hg2 hsl
  go_wp2_with fail
  refine (down_at lo hi top p g cap 0 n _ _ (swp es 0 n) w2 hH2 hgt h3 (Nat.zero_le _) h4 rfl (by omega)).mono ?_
  rintro e w3 ⟨⟨v3, rfl⟩, es3, hH3, hl3, hp3, hx3, hF3, hb3⟩
  have hW3 := hW2.trans hb3
  have hl3' := hl3.trans HSL.out
  obtain ⟨e1, e2, e3, e4⟩ := pop_facts HN.out HHF.out hl3' hp3 hx3 hF3
  have HE1 := Lib.hid e1
  have HE2 := Lib.hid e2
  have HE3 := Lib.hid e3
  have HE4 := Lib.hid e4
  have HL3 := Lib.hid (hl3'.trans HN.out)
  have hl5 : es3.length ≤ 1099511627776 := by omega
  clear e1 e2 e3 e4 hl3 hl3' hp3 hx3 hF3 hb3 hH2 hW2 HSL h3 h4
  have hm4 := HP.mPop p w3
  go_wp2_with fail
  refine (hpPop_any lo hi top p g cap n es3 w3 hH3 hpt HL3.out hl5).mono ?_
  rintro e w4 ⟨rfl, hH4, hR4, hb4⟩
  have hW4 := hW3.trans hb4
  have HK := Lib.hid (show kx es3 n = kx es 0 by unfold kx; rw [HE1.out])
  rw [HK.out, HE1.out] at hR4 ⊢
  have HR4 := Lib.hid hR4
  clear hm4 hH3 hW3 hb4 hR4
  go_wp2
  go_ret
  exact ⟨rfl, es3.take n, hH4, (by rw [List.length_take]; have := HL3.out; omega), HE2.out, HE3.out, HE4.out, HR4.out, hW4⟩
end Go.Proofs.YtedbjjhkjkpnkaaDoor

/- Plain facts: counts of any N brought together, in whatever order; and the walk along sorted counts. No condition. -/
namespace Go.Proofs.YtedbjjhkjkpnkaaDoor

/-- All counts together. -/
def togL (ps : List (List Int × Int)) : List (List Int × Int) := ps.foldl (fun b p => withL b p.1 p.2) []
theorem tog_snoc (ps : List (List Int × Int)) (p : List Int × Int) : togL (ps ++ [p]) = withL (togL ps) p.1 p.2 := by simp [togL]
theorem tog_append (ps qs : List (List Int × Int)) : togL (ps ++ qs) = qs.foldl (fun b p => withL b p.1 p.2) (togL ps) := by simp [togL]
/-- All N of a row. -/
def sumZ (ps : List (List Int × Int)) (s : List Int) : Int := ((ps.filter fun p => decide (p.1 = s)).map Prod.snd).sum
theorem sumZ_nil (s : List Int) : sumZ [] s = 0 := rfl
theorem sumZ_append (ps qs : List (List Int × Int)) (s : List Int) : sumZ (ps ++ qs) s = sumZ ps s + sumZ qs s := by
  unfold sumZ; rw [List.filter_append, List.map_append, List.sum_append]
theorem sumZ_one (p : List Int × Int) (s : List Int) : sumZ [p] s = if s = p.1 then p.2 else 0 := by
  unfold sumZ
  by_cases e : s = p.1
  · rw [if_pos e, List.filter_cons_of_pos (by simpa using e.symm)]; simp
  · rw [if_neg e, List.filter_cons_of_neg (by simpa using Ne.symm e)]; simp
theorem sumZ_snoc (ps : List (List Int × Int)) (p : List Int × Int) (s : List Int) : sumZ (ps ++ [p]) s = sumZ ps s + if s = p.1 then p.2 else 0 := by
  rw [sumZ_append, sumZ_one]
theorem int_perm_sum {a b : List Int} (h : a.Perm b) : a.sum = b.sum := by
  induction h with
  | nil => rfl
  | cons x _ ih => rw [List.sum_cons, List.sum_cons, ih]
  | swap x y l => rw [List.sum_cons, List.sum_cons, List.sum_cons, List.sum_cons]; omega
  | trans _ _ i1 i2 => rw [i1, i2]
theorem sumZ_perm {ps qs : List (List Int × Int)} (h : ps.Perm qs) (s : List Int) : sumZ ps s = sumZ qs s := int_perm_sum ((h.filter _).map _)
theorem sumZ_none {ps : List (List Int × Int)} {s : List Int} (h : ∀ p ∈ ps, p.1 ≠ s) : sumZ ps s = 0 := by
  unfold sumZ
  rw [List.filter_eq_nil_iff.2 (fun p hp => by simpa using h p hp)]; rfl
def W64 (x : Int) : Int := addW 0 x
theorem W64_add (x y : Int) : addW (W64 x) y = W64 (x + y) := by
  unfold W64 addW; rw [IntKind.wrap_i64, IntKind.wrap_i64, IntKind.wrap_i64]; omega
theorem W64_W64 (x : Int) : W64 (W64 x) = W64 x := by
  unfold W64 addW; rw [IntKind.wrap_i64, IntKind.wrap_i64]; omega
theorem W64_zero : W64 0 = 0 := by unfold W64 addW; rw [IntKind.wrap_i64]; omega
theorem W64_small {x : Int} (h0 : -4611686018427387904 ≤ x) (h1 : x ≤ 4611686018427387903) : W64 x = x := by
  unfold W64; rw [addW_small (by omega) (by omega) h0 h1]; omega
/-- Numbers as the machine holds them. -/
def N64 (ps : List (List Int × Int)) : Prop := ∀ p ∈ ps, addW 0 p.2 = p.2
theorem list_snoc_ind {α : Type} {P : List α → Prop} (h0 : P []) (h1 : ∀ l x, P l → P (l ++ [x])) (l : List α) : P l := by
  have key : ∀ m : List α, P m.reverse := by
    intro m
    induction m with
    | nil => exact h0
    | cons x m ih => rw [List.reverse_cons]; exact h1 _ _ ih
  have := key l.reverse
  rwa [List.reverse_reverse] at this
theorem tog_facts : ∀ ps : List (List Int × Int), N64 ps → SB (togL ps) ∧ NZ (togL ps) ∧ ∀ s, timesL (togL ps) s = W64 (sumZ ps s) := by
  refine list_snoc_ind ?_ ?_
  · intro _
    exact ⟨List.Pairwise.nil, (fun p hp => by cases hp), fun s => by rw [sumZ_nil, W64_zero]; rfl⟩
  · intro ps p ih hN
    obtain ⟨h1, h2, h3⟩ := ih fun q hq => hN q (List.mem_append.2 (.inl hq))
    have hn := hN p (by simp)
    rw [tog_snoc, withL_ins]
    refine ⟨ins_sb h1, ins_nz h2, fun s => ?_⟩
    rw [ins_times hn h1, h3, h3, sumZ_snoc]
    by_cases e : s = p.1
    · rw [if_pos e, if_pos e, e, W64_add]
    · rw [if_neg e, if_neg e, Int.add_zero]
theorem tog_perm {ps qs : List (List Int × Int)} (h : ps.Perm qs) (hN : N64 ps) : togL ps = togL qs := by
  obtain ⟨a1, a2, a3⟩ := tog_facts ps hN
  obtain ⟨b1, b2, b3⟩ := tog_facts qs fun q hq => hN q (h.symm.subset hq)
  exact canon a1 b1 a2 b2 fun s => by rw [a3, b3, sumZ_perm h]
theorem tog_length (ps : List (List Int × Int)) : (togL ps).length ≤ ps.length := by
  refine list_snoc_ind (P := fun ps => (togL ps).length ≤ ps.length) (by simp [togL]) ?_ ps
  intro ps p ih
  rw [tog_snoc, List.length_append, List.length_singleton]
  have := withL_length (bag := togL ps) (row := p.1) (n := p.2)
  omega
theorem tog_mem {ps : List (List Int × Int)} : ∀ p ∈ togL ps, ∃ q ∈ ps, p.1 = q.1 := by
  refine list_snoc_ind (P := fun ps => ∀ p ∈ togL ps, ∃ q ∈ ps, p.1 = q.1) (fun p hp => by cases hp) ?_ ps
  intro ps p ih r hr
  rw [tog_snoc, withL_ins] at hr
  rcases ins_mem hr with h | h
  · obtain ⟨q, hq, e⟩ := ih r h
    exact ⟨q, List.mem_append.2 (.inl hq), e⟩
  · exact ⟨p, by simp, h⟩
theorem tog_rows {ps : List (List Int × Int)} {m : Nat} (h : ∀ p ∈ ps, p.1.length ≤ m) : ∀ p ∈ togL ps, p.1.length ≤ m := fun p hp => by
  obtain ⟨q, hq, e⟩ := tog_mem p hp
  rw [e]; exact h q hq

/-- Sorted counts, those of a row in one: how they stand while the heap is emptied. -/
def CL (bs pre : List (List Int × Int)) : Prop := SB bs ∧ (∀ s, timesL bs s = W64 (sumZ pre s)) ∧ (∀ p ∈ bs, ∃ q ∈ pre, p.1 = q.1) ∧ bs.length ≤ pre.length
theorem CL.nil : CL [] [] := ⟨List.Pairwise.nil, fun s => by rw [sumZ_nil, W64_zero]; rfl, (fun p hp => by cases hp), Nat.le_refl _⟩
theorem last_less {bs : List (List Int × Int)} (hs : SB bs) {m : Nat} (hm : bs.length = m + 1) : ∀ p ∈ bs, p.1 = rx bs m ∨ lessB p.1 (rx bs m) = true := by
  intro p hp
  obtain ⟨k, hk, rfl⟩ := List.getElem_of_mem hp
  by_cases e : k = m
  · subst e; left; simp [rx, hk]
  · right
    have := List.pairwise_iff_getElem.1 hs k m hk (by omega) (by omega)
    have e2 : rx bs m = (bs[m]'(by omega)).1 := by simp [rx, show m < bs.length by omega]
    rw [e2]; exact this
theorem times_snoc {bs : List (List Int × Int)} {r : List Int} {n : Int} (h : ∀ p ∈ bs, p.1 ≠ r) (s : List Int) : timesL (bs ++ [(r, n)]) s = if s = r then n else timesL bs s := by
  induction bs with
  | nil =>
    show (if r = s then n else 0) = if s = r then n else 0
    by_cases e : s = r
    · rw [if_pos e.symm, if_pos e]
    · rw [if_neg (Ne.symm e), if_neg e]
  | cons p bs ih =>
    obtain ⟨q, m⟩ := p
    rw [List.cons_append, timesL, timesL, ih fun p hp => h p (List.mem_cons_of_mem _ hp)]
    by_cases e : q = s
    · rw [if_pos e, if_pos e]
      have : q ≠ r := h (q, m) (by simp)
      rw [if_neg (by rw [← e]; exact this)]
    · rw [if_neg e, if_neg e]
theorem CL.last {bs pre : List (List Int × Int)} (h : CL bs pre) {m : Nat} (hm : bs.length = m + 1) {r : List Int} {n : Int} (he : rx bs m = r) : CL (bs.set m (r, addW (nx bs m) n)) (pre ++ [(r, n)]) := by
  obtain ⟨h1, h2, h3, h4⟩ := h
  have hml : m < bs.length := by omega
  have hd : bs = bs.dropLast ++ [(r, nx bs m)] := by
    have h5 := List.take_succ_eq_append_getElem hml
    rw [List.take_of_length_le (by omega), bag_ix hml, he] at h5
    rw [List.dropLast_eq_take, show bs.length - 1 = m by omega]
    exact h5
  obtain ⟨ds, hds⟩ : ∃ ds, bs.dropLast = ds := ⟨_, rfl⟩
  rw [hds] at hd
  have hdl : ds.length = m := by rw [← hds]; simp; omega
  have hset : bs.set m (r, addW (nx bs m) n) = ds ++ [(r, addW (nx bs m) n)] := by
    rw [hd, ← hdl, List.set_append_right _ _ (Nat.le_refl _), Nat.sub_self]
    have : nx (ds ++ [(r, nx bs ds.length)]) ds.length = nx bs ds.length := by simp [nx]
    rw [this]; rfl
  rw [hset]
  have h1' : SB (ds ++ [(r, nx bs m)]) := by rw [← hd]; exact h1
  have hne : ∀ p ∈ ds, lessB p.1 r = true := fun p hp => (List.pairwise_append.1 h1').2.2 p hp (r, nx bs m) (by simp)
  have hne' : ∀ p ∈ ds, p.1 ≠ r := fun p hp => less_ne (hne p hp)
  have ht : ∀ s, timesL bs s = if s = r then nx bs m else timesL ds s := fun s => by
    have := times_snoc (n := nx bs m) hne' s
    rw [← hd] at this
    exact this
  refine ⟨List.pairwise_append.2 ⟨(List.pairwise_append.1 h1').1, List.pairwise_singleton _ _, fun p hp q hq => by rw [List.mem_singleton.1 hq]; exact hne p hp⟩, fun s => ?_, fun p hp => ?_, by simp only [List.length_append, List.length_cons, List.length_nil]; omega⟩
  · rw [times_snoc hne', sumZ_snoc]
    have hs := h2 s
    rw [ht] at hs
    by_cases e : s = r
    · rw [if_pos e] at hs
      rw [if_pos e, if_pos e, hs, W64_add]
    · rw [if_neg e] at hs
      rw [if_neg e, if_neg e, Int.add_zero, hs]
  · rcases List.mem_append.1 hp with hp | hp
    · obtain ⟨q, hq, e⟩ := h3 p (by rw [hd]; exact List.mem_append.2 (.inl hp))
      exact ⟨q, List.mem_append.2 (.inl hq), e⟩
    · rw [List.mem_singleton.1 hp]; exact ⟨(r, n), by simp, rfl⟩
theorem CL.new {bs pre : List (List Int × Int)} (h : CL bs pre) {r : List Int} {n : Int} (hn : addW 0 n = n) (hle : ∀ p ∈ bs, lessB r p.1 = false) (hne : ∀ m, bs.length = m + 1 → ¬ rx bs m = r) : CL (bs ++ [(r, n)]) (pre ++ [(r, n)]) := by
  obtain ⟨h1, h2, h3, h4⟩ := h
  have hlt : ∀ p ∈ bs, lessB p.1 r = true := by
    intro p hp
    obtain ⟨m, hm⟩ : ∃ m, bs.length = m + 1 := ⟨bs.length - 1, by have := List.length_pos_of_mem hp; omega⟩
    have hml : m < bs.length := by omega
    have hlast : lessB (rx bs m) r = true := by
      rcases less_tri (rx bs m) r with e | e | e
      · exact e
      · exact absurd e (hne m hm)
      · have := hle bs[m] (List.getElem_mem hml)
        rw [bag_ix hml] at this
        simp only at this
        rw [e] at this; cases this
    rcases last_less h1 hm p hp with e | e
    · rw [e]; exact hlast
    · exact less_trans e hlast
  have hne' : ∀ p ∈ bs, p.1 ≠ r := fun p hp => less_ne (hlt p hp)
  refine ⟨List.pairwise_append.2 ⟨h1, List.pairwise_singleton _ _, fun p hp q hq => by rw [List.mem_singleton.1 hq]; exact hlt p hp⟩, fun s => ?_, fun p hp => ?_, by simp only [List.length_append, List.length_cons, List.length_nil]; omega⟩
  · rw [times_snoc hne', sumZ_snoc]
    by_cases e : s = r
    · have h0 := h2 r
      rw [timesL_zero hne'] at h0
      subst e
      rw [if_pos rfl, if_pos rfl, ← W64_add, ← h0, hn]
    · rw [if_neg e, if_neg e, Int.add_zero, h2]
  · rcases List.mem_append.1 hp with hp | hp
    · obtain ⟨q, hq, e⟩ := h3 p hp
      exact ⟨q, List.mem_append.2 (.inl hq), e⟩
    · rw [List.mem_singleton.1 hp]; exact ⟨(r, n), by simp, rfl⟩
theorem times_filter : ∀ {bs : List (List Int × Int)}, SB bs → ∀ s, timesL (bs.filter fun p => !decide (p.2 = 0)) s = timesL bs s
  | [], _, _ => rfl
  | (r, n) :: bs, h, s => by
    have ih := times_filter (List.pairwise_cons.1 h).2 s
    by_cases e : n = 0
    · rw [List.filter_cons_of_neg (by simpa using e), ih, timesL]
      by_cases er : r = s
      · rw [if_pos er, e]
        exact timesL_zero fun p hp => by rw [← er]; exact (less_ne ((List.pairwise_cons.1 h).1 p hp)).symm
      · rw [if_neg er]
    · rw [List.filter_cons_of_pos (by simpa using e), timesL, timesL, ih]
theorem CL.done {bs pre ps : List (List Int × Int)} (h : CL bs pre) (hp : pre.Perm ps) (hN : N64 ps) : (bs.filter fun p => !decide (p.2 = 0)) = togL ps := by
  obtain ⟨b1, b2, b3⟩ := tog_facts ps hN
  refine canon (h.1.filter _) b1 (fun p hp => by simpa using (List.mem_filter.1 hp).2) b2 fun s => ?_
  rw [times_filter h.1, h.2.1, b3, sumZ_perm hp]
end Go.Proofs.YtedbjjhkjkpnkaaDoor

/- Laws on the heap's variable and its counts, for the walk of together; slices.Equal's answer told ahead. No condition of their own. -/
namespace Go.Proofs.YtedbjjhkjkpnkaaDoor
open Go.RowKit

/-- How many the heap's variable holds. -/
def lenAt (p : Nat) (w : World) : Nat := match w.cell? ⟨p, 0, none⟩ with | some (.slice _ n _) => n | _ => 0
theorem HP.len {w : World} {lo hi p g cap : Nat} {es : List Ent} (h : HP w lo hi p g cap es) : lenAt p w = es.length := by
  have := h.1.cell 0
  unfold lenAt
  rw [this]; rfl
theorem OBag.top {w w' : World} {lo s : Nat} {v : Value} {es : List Ent} (h : OBag w s v es) (hw : Within lo s w w') : OBag w' s v es :=
  h.keep h.inside fun b h1 h2 => hw.block b h2 (by omega)
theorem RowG.far {w w' : World} {hi g gb : Nat} {A : Option Addr} {r : List Int} (h : RowG w hi g A r) (hg : w.grownBy w' (some gb)) (h1 : hi ≤ gb) : RowG w' hi g A r :=
  h.keep hg.size fun p h2 _ h4 => World.cell?_of_block (hg.block p.block h4 (fun e => by have := Option.some.inj e; omega))
theorem HP.far {w w' : World} {lo hi p g cap gb : Nat} {es : List Ent} (h : HP w lo hi p g cap es) (hg : w.grownBy w' (some gb)) (h1 : g < gb) (h2 : p < gb) : HP w' lo hi p g cap es := by
  have hlt := h.2.2.lt
  refine ⟨h.1.grown hg (fun e => by have := Option.some.inj e; omega), h.2.1, own_keepB h.2.2.1 fun r e => hg.block r (h.2.2.1.lt r e).2 (fun e2 => by have : g = r := Option.some.inj e; have := Option.some.inj e2; omega), fun e he => ⟨(h.2.2.2 e he).1.far hg (by have := h.2.1; omega), (h.2.2.2 e he).2⟩⟩
theorem HC.upto {w : World} {lo hi g cap : Nat} {es : List Ent} (h : HC w lo hi g cap es) : HC w lo w.heap.size g cap es :=
  ⟨h.1, fun e he => ⟨fun hn => by
    obtain ⟨b, off, e1, _, h2, h3, hc⟩ := (h.2 e he).1 hn
    exact ⟨b, off, e1, h3, h2, h3, hc⟩, (h.2 e he).2⟩⟩
theorem slicesEqual_yes (A A' : Option Addr) (c c' : Nat) (zs ys : List Int) (w : World) (B B' : Nat) (hI : Ints w B A zs) (hI' : Ints w B' A' ys) (hl : zs.length ≤ 1099511627776) (hl' : ys.length ≤ 1099511627776) (h : zs = ys) :
    Calls Tryd.prog 29 #[.slice A zs.length c, .slice A' ys.length c'] w fun e w' => e = .returned (.bool true) ∧ ∃ n, w' = w.drewN n := by rw [← decide_eq_true h]; exact slicesEqual_any A A' c c' zs ys w B B' hI hI' hl hl'
theorem slicesEqual_no (A A' : Option Addr) (c c' : Nat) (zs ys : List Int) (w : World) (B B' : Nat) (hI : Ints w B A zs) (hI' : Ints w B' A' ys) (hl : zs.length ≤ 1099511627776) (hl' : ys.length ≤ 1099511627776) (h : ¬ zs = ys) :
    Calls Tryd.prog 29 #[.slice A zs.length c, .slice A' ys.length c'] w fun e w' => e = .returned (.bool false) ∧ ∃ n, w' = w.drewN n := by rw [← decide_eq_false h]; exact slicesEqual_any A A' c c' zs ys w B B' hI hI' hl hl'
theorem assert_count (v : Value) (x : TypeId) (w : World) : (Instr.typeAssert (.iface 37 v) x 37 true).run Tryd.prog w = .ok (.tuple #[v, .bool true]) w := by
  simp [Instr.typeAssert, run_underlying Tryd.underlying37]

/-- An own bag, read as counts whose rows lie elsewhere. -/
theorem OB.hc {w : World} {lo g cap : Nat} {es : List Ent} (h : OB w lo g cap es) (hl : ∀ e ∈ es, e.r.length ≤ 1099511627776) : HC w lo w.heap.size g cap es := by
  refine ⟨h.1, fun e he => ⟨fun hn => ?_, hl e he⟩⟩
  obtain ⟨hR, hg⟩ := h.2.1 e he
  obtain ⟨b, off, eA, hb, hc⟩ := hR.ints hn
  have e1 : e.A = some ⟨e.g, 0, none⟩ := (hR hn).1
  rw [e1] at eA
  have e2 : e.g = b := by have := congrArg (fun x => x.map Addr.block) eA; simpa using this
  refine ⟨b, off, by rw [e1, eA], hb, fun e3 => ?_, hb, hc⟩
  exact (hg hn).2 (by rw [e2, e3]; rfl)
/-- Cells written one behind the other into block g: what lay ahead of them stays. -/
theorem blk_setCells {g : Nat} {t : TypeId} : ∀ (vs : List Value) (o : Nat) (w : World) (cur : Array Value), Blk w g t cur → ∃ cur', Blk (w.setCells g o vs) g t cur' ∧ cur'.size = cur.size ∧ (∀ k, k ≤ o → cur'.toList.take k = cur.toList.take k) ∧ w.grownBy (w.setCells g o vs) (some g)
  | [], _, w, cur, h => ⟨cur, h, rfl, fun _ _ => rfl, World.grownBy.refl _ _⟩
  | v :: vs, o, w, cur, h => by
    obtain ⟨cur', h1, h2, h3, h4⟩ := blk_setCells vs (o + 1) (w.setCell ⟨g, o, none⟩ v) _ (h.set_ o v)
    refine ⟨cur', h1, by rw [h2]; simp, fun k hk => ?_, grown_trans (grown_setCell _ g _ _) h4⟩
    rw [h3 k (by omega), Array.toList_setIfInBounds, List.take_set_of_le hk]
theorem run_clear_counts (w : World) (b o n c : Nat) (ty : TypeId) (hn : 0 < n) (hc : ∀ j, j < n * 2 → (w.cell? ⟨b, o + j, none⟩).isSome = true) (hf : ∀ j, j < n * 2 → w.frozen? ⟨b, o + j, none⟩ = false) :
    (Builtin.clear_ #[26] ty #[.slice (some ⟨b, o, none⟩) n c]).run Tryd.prog w = .ok (.tuple #[]) (w.setCells b o (Builtin.zeroCells #[.slice none 0 0, .int .i64 0] n).toList) := by
  obtain ⟨i0, hi0, hz0, hz1, hz2⟩ := info_parts info_count
  have hzl : (Builtin.zeroCells #[.slice none 0 0, .int .i64 0] n).toList.length = n * 2 := by simp [Builtin.zeroCells]
  have hz : ∀ v ∈ (Builtin.zeroCells #[.slice none 0 0, .int .i64 0] n).toList, v.oneCell' = true := by
    intro v hv
    simp only [Builtin.zeroCells, Array.toList_map, List.mem_map] at hv
    obtain ⟨a, _, rfl⟩ := hv
    have h2 : a % 2 = 0 ∨ a % 2 = 1 := by omega
    show ((#[.slice none 0 0, .int .i64 0] : Array Value)[a % 2]!).oneCell' = true
    rcases h2 with h2 | h2 <;> rw [h2] <;> rfl
  have hst := run_storeCells_cells (P := Tryd.prog) b o (Builtin.zeroCells #[.slice none 0 0, .int .i64 0] n).toList 0 w (by rw [hzl]; simpa using hc) (by rw [hzl]; simpa using hf) hz
  simp only [Nat.add_zero] at hst
  obtain ⟨m, rfl⟩ : ∃ m, n = m + 1 := ⟨n - 1, by omega⟩
  have hzv : ∀ w, (zeroValue 37).run Tryd.prog w = .ok (.agg #[.slice none 0 0, .int .i64 0]) w := fun w => by simp [zeroValue, typeInfo, hi0, hz0]
  simp [Builtin.clear_, run_underlying Tryd.underlying26, hzv, Value.cells, hst]
end Go.Proofs.YtedbjjhkjkpnkaaDoor

/- Contracts of slices.IndexFunc and slices.DeleteFunc over counts, as they are translated, with the program's closure that tells counts of 0: what is left stands in order in the same block. For lists of at most 2^40. -/
namespace Go.Proofs.YtedbjjhkjkpnkaaDoor
open Go.RowKit

set_option maxHeartbeats 1000000 in
theorem isNone_any (A : Option Addr) (l c : Nat) (n : Int) (w : World) :
    Calls Tryd.prog 48 #[.agg #[.slice A l c, .int .i64 n]] w fun e w' => e = .returned (.bool (n == 0)) ∧ Below w.heap.size w w' := by
  have b1 := (Below.refl w.heap.size w).alloc (Nat.le_refl _) (.cells #[.slice A l c, .int .i64 n] 37)
  go_enter Tryd.func48, Tryd.ntmps48
  go_wp2
  go_ret
  exact ⟨rfl, b1⟩
theorem isNone_yes (A : Option Addr) (l c : Nat) (n : Int) (w : World) (h : n = 0) :
    Calls Tryd.prog 48 #[.agg #[.slice A l c, .int .i64 n]] w fun e w' => e = .returned (.bool true) ∧ Below w.heap.size w w' := by
  have := isNone_any A l c n w
  rwa [beq_iff_eq.2 h] at this
theorem isNone_no (A : Option Addr) (l c : Nat) (n : Int) (w : World) (h : ¬ n = 0) :
    Calls Tryd.prog 48 #[.agg #[.slice A l c, .int .i64 n]] w fun e w' => e = .returned (.bool false) ∧ Below w.heap.size w w' := by
  have := isNone_any A l c n w
  rwa [beq_eq_false_iff_ne.2 h] at this
theorem en_eq {es : List Ent} {i : Nat} (h : i < es.length) : (ex es i).n = es[i].n := by rw [ex_eq h]
set_option maxRecDepth 100000 in
set_option maxHeartbeats 1000000 in
theorem indexNone_any (lo hi g cap : Nat) (es : List Ent) (w : World) (h : HC w lo hi g cap es) (hl : es.length ≤ 1099511627776) :
    Calls Tryd.prog 57 #[.slice (some ⟨g, 0, none⟩) es.length cap, .func (.func 48) #[] #[]] w fun e w' => (∃ x : Int, e = .returned (.int .i64 x) ∧ ((x = -1 ∧ ∀ j, j < es.length → (ex es j).n ≠ 0) ∨ ∃ k : Nat, x = k ∧ k < es.length ∧ (ex es k).n = 0 ∧ ∀ j, j < k → (ex es j).n ≠ 0)) ∧ Below w.heap.size w w' := by
  go_enter Tryd.func57, Tryd.ntmps57
  go_wp2
  go_loopw [8] (fun i wr => ∃ k : Nat, k ≤ es.length ∧ i = .int .i64 k ∧ (∀ j, j < k → (ex es j).n ≠ 0) ∧ Below w.heap.size w wr) (fun i _ => es.length - (intOf i).toNat)
  case atStart => exact ⟨0, Nat.zero_le _, rfl, fun j hj => absurd hj (by omega), Below.refl _ _⟩
  case round =>
    obtain ⟨k, hk, rfl, hj, hW⟩ := hrel
    have HJ := Lib.hid hj
    clear hj
    by_cases hlt : k < es.length
    · obtain ⟨c0, c1, _, _⟩ := (h.on hW).cells hlt
      have hk0 : (0 : Int) ≤ (k : Int) := Int.natCast_nonneg _
      have hk1 : (k : Int) < (es.length : Int) := by omega
      by_cases hn : (ex es k).n = 0
      · have HN := Lib.hid hn
        clear hn
        go_wp2_with fail
        go_at_call 48
        refine (isNone_yes _ _ _ _ _ HN.out).mono ?_
        rintro e w1 ⟨rfl, hb1⟩
        have hW2 := bel_step hW hb1
        go_wp2
        go_ret
        exact ⟨⟨_, rfl, .inr ⟨k, rfl, hlt, HN.out, HJ.out⟩⟩, hW2⟩
      · have HN := Lib.hid hn
        clear hn
        go_wp2_with fail
        go_at_call 48
        refine (isNone_no _ _ _ _ _ HN.out).mono ?_
        rintro e w1 ⟨rfl, hb1⟩
        have hW2 := bel_step hW hb1
        go_wp2
        go_roundw
        case rel => exact ⟨k + 1, by omega, by go_num, fun j hj => by
          by_cases e : j = k
          · rw [e]; exact HN.out
          · exact HJ.out j (by omega), hW2⟩
        case measure => simp [intOf]; omega
    · have hd : decide (k < es.length) = false := by simpa using hlt
      go_wp2
      go_ret
      exact ⟨⟨_, rfl, .inl ⟨rfl, fun j hj => HJ.out j (by omega)⟩⟩, hW⟩

def keptE (e : Ent) : Bool := !decide (e.n = 0)
theorem keptE_pair (es : List Ent) : (es.filter keptE).map Ent.pair = (es.map Ent.pair).filter fun p => !decide (p.2 = 0) := by
  induction es with
  | nil => rfl
  | cons e es ih =>
    by_cases h : e.n = 0
    · rw [List.filter_cons_of_neg (by simp [keptE, h]), List.map_cons, List.filter_cons_of_neg (by simp [Ent.pair, h]), ih]
    · rw [List.filter_cons_of_pos (by simp [keptE, h]), List.map_cons, List.map_cons, List.filter_cons_of_pos (by simp [Ent.pair, h]), ih]
theorem bel_grown {w w' : World} {g : Nat} (hb : Below w.heap.size w w') : w.grownBy w' (some g) := ⟨hb.os, hb.tape, hb.output, hb.size, fun b h _ => hb.block b h⟩
/-- The list while counts of 0 are left out: i are kept, j are looked at. -/
def DelAt (bs cs : List Ent) (i j : Nat) : Prop := cs.length = bs.length ∧ i < j ∧ j ≤ bs.length ∧ cs.take i = (bs.take j).filter keptE ∧ cs.drop j = bs.drop j
theorem DelAt.start {bs : List Ent} {k : Nat} (hk : k < bs.length) (h0 : (ex bs k).n = 0) (h1 : ∀ j, j < k → (ex bs j).n ≠ 0) : DelAt bs bs k (k + 1) := by
  refine ⟨rfl, by omega, by omega, ?_, rfl⟩
  rw [List.take_succ_eq_append_getElem hk, List.filter_append, List.filter_cons_of_neg (by rw [en_eq hk] at h0; simp [keptE, h0]), List.filter_nil, List.append_nil]
  refine (List.filter_eq_self.2 fun e he => ?_).symm
  obtain ⟨j, hj, rfl⟩ := List.getElem_of_mem he
  rw [List.length_take] at hj
  have := h1 j (by omega)
  rw [en_eq (by omega)] at this
  simp [keptE, this]
theorem DelAt.here {bs cs : List Ent} {i j : Nat} (h : DelAt bs cs i j) : ex cs j = ex bs j := by
  have := congrArg (fun l => l[0]?) h.2.2.2.2
  simp only [List.getElem?_drop, Nat.add_zero] at this
  unfold ex; rw [this]
theorem DelAt.skip {bs cs : List Ent} {i j : Nat} (h : DelAt bs cs i j) (hj : j < bs.length) (h0 : (ex bs j).n = 0) : DelAt bs cs i (j + 1) := by
  obtain ⟨h1, h2, h3, h4, h5⟩ := h
  refine ⟨h1, by omega, by omega, ?_, by rw [← List.drop_drop, ← List.drop_drop, h5]⟩
  rw [h4, List.take_succ_eq_append_getElem hj, List.filter_append, List.filter_cons_of_neg (by rw [en_eq hj] at h0; simp [keptE, h0]), List.filter_nil, List.append_nil]
theorem DelAt.keep {bs cs : List Ent} {i j : Nat} (h : DelAt bs cs i j) (hj : j < bs.length) (h0 : ¬ (ex bs j).n = 0) : DelAt bs (cs.set i (ex bs j)) (i + 1) (j + 1) := by
  obtain ⟨h1, h2, h3, h4, h5⟩ := h
  have hi : i < (cs.set i (ex bs j)).length := by rw [List.length_set]; omega
  refine ⟨by rw [List.length_set, h1], by omega, by omega, ?_, ?_⟩
  · rw [List.take_succ_eq_append_getElem hi, List.getElem_set_self, List.take_set_of_le (Nat.le_refl _), h4, List.take_succ_eq_append_getElem hj, List.filter_append, List.filter_cons_of_pos (by rw [en_eq hj] at h0; simp [keptE, h0]), List.filter_nil, ex_eq hj]
  · rw [List.drop_set_of_lt (by omega), ← List.drop_drop, ← List.drop_drop, h5]
theorem DelAt.len {bs cs : List Ent} {i : Nat} (h : DelAt bs cs i bs.length) : i = (bs.filter keptE).length := by
  have := congrArg List.length h.2.2.2.1
  rw [List.length_take, List.take_of_length_le (Nat.le_refl _), h.1] at this
  have := h.2.1
  omega
/-- What is left, an own bag again. -/
theorem OB.left {w w' : World} {lo hi g cap : Nat} {bs cs : List Ent} (h : OB w lo g cap bs) (hg : w.grownBy w' (some g)) (hc : HC w' lo hi g cap (cs.take (bs.filter keptE).length)) (he : cs.take (bs.filter keptE).length = bs.filter keptE) : OB w' lo g cap (bs.filter keptE) := by
  rw [he] at hc
  refine ⟨hc.1, fun e hm => ?_, h.2.2.filter _⟩
  obtain ⟨h1, h2⟩ := h.2.1 e (List.mem_filter.1 hm).1
  exact ⟨h1.keepB fun hn => hg.block _ (h1.lt hn) (h2 hn).2, h2⟩
theorem OB.none {bs : List Ent} (h : ∀ j, j < bs.length → (ex bs j).n ≠ 0) : bs.filter keptE = bs := List.filter_eq_self.2 fun e he => by
  obtain ⟨j, hj, rfl⟩ := List.getElem_of_mem he
  have := h j hj
  rw [en_eq hj] at this
  simp [keptE, this]

set_option maxRecDepth 100000 in
set_option maxHeartbeats 4000000 in
theorem deleteNone_any (lo g cap : Nat) (bs : List Ent) (w : World) (h : OB w lo g cap bs) (hl : bs.length ≤ 1099511627776) (hr : ∀ e ∈ bs, e.r.length ≤ 1099511627776) :
    Calls Tryd.prog 47 #[.slice (some ⟨g, 0, none⟩) bs.length cap, .func (.func 48) #[] #[]] w fun e w' => e = .returned (.slice (some ⟨g, 0, none⟩) (bs.filter keptE).length cap) ∧ OB w' lo g cap (bs.filter keptE) ∧ w.grownBy w' (some g) := by
  have hHC := h.hc hr
  have hlo := hHC.lt
  have hcap : bs.length ≤ cap := hHC.parts.choose_spec.2.2.1
  have HO := Lib.hid h
  clear h hr
  go_enter Tryd.func47, Tryd.ntmps47
  go_wp2_with fail
  refine (indexNone_any lo w.heap.size g cap bs w hHC hl).mono ?_
  rintro e w1 ⟨⟨x, rfl, hx⟩, hb1⟩
  have hg1 : w.grownBy w1 (some g) := ⟨hb1.os, hb1.tape, hb1.output, hb1.size, fun b hb _ => hb1.block b hb⟩
  have hH1 := hHC.on hb1
  clear hHC hb1
  rcases hx with ⟨rfl, hx⟩ | ⟨k, rfl, hk, h0, hx⟩
  · have HX := Lib.hid (OB.none hx)
    clear hx
    go_wp2
    go_ret
    have hH2 := hH1
    refine ⟨by rw [HX.out]; rfl, ?_, hg1⟩
    refine OB.left HO.out hg1 (cs := bs) (hi := w.heap.size) ?_ ?_
    · rw [HX.out, List.take_of_length_le (Nat.le_refl _)]; exact hH2
    · rw [HX.out, List.take_of_length_le (Nat.le_refl _)]
  · have HD := Lib.hid (DelAt.start hk h0 hx)
    have hd1 : ((k : Int) == -1) = false := by rw [beq_eq_false_iff_ne]; omega
    clear h0 hx
    go_wp2
    go_loopw [5, 6] (fun si sj wr => ∃ (i j : Nat) (cs : List Ent), si = .int .i64 i ∧ sj = .int .i64 j ∧ DelAt bs cs i j ∧ HC wr lo w.heap.size g cap cs ∧ w.grownBy wr (some g)) (fun _ sj _ => bs.length - (intOf sj).toNat)
    case atStart => exact ⟨k, k + 1, bs, rfl, by go_num, HD.out, hH1, hg1⟩
    case round =>
      obtain ⟨i, j, cs, rfl, rfl, hD, hH, hG⟩ := hrel
      have hcl : cs.length = bs.length := hD.1
      have hij : i < j := hD.2.1
      have hjl : j ≤ bs.length := hD.2.2.1
      have HDA := Lib.hid hD
      have HCL := Lib.hid hcl
      clear hD hH1 hg1 HD
      by_cases hlt : j < bs.length
      · obtain ⟨c0, c1, _, _⟩ := hH.cells (i := j) (by omega)
        obtain ⟨_, _, f0, f1⟩ := hH.cells (i := i) (by omega)
        have hE := HDA.out.here
        rw [show kx cs j = kx bs j by unfold kx; rw [hE], hE] at c0
        rw [hE] at c1
        have hu := hH.2 cs[j] (List.getElem_mem (by omega))
        rw [← ex_eq, hE] at hu
        have hk0 : (0 : Int) ≤ (j : Int) := Int.natCast_nonneg _
        have hk1 : (j : Int) < (bs.length : Int) := by omega
        have hi0 : (0 : Int) ≤ (i : Int) := Int.natCast_nonneg _
        have hi1 : (i : Int) < (bs.length : Int) := by omega
        have bc := (Below.refl wr.heap.size wr).alloc (Nat.le_refl _) (.cells #[.slice (ex bs j).A (kx bs j).length (ex bs j).c, .int .i64 (ex bs j).n] 37)
        have BC := Blk.new wr 37 #[.slice (ex bs j).A (kx bs j).length (ex bs j).c, .int .i64 (ex bs j).n]
        have hHb := hH.on bc
        have hub := hu.1.on bc
        have hGb := grown_trans hG (bel_grown (g := g) bc)
        clear hcl
        by_cases hn : (ex bs j).n = 0
        · have HN := Lib.hid hn
          clear hn
          go_wp2_with fail
          go_at_call 48
          refine (isNone_yes _ _ _ _ _ HN.out).mono ?_
          rintro e w2 ⟨rfl, hb2⟩
          have hH2 := hHb.on hb2
          have hG2 := grown_trans hGb (bel_grown (g := g) hb2)
          clear hH hG hHb hub hGb bc BC hb2 c0 c1 f0 f1 hu hE
          go_wp2
          go_roundw
          case rel => exact ⟨i, j + 1, cs, rfl, by go_num, HDA.out.skip hlt HN.out, hH2, hG2⟩
          case measure => simp [intOf]; omega
        · have HN := Lib.hid hn
          clear hn
          go_wp2_with fail
          go_at_call 48
          refine (isNone_no _ _ _ _ _ HN.out).mono ?_
          rintro e w2 ⟨rfl, hb2⟩
          have hH2 := hHb.on hb2
          have hG2 := grown_trans hGb (bel_grown (g := g) hb2)
          have hu2 := hub.on hb2
          have BC2 := BC.on hb2
          have d0 := BC2.cell 0
          have d1 := BC2.cell 1
          simp only [List.getElem?_toArray, List.getElem?_cons_zero, List.getElem?_cons_succ] at d0 d1
          have hil : i < cs.length := by have := HCL.out; omega
          obtain ⟨e0, e1, f0, f1⟩ := hH2.cells (i := i) hil
          have hS := hH2.set hil (ex bs j) ⟨hu2, hu.2⟩
          have hS1 := grown_trans (grown_trans hG2 (grown_setCell w2 g (i * 2) (.slice (ex bs j).A (kx bs j).length (ex bs j).c))) (grown_setCell _ g (i * 2 + 1) (.int .i64 (ex bs j).n))
          have HS := Lib.hid hS
          have HS1 := Lib.hid hS1
          clear hH hG hHb hub hGb bc BC hb2 c0 c1 hu hu2 hE BC2 hH2 hG2 hS hS1 hil
          generalize hGG : wr.heap.size = GG at *
          clear hGG
          go_wp2
          go_roundw
          case rel => exact ⟨i + 1, j + 1, cs.set i (ex bs j), by go_num, by go_num, HDA.out.keep hlt HN.out, HS.out, HS1.out⟩
          case measure => simp [intOf]; omega
      · have hd : decide (j < bs.length) = false := by simpa using hlt
        obtain rfl : j = bs.length := by omega
        have hil : i ≤ cs.length := by omega
        have hcl : ∀ ty, (Builtin.clear_ #[26] ty #[.slice (some ⟨g, i * 2, none⟩) (bs.length - i) (cap - i)]).run Tryd.prog wr = .ok (.tuple #[]) (wr.setCells g (i * 2) (Builtin.zeroCells #[.slice none 0 0, .int .i64 0] (bs.length - i)).toList) :=
          fun ty => run_clear_counts wr g (i * 2) (bs.length - i) (cap - i) ty (by omega) (fun t ht => by
            have h2 : t % 2 = 0 ∨ t % 2 = 1 := by omega
            obtain ⟨e0, e1, f0, f1⟩ := hH.cells (i := i + t / 2) (by omega)
            rcases h2 with h2 | h2
            · rw [show i * 2 + t = (i + t / 2) * 2 by omega, e0]; rfl
            · rw [show i * 2 + t = (i + t / 2) * 2 + 1 by omega, e1]; rfl) (fun t ht => by
            have h2 : t % 2 = 0 ∨ t % 2 = 1 := by omega
            obtain ⟨e0, e1, f0, f1⟩ := hH.cells (i := i + t / 2) (by omega)
            rcases h2 with h2 | h2
            · rw [show i * 2 + t = (i + t / 2) * 2 by omega]; exact f0
            · rw [show i * 2 + t = (i + t / 2) * 2 + 1 by omega]; exact f1)
        obtain ⟨cur, p1, p2, p3, p4, p5, p6⟩ := hH.parts
        obtain ⟨cur', q1, q2, q3, q4⟩ := blk_setCells (Builtin.zeroCells #[.slice none 0 0, .int .i64 0] (bs.length - i)).toList (i * 2) wr cur p2
        have hi0 : (0 : Int) ≤ (i : Int) := Int.natCast_nonneg _
        have hi1 : (i : Int) ≤ (bs.length : Int) := by omega
        have hi2 : (i : Int) ≤ (cap : Int) := by omega
        have hFin : HC (wr.setCells g (i * 2) (Builtin.zeroCells #[.slice none 0 0, .int .i64 0] (bs.length - i)).toList) lo w.heap.size g cap (cs.take i) := by
          have hl : (cs.take i).length = i := by simp; omega
          refine ⟨⟨by rw [entCells_length], .inr ⟨g, cap, cur', by rw [hl], p1, q1, by omega, p4, by rw [q2]; exact p5, ?_⟩⟩, fun e he => ⟨((hH.2 e (List.mem_of_mem_take he)).1).keep q4.size fun p _ h2 h3 => World.cell?_of_block (q4.block _ h3 (fun e2 => h2 (Option.some.inj e2))), (hH.2 e (List.mem_of_mem_take he)).2⟩⟩
          rw [hl, q3 _ (Nat.le_refl _), ← entCells_take cs i hil, ← p6, List.take_take, Nat.min_eq_left (by omega)]
        have HF := Lib.hid hFin
        have HG := Lib.hid (grown_trans hG q4)
        have HLN := Lib.hid HDA.out.len
        clear hH hG p1 p2 p3 p4 p5 p6 q1 q2 q3 q4 hFin
        go_wp2
        go_ret
        rw [← HLN.out]
        refine ⟨rfl, ?_, HG.out⟩
        exact OB.left HO.out HG.out (by rw [← HLN.out]; exact HF.out) (by rw [← HLN.out]; rw [HDA.out.2.2.2.1, List.take_of_length_le (Nat.le_refl _)])
end Go.Proofs.YtedbjjhkjkpnkaaDoor

/- The contract of the program's together: counts of any N, those of a row in one (none of 0), in order, in memory of the call's own; their list itself is left in another order. For lists of at most 2^20, rows of at most 2^40. -/
namespace Go.Proofs.YtedbjjhkjkpnkaaDoor
open Go.RowKit

set_option maxRecDepth 100000 in
set_option maxHeartbeats 8000000 in
theorem together_any (lo g cap : Nat) (es : List Ent) (w : World) (hC : HC w lo w.heap.size g cap es) (hN : N64 (es.map Ent.pair)) (hl : es.length ≤ 1048576) :
    Calls Tryd.prog 24 #[.slice (some ⟨g, 0, none⟩) es.length cap] w fun e w' => ∃ gb cb bs, e = .returned (.slice (some ⟨gb, 0, none⟩) bs.length cb) ∧ OB w' w.heap.size gb cb bs ∧ bs.map Ent.pair = togL (es.map Ent.pair) ∧ Below lo w w' := by
  have hta := assert_count
  have HN64 := Lib.hid hN
  have HLe := Lib.hid (show ∀ p ∈ es.map Ent.pair, p.1.length ≤ 1099511627776 from fun p hp => by
    obtain ⟨e, he, rfl⟩ := List.mem_map.1 hp
    exact (hC.2 e he).2)
  clear hN
  obtain ⟨i0, hi0, hz0, hz1, hz2⟩ := info_parts info_count
  have hlog := hC.lt
  obtain ⟨w1, hw1⟩ : ∃ w1, w1 = w.alloc (.cells #[.slice (some ⟨g, 0, none⟩) es.length cap] 60) := ⟨_, rfl⟩
  have hW : Below w.heap.size w w1 := by rw [hw1]; exact (Below.refl _ _).alloc (Nat.le_refl _) _
  have hWlo : Below lo w w1 := by rw [hw1]; exact (Below.refl _ _).alloc (by omega) _
  have hH : HP w1 lo w.heap.size w.heap.size g cap es := by
    refine ⟨?_, ⟨by omega, Nat.le_refl _⟩, hC.on hW⟩
    rw [hw1]; exact Blk.new w 60 #[.slice (some ⟨g, 0, none⟩) es.length cap]
  have hgl : g < w1.heap.size := by have := hW.size; omega
  clear hC
  go_enter Tryd.func24, Tryd.ntmps24
  go_wp2_with fail
  rw [← hw1]
  clear hw1
  refine (heapInit_any lo w.heap.size w1.heap.size w.heap.size g cap es w1 hH hgl (by omega)).mono ?_
  rintro e w2 ⟨⟨v2, rfl⟩, hs, hH2, hl2, hp2, hF2, hW2⟩
  have hlow : w.heap.size ≤ w1.heap.size := hW.size
  have hb2 : Below lo w w2 := hWlo.trans (hW2.bel (by omega))
  have hgt : g < w2.heap.size := by have := hW2.size; omega
  have hpt : w.heap.size < w2.heap.size := by have := hW2.size; have := hH.1.lt; omega
  have hE3 := OBag.nil (empty_counts w2)
  have b3 := (Below.refl w2.heap.size w2).alloc (Nat.le_refl _) (.cells #[] 37)
  have hH3 := hH2.on b3
  have hb3 : Below lo w (w2.alloc (.cells #[] 37)) := hb2.trans (b3.mono (by have := hb2.size; omega))
  have HPM := Lib.hid (show (es.map Ent.pair).Perm ([] ++ hs.map Ent.pair) by
    have := (hp2.map Ent.pair).symm
    simpa using this)
  have HF3 := Lib.hid (show HF hs hs.length 0 by rw [hl2]; exact hF2)
  clear hl2 hp2 hF2 hW2 hH2 hH hW hgl b3 hWlo
  go_wp2
  go_loopw [4, 5, 6, 7] (fun v _ _ _ wq => ∃ (gb cb : Nat) (bs hs : List Ent) (pre : List (List Int × Int)), v = .slice (some ⟨gb, 0, none⟩) bs.length cb ∧ HP wq lo w.heap.size w.heap.size g cap hs ∧ HF hs hs.length 0 ∧ OB wq w2.heap.size gb cb bs ∧ CL (bs.map Ent.pair) pre ∧ (es.map Ent.pair).Perm (pre ++ hs.map Ent.pair) ∧ (∀ f ∈ hs, ∀ q ∈ pre, lessB f.r q.1 = false) ∧ Below lo w wq) (fun _ _ _ _ wq => lenAt w.heap.size wq)
  case atStart => exact ⟨w2.heap.size, 0, [], hs, [], rfl, hH3, HF3.out, hE3, CL.nil, HPM.out, fun f _ q hq => (by cases hq), hb3⟩
  case round =>
    obtain ⟨gb, cb, bs, ts, pre, rfl, hH, hF, hO, hbs, hpm, hle, hW⟩ := hrel
    have HHF := Lib.hid hF
    have HBS := Lib.hid hbs
    have HPM2 := Lib.hid hpm
    have HLE := Lib.hid hle
    have hlen := hH.len
    have HLEN := Lib.hid hlen
    have hp0 : wr.cell? ⟨w.heap.size, 0, none⟩ = some (.slice (some ⟨g, 0, none⟩) ts.length cap) := hH.1.cell 0
    have hpl := hH.1.lt
    have htot : pre.length + ts.length = es.length := by have := HPM2.out.length_eq; simp at this; omega
    clear hF hbs hpm hle hlen hH3 hE3 HF3 HPM hb3
    have hgb := hO.lt
    by_cases h0 : 0 < ts.length
    · obtain ⟨n, hn⟩ : ∃ n, ts.length = n + 1 := ⟨ts.length - 1, by omega⟩
      have HN := Lib.hid hn
      have hnb : n < 1048576 := by omega
      have hc0 := hH.2.2.2 ts[0] (List.getElem_mem h0)
      rw [← ex_eq h0] at hc0
      have HMEM := Lib.hid (show ex ts 0 ∈ ts by rw [ex_eq h0]; exact List.getElem_mem h0)
      clear hn
      go_wp2_with fail
      refine (heapLen_any _ _ _ wr).mono ?_
      rintro e w' ⟨rfl, rfl⟩
      go_wp2_with fail
      refine (heapPop_any lo w.heap.size w2.heap.size w.heap.size g cap n ts wr hH hgt hpt HN.out (by rw [← HN.out]; exact HHF.out) (by omega)).mono ?_
      rintro e w4 ⟨rfl, fs, hH4, hfl, hpm4, hF4, hmin, hR4, hW4⟩
      have hlr : lo ≤ wr.heap.size := by have := hW.size; omega
      have hrl : (kx ts 0).length ≤ 1099511627776 := hc0.2
      have hIr' : Ints w4 w4.heap.size (ex ts 0).A (kx ts 0) := hR4.ints
      have hnn : addW 0 (ex ts 0).n = (ex ts 0).n := HN64.out _ (HPM2.out.symm.subset (List.mem_append.2 (.inr (List.mem_map_of_mem HMEM.out))))
      have hb4 : Below lo w w4 := hW.trans (hW4.bel hlr)
      have hO4 : OB w4 w2.heap.size gb cb bs := OBag.top hO hW4
      have hpm5 : (es.map Ent.pair).Perm ((pre ++ [(kx ts 0, (ex ts 0).n)]) ++ fs.map Ent.pair) := by
        have h1 := hpm4.map Ent.pair
        rw [List.map_cons] at h1
        refine HPM2.out.trans ?_
        rw [List.append_assoc]
        exact List.Perm.append_left _ h1
      have hle5 : ∀ f ∈ fs, ∀ q ∈ pre ++ [(kx ts 0, (ex ts 0).n)], lessB f.r q.1 = false := by
        intro f hf q hq
        rcases List.mem_append.1 hq with hq | hq
        · exact HLE.out f (hpm4.symm.subset (List.mem_cons_of_mem _ hf)) q hq
        · rw [List.mem_singleton.1 hq]; exact hmin f hf
      have hlast : ∀ q ∈ bs.map Ent.pair, lessB (kx ts 0) q.1 = false := fun q hq => by
        obtain ⟨p, hp, e⟩ := HBS.out.2.2.1 q hq
        rw [e]; exact HLE.out _ HMEM.out p hp
      have hprel : pre.length ≤ 1048576 := by omega
      have hF5 : HF fs fs.length 0 := by rw [hfl]; exact hF4
      have hbl : bs.length ≤ 1048576 := by
        have h1 := HBS.out.2.2.2
        rw [List.length_map] at h1
        omega
      have HBR := Lib.hid (show ∀ e ∈ bs, e.r.length ≤ 1099511627776 from fun e he => by
        obtain ⟨q, hq, e1⟩ := HBS.out.2.2.1 e.pair (List.mem_map_of_mem he)
        have := HLe.out q (HPM2.out.symm.subset (List.mem_append.2 (.inl hq)))
        rw [show e.r = q.1 from e1]; exact this)
      have HFL := Lib.hid hfl
      have HF5 := Lib.hid hF5
      have HPM5 := Lib.hid hpm5
      have HLE5 := Lib.hid hle5
      have HLAST := Lib.hid hlast
      have hs4 : w2.heap.size ≤ w4.heap.size := by have := hO4.lt; omega
      clear hR4 hc0 hpm5 hle5 hlast hF5 hF4 hmin hpm4 hfl hW4 hH hO hW hp0 HMEM HLE HPM2 HHF hlr hpl
      have HNN := Lib.hid hnn
      clear hnn
      generalize kx ts 0 = r at *
      generalize (ex ts 0).n = nn at *
      generalize (ex ts 0).A = A0 at *
      generalize (ex ts 0).c = c0 at *
      have b5 := (Below.refl w4.heap.size w4).alloc (Nat.le_refl _) (.cells #[.slice A0 r.length c0, .int .i64 nn] 37)
      have BC := Blk.new w4 37 #[.slice A0 r.length c0, .int .i64 nn]
      rcases Nat.eq_zero_or_pos bs.length with hb0 | hb0
      · obtain rfl : bs = [] := List.length_eq_zero_iff.1 hb0
        clear hb0
        have LASTNEW := Lib.hid (HBS.out.new (r := r) HNN.out HLAST.out (fun m hm => by simp at hm))
        have hHa := hH4.on b5
        have hOa : OB (w4.alloc (.cells #[.slice A0 r.length c0, .int .i64 nn] 37)) w2.heap.size gb cb ([] : List Ent) := OBag.on hO4 b5
        have hba : Below lo w (w4.alloc (.cells #[.slice A0 r.length c0, .int .i64 nn] 37)) := hb4.trans (b5.mono (by have := hb4.size; omega))
        have hIa : Ints (w4.alloc (.cells #[.slice A0 r.length c0, .int .i64 nn] 37)) (w4.alloc (.cells #[.slice A0 r.length c0, .int .i64 nn] 37)).heap.size A0 r := hIr'.on b5
        have BCa := BC
        have hlo4a : w2.heap.size ≤ (w4.alloc (.cells #[.slice A0 r.length c0, .int .i64 nn] 37)).heap.size := Nat.le_trans hs4 b5.size
        have hlowa : w.heap.size ≤ (w4.alloc (.cells #[.slice A0 r.length c0, .int .i64 nn] 37)).heap.size := hba.size
        have hgbG : gb < w4.heap.size := hO4.lt.2
        go_wp2_with fail
        clear hH4 hO4 hb4 hIr' BC b5 hs4
        generalize w4.alloc (.cells #[.slice A0 r.length c0, .int .i64 nn] 37) = wa at *
        generalize w4.heap.size = G at *
        have hnG : some G ≠ (Value.slice (some ⟨gb, 0, none⟩) ([] : List Ent).length cb).ownBlock := fun e => by have : G = gb := Option.some.inj e; omega
        go_quiet (fail)
        have hHb : HP (wa.drewN nq) lo w.heap.size w.heap.size g cap fs := hHa
        have hOb : OB (wa.drewN nq) w2.heap.size gb cb ([] : List Ent) := hOa
        have hbb := bel_drewN hba nq
        have hIb : Ints (wa.drewN nq) (wa.drewN nq).heap.size A0 r := hIa
        have BCb := BCa.drewN nq
        have hlo4b : w2.heap.size ≤ (wa.drewN nq).heap.size := hlo4a
        have hlowb : w.heap.size ≤ (wa.drewN nq).heap.size := hlowa
        clear hHa hOa hba hIa BCa hlo4a hlowa
        generalize wa.drewN nq = wb at *
        go_wp2_with fail
        have hlo4 : w2.heap.size ≤ wb.heap.size := hlo4b
        have hGl := BCb.lt
        have d0 : wb.cell? ⟨G, 0, none⟩ = some (.slice A0 r.length c0) := BCb.cell 0
        have d1 : wb.cell? ⟨G, 1, none⟩ = some (.int .i64 nn) := BCb.cell 1
        go_region_held3 (fun w' => w'.cell? ⟨G, 0, none⟩ = some (.slice A0 r.length c0) ∧ w'.cell? ⟨G, 1, none⟩ = some (.int .i64 nn))
          (first | go_keep | exact ⟨(far_cell (p := ⟨G, 0, none⟩) hb6 hgrow7 hGl hnG).trans d0, (far_cell (p := ⟨G, 1, none⟩) hb6 hgrow7 hGl hnG).trans d1⟩ | exact ⟨(hb6.cell (p := ⟨G, 0, none⟩) hGl).trans d0, (hb6.cell (p := ⟨G, 1, none⟩) hGl).trans d1⟩)
          (first | (refine step_append_any _ rfl (.tmp 46) (.tmp 53) 26 (by rfl) w2.heap.size 37 i0 _ 2 32 Tryd.underlying26 hi0 hz0 hz1 hz2 rfl (by omega) _ _ (entCells ([] : List Ent)) (by rfl) (hO6.1.alloc _) _ (some ⟨w6.heap.size, 0, none⟩) 1 1 [.slice A6 r.length c6, .int .i64 nn] (by rfl) (reads_new2 w6 _ _ _) (by simp [Value.oneCell']) (by simp only [maxLen]; omega) (by omega) (by rw [World.size_alloc]; have hs1 : wb.heap.size ≤ w6.heap.size := hb6.size; omega) ?_; intro v7 w7 hown7 hgrow7 hat7) | (go_at_call 46; refine (copyOfRow_row A0 c0 r _ (by exact hIb) hrl).mono ?_; rintro e w6 ⟨A6, c6, g6, rfl, hg6, hR6, hb6⟩; have hO6 := (OBag.drewN hOb 1).on hb6))
        have hs6 : wb.heap.size ≤ w6.heap.size := hb6.size
        have hO7 : OBag w7 w2.heap.size v7 (([] : List Ent) ++ [⟨r, nn, A6, c6, g6⟩]) := OBag.pushRow hOb rfl hlo4 hg6 hR6 hO6 hown7 hgrow7 hat7
        obtain ⟨g7, hg7⟩ : ∃ g7, v7.ownBlock = some g7 := by
          rcases hat7 with h | h
          · exact ⟨_, h⟩
          · exact ⟨_, h⟩
        obtain ⟨c7, hv7, hOB7⟩ := hO7.ob hg7
        have b67 : Below wb.heap.size wb.drew (w6.alloc (.cells #[.slice A6 r.length c6, .int .i64 nn] 37)) := Below.alloc hb6 hs6 _
        have hH7 : HP w7 lo w.heap.size w.heap.size g cap fs := ((show HP wb.drew lo w.heap.size w.heap.size g cap fs from hHb).on b67).far (gb := gb) hgrow7 (by have := hOb.lt; omega) (by have := hOb.lt; omega)
        have hW7 : Below lo w w7 := ((bel_drewN hbb 1).trans (b67.mono (by omega))).grown hgrow7 (by rw [World.size_alloc]; omega) (fun q e => by have : gb = q := Option.some.inj e; have := hOb.lt; omega)
        have HBS7 := Lib.hid (show CL ((([] : List Ent) ++ [(⟨r, nn, A6, c6, g6⟩ : Ent)]).map Ent.pair) (pre ++ [(r, nn)]) from LASTNEW.out)
        have hm7 := hH7.len
        have HM7 := Lib.hid hm7
        have HV7 := Lib.hid hv7
        clear hm7 hv7 hg7 hO7 hown7 hgrow7 hat7 hO6 hR6 hg6 hb6 b67 hHb hOb hbb hIb d0 d1
        go_wp2
        go_roundw
        case rel => exact ⟨g7, c7, _, fs, pre ++ [(r, nn)], HV7.out, hH7, HF5.out, hOB7, HBS7.out, HPM5.out, HLE5.out, hW7⟩
        case measure => rw [HM7.out, HLEN.out, HFL.out, HN.out]; omega
      · obtain ⟨m, hm⟩ : ∃ m, bs.length = m + 1 := ⟨bs.length - 1, by omega⟩
        have hml : (bs.length : Int) - 1 = (m : Int) := by omega
        have hmlt : m < bs.length := by omega
        have hm0 : (0 : Int) ≤ (m : Int) := by omega
        have hm1 : (m : Int) < (bs.length : Int) := by omega
        have HM := Lib.hid hm
        clear hm
        have hlb : (bs.map Ent.pair).length = m + 1 := by rw [List.length_map, HM.out]
        have HRX := Lib.hid (show rx (bs.map Ent.pair) m = bs[m].r by rw [rx_map hmlt])
        have HNX := Lib.hid (show nx (bs.map Ent.pair) m = bs[m].n by rw [nx_map hmlt])
        have HLB := Lib.hid hlb
        have hel := HBR.out bs[m] (List.getElem_mem hmlt)
        clear hlb
        have hHa := hH4.on b5
        have hOa : OB (w4.alloc (.cells #[.slice A0 r.length c0, .int .i64 nn] 37)) w2.heap.size gb cb bs := OBag.on hO4 b5
        have hba : Below lo w (w4.alloc (.cells #[.slice A0 r.length c0, .int .i64 nn] 37)) := hb4.trans (b5.mono (by have := hb4.size; omega))
        have hIa : Ints (w4.alloc (.cells #[.slice A0 r.length c0, .int .i64 nn] 37)) (w4.alloc (.cells #[.slice A0 r.length c0, .int .i64 nn] 37)).heap.size A0 r := hIr'.on b5
        have BCa := BC
        have hlo4a : w2.heap.size ≤ (w4.alloc (.cells #[.slice A0 r.length c0, .int .i64 nn] 37)).heap.size := Nat.le_trans hs4 b5.size
        have hlowa : w.heap.size ≤ (w4.alloc (.cells #[.slice A0 r.length c0, .int .i64 nn] 37)).heap.size := hba.size
        have hgbG : gb < w4.heap.size := hO4.lt.2
        obtain ⟨k0, k1, kf⟩ := OBag.cellsAt hOa hmlt
        have hIm := (hOa.2.1 bs[m] (List.getElem_mem hmlt)).1.ints
        have e0 : (w4.alloc (.cells #[.slice A0 r.length c0, .int .i64 nn] 37)).cell? ⟨w4.heap.size, 0, none⟩ = some (.slice A0 r.length c0) := BC.cell 0
        by_cases he : bs[m].r = r
        · have HE := Lib.hid he
          clear he
          go_wp2_with fail
          clear hH4 hO4 hb4 hIr' BC b5 hs4
          generalize w4.alloc (.cells #[.slice A0 r.length c0, .int .i64 nn] 37) = wa at *
          generalize w4.heap.size = G at *
          have hnG : some G ≠ (Value.slice (some ⟨gb, 0, none⟩) bs.length cb).ownBlock := fun e => by have : G = gb := Option.some.inj e; omega
          go_quiet (first | (go_at_call 29; exact Calls.quiet_of (slicesEqual_yes bs[m].A A0 bs[m].c c0 bs[m].r r _ _ _ (by exact hIm) (by exact hIa) hel hrl HE.out)))
          have k1b : (wa.drewN nq).cell? ⟨gb, m * 2 + 1, none⟩ = some (.int .i64 bs[m].n) := k1
          have kfb : (wa.drewN nq).frozen? ⟨gb, m * 2 + 1, none⟩ = false := kf
          clear k0 k1 kf hIm e0
          have hHb : HP (wa.drewN nq) lo w.heap.size w.heap.size g cap fs := hHa
          have hOb : OB (wa.drewN nq) w2.heap.size gb cb bs := hOa
          have hbb := bel_drewN hba nq
          have hIb : Ints (wa.drewN nq) (wa.drewN nq).heap.size A0 r := hIa
          have BCb := BCa.drewN nq
          have hlo4b : w2.heap.size ≤ (wa.drewN nq).heap.size := hlo4a
          have hlowb : w.heap.size ≤ (wa.drewN nq).heap.size := hlowa
          clear hHa hOa hba hIa BCa hlo4a hlowa
          generalize wa.drewN nq = wb at *
          have d1 : wb.cell? ⟨G, 1, none⟩ = some (.int .i64 nn) := BCb.cell 1
          have hadd : IntKind.i64.wrap (bs[m].n + nn) = addW bs[m].n nn := rfl
          have hadd' : wrap64 (bs[m].n + nn) = addW bs[m].n nn := by unfold addW; rw [IntKind.wrap_i64, wrap64]
          go_wp2_with fail
          go_region
          have hOs := hOb.setN hmlt (addW bs[m].n nn)
          have hHs := hHb.far (grown_setCell wb gb (m * 2 + 1) (.int .i64 (addW bs[m].n nn))) (by have := hOb.lt; omega) (by have := hOb.lt; omega)
          have hbs : Below lo w (wb.setCell ⟨gb, m * 2 + 1, none⟩ (.int .i64 (addW bs[m].n nn))) := hbb.setCell (p := ⟨gb, m * 2 + 1, none⟩) (by have := hOb.lt; simp; omega) _
          have HBS7 := Lib.hid (show CL ((bs.set m { bs[m] with n := addW bs[m].n nn }).map Ent.pair) (pre ++ [(r, nn)]) by
            have h1 := HBS.out.last HLB.out (n := nn) (HRX.out.trans HE.out)
            rw [HNX.out] at h1
            rw [List.map_set, show ({ bs[m] with n := addW bs[m].n nn } : Ent).pair = (r, addW bs[m].n nn) by simp only [Ent.pair, HE.out]]
            exact h1)
          have HM7 := Lib.hid hHs.len
          clear hOb hHb hbb hIb BCb k1b kfb d1 hadd hadd'
          go_wp2
          go_roundw
          case rel => exact ⟨gb, cb, bs.set m { bs[m] with n := addW bs[m].n nn }, fs, pre ++ [(r, nn)], by rw [List.length_set], hHs, HF5.out, hOs, HBS7.out, HPM5.out, HLE5.out, bel_drewN hbs 1⟩
          case measure => rw [show lenAt w.heap.size (World.drew (wb.setCell ⟨gb, m * 2 + 1, none⟩ (.int .i64 (addW bs[m].n nn)))) = fs.length from HM7.out, HLEN.out, HFL.out, HN.out]; omega
        · have LASTNEW := Lib.hid (HBS.out.new (r := r) HNN.out HLAST.out (fun q hq hr => by
            have hqm : q = m := by have := HLB.out; omega
            subst hqm
            exact he (HRX.out.symm.trans hr)))
          have HE := Lib.hid he
          clear he
          go_wp2_with fail
          clear hH4 hO4 hb4 hIr' BC b5 hs4
          generalize w4.alloc (.cells #[.slice A0 r.length c0, .int .i64 nn] 37) = wa at *
          generalize w4.heap.size = G at *
          have hnG : some G ≠ (Value.slice (some ⟨gb, 0, none⟩) bs.length cb).ownBlock := fun e => by have : G = gb := Option.some.inj e; omega
          go_quiet (first | (go_at_call 29; exact Calls.quiet_of (slicesEqual_no bs[m].A A0 bs[m].c c0 bs[m].r r _ _ _ (by exact hIm) (by exact hIa) hel hrl HE.out)))
          clear k0 k1 kf hIm e0
          have hHb : HP (wa.drewN nq) lo w.heap.size w.heap.size g cap fs := hHa
          have hOb : OB (wa.drewN nq) w2.heap.size gb cb bs := hOa
          have hbb := bel_drewN hba nq
          have hIb : Ints (wa.drewN nq) (wa.drewN nq).heap.size A0 r := hIa
          have BCb := BCa.drewN nq
          have hlo4b : w2.heap.size ≤ (wa.drewN nq).heap.size := hlo4a
          have hlowb : w.heap.size ≤ (wa.drewN nq).heap.size := hlowa
          clear hHa hOa hba hIa BCa hlo4a hlowa
          generalize wa.drewN nq = wb at *
          go_wp2_with fail
          have hlo4 : w2.heap.size ≤ wb.heap.size := hlo4b
          have hGl := BCb.lt
          have d0 : wb.cell? ⟨G, 0, none⟩ = some (.slice A0 r.length c0) := BCb.cell 0
          have d1 : wb.cell? ⟨G, 1, none⟩ = some (.int .i64 nn) := BCb.cell 1
          go_region_held3 (fun w' => w'.cell? ⟨G, 0, none⟩ = some (.slice A0 r.length c0) ∧ w'.cell? ⟨G, 1, none⟩ = some (.int .i64 nn))
            (first | go_keep | exact ⟨(far_cell (p := ⟨G, 0, none⟩) hb6 hgrow7 hGl hnG).trans d0, (far_cell (p := ⟨G, 1, none⟩) hb6 hgrow7 hGl hnG).trans d1⟩ | exact ⟨(hb6.cell (p := ⟨G, 0, none⟩) hGl).trans d0, (hb6.cell (p := ⟨G, 1, none⟩) hGl).trans d1⟩)
            (first | (refine step_append_any _ rfl (.tmp 46) (.tmp 53) 26 (by rfl) w2.heap.size 37 i0 _ 2 32 Tryd.underlying26 hi0 hz0 hz1 hz2 rfl (by omega) _ _ (entCells bs) (by rfl) (hO6.1.alloc _) _ (some ⟨w6.heap.size, 0, none⟩) 1 1 [.slice A6 r.length c6, .int .i64 nn] (by rfl) (reads_new2 w6 _ _ _) (by simp [Value.oneCell']) (by simp only [maxLen]; omega) (by omega) (by rw [World.size_alloc]; have hs1 : wb.heap.size ≤ w6.heap.size := hb6.size; omega) ?_; intro v7 w7 hown7 hgrow7 hat7) | (go_at_call 46; refine (copyOfRow_row A0 c0 r _ (by exact hIb) hrl).mono ?_; rintro e w6 ⟨A6, c6, g6, rfl, hg6, hR6, hb6⟩; have hO6 := (OBag.drewN hOb 1).on hb6))
          have hs6 : wb.heap.size ≤ w6.heap.size := hb6.size
          have hO7 : OBag w7 w2.heap.size v7 (bs ++ [⟨r, nn, A6, c6, g6⟩]) := OBag.pushRow hOb rfl hlo4 hg6 hR6 hO6 hown7 hgrow7 hat7
          obtain ⟨g7, hg7⟩ : ∃ g7, v7.ownBlock = some g7 := by
            rcases hat7 with h | h
            · exact ⟨_, h⟩
            · exact ⟨_, h⟩
          obtain ⟨c7, hv7, hOB7⟩ := hO7.ob hg7
          have b67 : Below wb.heap.size wb.drew (w6.alloc (.cells #[.slice A6 r.length c6, .int .i64 nn] 37)) := Below.alloc hb6 hs6 _
          have hH7 : HP w7 lo w.heap.size w.heap.size g cap fs := ((show HP wb.drew lo w.heap.size w.heap.size g cap fs from hHb).on b67).far (gb := gb) hgrow7 (by have := hOb.lt; omega) (by have := hOb.lt; omega)
          have hW7 : Below lo w w7 := ((bel_drewN hbb 1).trans (b67.mono (by omega))).grown hgrow7 (by rw [World.size_alloc]; omega) (fun q e => by have : gb = q := Option.some.inj e; have := hOb.lt; omega)
          have HBS7 := Lib.hid (show CL ((bs ++ [(⟨r, nn, A6, c6, g6⟩ : Ent)]).map Ent.pair) (pre ++ [(r, nn)]) by rw [List.map_append]; exact LASTNEW.out)
          have hm7 := hH7.len
          have HM7 := Lib.hid hm7
          have HV7 := Lib.hid hv7
          clear hm7 hv7 hg7 hO7 hown7 hgrow7 hat7 hO6 hR6 hg6 hb6 b67 hHb hOb hbb hIb d0 d1
          go_wp2
          go_roundw
          case rel => exact ⟨g7, c7, _, fs, pre ++ [(r, nn)], HV7.out, hH7, HF5.out, hOB7, HBS7.out, HPM5.out, HLE5.out, hW7⟩
          case measure => rw [HM7.out, HLEN.out, HFL.out, HN.out]; omega
    · have hd0 : decide (0 < ts.length) = false := by simpa using h0
      have ht0 : ts = [] := List.length_eq_zero_iff.1 (by omega)
      have HT0 := Lib.hid ht0
      clear ht0
      go_wp2_with fail
      refine (heapLen_any _ _ _ wr).mono ?_
      rintro e w' ⟨rfl, rfl⟩
      have hprl : bs.length ≤ 1099511627776 := by have := HBS.out.2.2.2; rw [List.length_map] at this; omega
      have HBR := Lib.hid (show ∀ e ∈ bs, e.r.length ≤ 1099511627776 from fun e he => by
        obtain ⟨q, hq, e1⟩ := HBS.out.2.2.1 e.pair (List.mem_map_of_mem he)
        have := HLe.out q (HPM2.out.symm.subset (List.mem_append.2 (.inl hq)))
        rw [show e.r = q.1 from e1]; exact this)
      have HEND := Lib.hid (show (bs.filter keptE).map Ent.pair = togL (es.map Ent.pair) by
        have h1 := HPM2.out
        rw [HT0.out, List.map_nil, List.append_nil] at h1
        rw [keptE_pair]
        exact HBS.out.done h1.symm HN64.out)
      go_wp2_with fail
      refine (deleteNone_any w2.heap.size gb cb bs wr hO hprl HBR.out).mono ?_
      rintro e w5 ⟨rfl, hO5, hg5⟩
      have hW5 : Below lo w w5 := hW.grown hg5 (by have := hW.size; omega) (fun q e => by have : gb = q := Option.some.inj e; omega)
      go_wp2
      go_ret
      exact ⟨gb, cb, bs.filter keptE, rfl, OBag.lower hO5 (by omega), HEND.out, hW5⟩
end Go.Proofs.YtedbjjhkjkpnkaaDoor

/- Counts appended to a list that the program fills ahead of together: laws. -/
namespace Go.Proofs.YtedbjjhkjkpnkaaDoor
open Go.RowKit

/-- The list with one more count. -/
theorem HC.push {w w' : World} {lo g cap : Nat} {es : List Ent} {v' : Value} {e : Ent} {o : Obj} (h : HC w lo w.heap.size g cap es) (hg : (w.alloc o).grownBy w' (some g)) (hown : w'.ownsRow lo 37 2 v' (es.length + 1) (entCells es ++ e.cells)) (hat : v'.ownBlock = some g ∨ v'.ownBlock = some (w.alloc o).heap.size)
    (he : RowG w w.heap.size g e.A e.r ∧ e.r.length ≤ 1099511627776) : ∃ g' cap', v' = .slice (some ⟨g', 0, none⟩) (es ++ [e]).length cap' ∧ HC w' lo w'.heap.size g' cap' (es ++ [e]) ∧ (g' = g ∨ w.heap.size < g') := by
  obtain ⟨g', hv⟩ : ∃ g', v'.ownBlock = some g' := by
    rcases hat with h | h
    · exact ⟨_, h⟩
    · exact ⟨_, h⟩
  have hform : ∃ cap', v' = .slice (some ⟨g', 0, none⟩) (es ++ [e]).length cap' := by
    rcases hown.2 with ⟨rfl, _⟩ | ⟨g2, cap2, cur, rfl, _⟩
    · cases hv
    · have e2 : g2 = g' := Option.some.inj hv
      subst e2
      exact ⟨cap2, by simp⟩
  obtain ⟨cap', rfl⟩ := hform
  have hg' : g' = g ∨ g' = w.heap.size + 1 := by
    rcases hat with h | h
    · exact .inl (Option.some.inj h)
    · right; have := Option.some.inj h; simpa [World.size_alloc] using this
  have hsz : w.heap.size < w'.heap.size := by have := hg.size; rw [World.size_alloc] at this; omega
  have key : ∀ (A : Option Addr) (r : List Int), RowG w w.heap.size g A r → RowG w' w'.heap.size g' A r := by
    intro A r hr hn
    obtain ⟨b, off, e1, h1, h2, h3, hc⟩ := hr hn
    refine ⟨b, off, e1, by omega, by rcases hg' with h | h <;> omega, by omega, fun j hj => ?_⟩
    have e2 : w'.heap[b]? = (w.alloc o).heap[b]? := hg.block b (by rw [World.size_alloc]; omega) (fun e => h2 (Option.some.inj e))
    rw [World.cell?_of_block (a := ⟨b, off + j, none⟩) e2, World.cell?_alloc_lt w o _ h3]
    exact hc j hj
  refine ⟨g', cap', rfl, ⟨?_, fun f hf => ?_⟩, by omega⟩
  · rw [entCells_append, show entCells [e] = e.cells by simp [entCells], List.length_append, List.length_singleton]
    simpa using hown
  · rcases List.mem_append.1 hf with hf | hf
    · exact ⟨key _ _ (h.2 f hf).1, (h.2 f hf).2⟩
    · obtain rfl := List.mem_singleton.1 hf
      exact ⟨key _ _ he.1, he.2⟩
theorem HC.onTop {w w' : World} {lo g cap : Nat} {es : List Ent} (h : HC w lo w.heap.size g cap es) (hb : Below w.heap.size w w') : HC w' lo w'.heap.size g cap es := (h.on hb).upto
theorem HC.drewN {w : World} {lo hi g cap : Nat} {es : List Ent} (h : HC w lo hi g cap es) (n : Nat) : HC (w.drewN n) lo hi g cap es := h
theorem HC.nil (w : World) : HC (w.alloc (.cells #[] 37)) w.heap.size (w.alloc (.cells #[] 37)).heap.size w.heap.size 0 [] := ⟨empty_counts w, fun e he => by cases he⟩
theorem make_counts (n : Nat) (hn : n ≤ 1099511627776) (w : World) : (Instr.makeSlice 26 (.int .i64 0) (.int .i64 (n : Int))).run Tryd.prog w = .ok (.slice (some ⟨w.heap.size, 0, none⟩) 0 n) (w.alloc (.cells (madeCells #[.slice none 0 0, .int .i64 0] (n * 2)) 37)) := by
  obtain ⟨i, hi, hz, hs, hby⟩ := info_parts info_count
  have := run_make (P := Tryd.prog) w 26 37 i (.agg #[.slice none 0 0, .int .i64 0]) Tryd.underlying26 hi hz .i64 .i64 0 (n : Int) (by omega) (by omega) (by rw [hby]; omega) (by omega)
  rw [hs] at this
  simpa [Value.cells] using this
theorem HC.made (w : World) (n : Nat) (hn : n ≤ 1099511627776) : HC (w.alloc (.cells (madeCells #[.slice none 0 0, .int .i64 0] (n * 2)) 37)) w.heap.size (w.alloc (.cells (madeCells #[.slice none 0 0, .int .i64 0] (n * 2)) 37)).heap.size w.heap.size n [] :=
  ⟨World.ownsRow_made w _ n (Nat.le_refl _) (by simp only [maxLen]; omega) (size_madeCells _ _), fun e he => by cases he⟩
end Go.Proofs.YtedbjjhkjkpnkaaDoor

/- The contract of the program's BagOf: the bag of its rows in memory of its own; nothing that lay has turned. For slices of at most 2^20 rows, each of at most 2^40. -/
namespace Go.Proofs.YtedbjjhkjkpnkaaDoor
open Go.RowKit

theorem tog_rowsL (rows : List (List Int)) : togL (rows.map fun r => (r, 1)) = bagOfL rows := by
  unfold togL bagOfL; rw [List.foldl_map]
set_option maxRecDepth 100000 in
set_option maxHeartbeats 4000000 in
theorem implBagOf_any (A : Option Addr) (c : Nat) (rows : List (List Int)) (w : World) (hB : Rws w w.heap.size A rows) (hl : rows.length ≤ 1048576) :
    Calls Tryd.prog 6 #[.slice A rows.length c] w (OwnBag w.heap.size (bagOfL rows) w) := by
  obtain ⟨i0, hi0, hz0, hz1, hz2⟩ := info_parts info_count
  have hmk := make_counts rows.length (by omega) w
  have hE1 := HC.made w rows.length (by omega)
  have b1 := (Below.refl w.heap.size w).alloc (Nat.le_refl _) (.cells (madeCells #[.slice none 0 0, .int .i64 0] (rows.length * 2)) 37)
  go_enter Tryd.func6, Tryd.ntmps6
  go_wp2
  go_loopw [3, 11] (fun v s wr => ∃ (k g cap : Nat) (es : List Ent), k ≤ rows.length ∧ s = .int .i64 k ∧ v = .slice (some ⟨g, 0, none⟩) es.length cap ∧ HC wr w.heap.size wr.heap.size g cap es ∧ es.map Ent.pair = (rows.take k).map (fun r => (r, 1)) ∧ Below w.heap.size w wr) (fun _ s _ => rows.length - (intOf s).toNat)
  case atStart => exact ⟨0, w.heap.size, rows.length, [], Nat.zero_le _, rfl, rfl, hE1, rfl, b1⟩
  case round =>
    obtain ⟨k, g, cap, es, hk, rfl, rfl, hH, he, hW⟩ := hrel
    have hel : es.length = k := by have := congrArg List.length he; simp at this; omega
    have HE := Lib.hid he
    have hel2 : es.length ≤ 1048576 := by omega
    have HEL := Lib.hid hel
    clear he hel hE1 b1 hmk
    by_cases hlt : k < rows.length
    · obtain ⟨b, off, rfl, hblt, hc⟩ := hB (by omega)
      obtain ⟨Ar, cr, c1, c3, c4⟩ := hc k hlt
      have h1 : wr.cell? ⟨b, off + k, none⟩ = some (.slice Ar (rr rows k).length cr) := (hW.cell hblt).trans c1
      have h3 := c3.below hW
      clear hc c1 c3
      have hw0 : w.heap.size ≤ wr.heap.size := hW.size
      have hgl := hH.lt
      have hrg : RowG wr wr.heap.size g Ar (rr rows k) := RowG.of h3 hw0 hw0 hgl.1
      go_wp2_with (at_builtin; refine wpList_append_any _ rfl (.tmp 15) (.tmp 18) 26 rfl w.heap.size 37 i0 _ 2 32 Tryd.underlying26 hi0 hz0 hz1 hz2 rfl (by decide) _ _ (entCells es) rfl (hH.1.alloc _) _ (some ⟨wr.heap.size, 0, none⟩) 1 1 [.slice Ar (rr rows k).length cr, .int .i64 1] rfl (reads_new2 wr _ _ _) (by simp [Value.oneCell']) (by simp only [maxLen]; omega) (by omega) (by rw [World.size_alloc]; omega) ?_; intro v2 w2 hown2 hg2 hat2; obtain ⟨g2, cap2, hv2, hC2, _⟩ := hH.push (e := ⟨rr rows k, 1, Ar, cr, 0⟩) hg2 hown2 hat2 ⟨hrg, c4⟩; subst hv2)
      have hW2 : Below w.heap.size w w2 := (hW.alloc hW.size _).grown hg2 (by rw [World.size_alloc]; omega) (fun r e => by have : g = r := Option.some.inj e; omega)
      have HE2 := Lib.hid (show (es ++ [(⟨rr rows k, 1, Ar, cr, 0⟩ : Ent)]).map Ent.pair = (rows.take (k + 1)).map (fun r => (r, 1)) by rw [List.map_append, HE.out, List.take_succ_eq_append_getElem hlt, List.map_append, rr_eq hlt]; rfl)
      have HH2 := Lib.hid hC2
      have HW2 := Lib.hid hW2
      clear hown2 hg2 hat2 hC2 hH hW hW2 h1 h3 hrg hgl
      go_wp2
      go_roundw
      case rel => exact ⟨k + 1, g2, cap2, _, by omega, by go_num, by simp, HH2.out, HE2.out, HW2.out⟩
      case measure => simp [intOf]; omega
    · have hd : decide (k < rows.length) = false := by simpa using hlt
      have HEQ := Lib.hid (show es.map Ent.pair = rows.map (fun r => (r, 1)) by rw [HE.out, List.take_of_length_le (by omega)])
      have hN : N64 (es.map Ent.pair) := by
        intro p hp
        rw [HEQ.out] at hp
        obtain ⟨r, _, rfl⟩ := List.mem_map.1 hp
        show addW 0 1 = 1
        rw [addW_small (by omega) (by omega) (by omega) (by omega)]; rfl
      go_wp2_with fail
      refine (together_any w.heap.size g cap es wr hH hN hel2).mono ?_
      rintro e w2 ⟨gb, cb, bs, rfl, hO, hb, hb2⟩
      have HB := Lib.hid hb
      clear hb hN
      go_wp2
      go_ret
      exact ⟨gb, cb, bs, rfl, hO.lower hW.size, by rw [HB.out, HEQ.out, tog_rowsL], hW.trans hb2⟩
end Go.Proofs.YtedbjjhkjkpnkaaDoor
