/- Texts joined: Heap0, Heap1, Heap2, Heap3, Heap4, TogThy, Tog0, Del1, TogI, TogP, BagOf3: contracts and plain facts; each says its own below. -/
import Derived.Test.YtejgofhpjkebbaaDoorJB
import Derived.Test.YtejgofhpjkebbaaDoorJC
import Derived.Test.YtejgofhpjkebbaaDoorJD
/- A method of a value, called through an interface that holds a pointer to it: which function it is, and the receiver read from memory. The types and functions of the program that are named: the heap of counts. -/
namespace Go.Proofs.YtejgofhpjkebbaaDoor
open Go.RowKit
theorem wrap_run (P : Program) (t : TypeId) (a : Addr) (s m : String) (w : World) : (Builtin.ssaWrapNilChk_ #[t] t #[.pointer (some a), strVal s, strVal m]).run P w = .ok (.pointer (some a)) w := rfl
theorem meth_val {P : Program} {t elem : TypeId} {name : String} {f : FuncId} (hu : P.underlying t = some (.pointer elem)) (h : (P.info? t).map (fun i => (i.methods.find? (·.name == name)).map fun m => (m.path.toList.length, m.func)) = some (some (0, some (f, false))))
    (a : Addr) (v : Value) (fuel : Nat) (w : World) (hl : (loadVar elem a).run P w = .ok v w) : (method (fuel + 1) t (.pointer (some a)) name).run P w = .ok (f, v) w := by
  cases hi : P.info? t with
  | none => rw [hi] at h; cases h
  | some i =>
    rw [hi] at h
    simp only [Option.map_some, Option.some.injEq] at h
    cases hm : i.methods.find? (·.name == name) with
    | none => rw [hm] at h; cases h
    | some m =>
      rw [hm] at h
      simp only [Option.map_some, Option.some.injEq, Prod.mk.injEq] at h
      obtain ⟨h1, h2⟩ := h
      have h3 : m.path.toList = [] := List.length_eq_zero_iff.1 h1
      have h4 : m.path = #[] := by simpa using h3
      simp [method, typeInfo, hi, hm, h2, h4, follow, receiverAt, Place.get, run_underlying hu, wrap_run, asAddr, hl]
end Go.Proofs.YtejgofhpjkebbaaDoor

/- Plain facts on a heap of counts in a list: what a sift down keeps, what it brings; the first is the least. No condition; nothing of the program is named. -/
namespace Go.Proofs.YtejgofhpjkebbaaDoor
open Go.RowKit

def noEnt : Ent := ⟨[], 0, none, 0, 0⟩
def ex (es : List Ent) (i : Nat) : Ent := es[i]?.getD noEnt
theorem ex_eq {es : List Ent} {i : Nat} (h : i < es.length) : ex es i = es[i] := by simp [ex, h]
def kx (es : List Ent) (i : Nat) : List Int := (ex es i).r
def swp (es : List Ent) (i j : Nat) : List Ent := (es.set i (ex es j)).set j (ex es i)
theorem swp_length (es : List Ent) (i j : Nat) : (swp es i j).length = es.length := by simp [swp]
theorem ex_swp {es : List Ent} {i j : Nat} (hi : i < es.length) (hj : j < es.length) (k : Nat) : ex (swp es i j) k = if k = j then ex es i else if k = i then ex es j else ex es k := by
  unfold swp ex
  rw [List.getElem?_set, List.getElem?_set]
  by_cases e1 : k = j
  · subst e1
    rw [if_pos rfl, if_pos rfl, if_pos (by simpa using hj)]
    rfl
  · rw [if_neg (Ne.symm e1), if_neg e1]
    by_cases e2 : k = i
    · subst e2
      rw [if_pos rfl, if_pos rfl, if_pos hi]
      rfl
    · rw [if_neg (Ne.symm e2), if_neg e2]
theorem swp_perm {es : List Ent} {i j : Nat} (hi : i < es.length) (hj : j < es.length) : (swp es i j).Perm es := by
  have e : swp es i j = (es.set i es[j]).set j es[i] := by unfold swp; rw [ex_eq hi, ex_eq hj]
  rw [e]
  by_cases hij : i = j
  · subst hij
    simp
  · rcases Nat.lt_or_ge i j with h | h
    · have h1 : es = es.take i ++ es[i] :: (es.drop (i + 1)).take (j - i - 1) ++ es[j] :: es.drop (j + 1) := by
        have a1 := (List.take_append_drop i es).symm
        have a2 := List.drop_eq_getElem_cons hi
        have a3 := (List.take_append_drop (j - i - 1) (es.drop (i + 1))).symm
        rw [List.drop_drop, show i + 1 + (j - i - 1) = j by omega, List.drop_eq_getElem_cons hj] at a3
        rw [a2, a3] at a1
        simpa using a1
      have hl1 : (es.take i).length = i := by simp; omega
      have hl2 : ((es.drop (i + 1)).take (j - i - 1)).length = j - i - 1 := by simp; omega
      have h2 : (es.set i es[j]).set j es[i] = es.take i ++ es[j] :: (es.drop (i + 1)).take (j - i - 1) ++ es[i] :: es.drop (j + 1) := by
        apply List.ext_getElem?
        intro k
        rw [List.getElem?_set, List.getElem?_set]
        simp only [List.append_assoc, List.cons_append, List.length_set]
        by_cases c1 : k < i
        · rw [if_neg (by omega), if_neg (by omega), List.getElem?_append_left (by omega), List.getElem?_take, if_pos c1]
        · rw [List.getElem?_append_right (by omega), hl1]
          by_cases c2 : k = i
          · subst c2; rw [if_neg (by omega), if_pos rfl, if_pos hi]; simp
          · obtain ⟨d, hd⟩ : ∃ d, k - i = d + 1 := ⟨k - i - 1, by omega⟩
            rw [hd, List.getElem?_cons_succ]
            by_cases c3 : k < j
            · rw [if_neg (by omega), if_neg (by omega), List.getElem?_append_left (by omega), List.getElem?_take, if_pos (by omega), List.getElem?_drop]
              congr 1; omega
            · rw [List.getElem?_append_right (by omega), hl2]
              by_cases c4 : k = j
              · subst c4
                rw [if_pos rfl, if_pos hj, show d - (k - i - 1) = 0 by omega]; simp
              · obtain ⟨d', hd'⟩ : ∃ d', d - (j - i - 1) = d' + 1 := ⟨d - (j - i - 1) - 1, by omega⟩
                rw [if_neg (by omega), if_neg (by omega), hd', List.getElem?_cons_succ, List.getElem?_drop]
                congr 1; omega
      rw [h2]
      conv => rhs; rw [h1]
      simp only [List.append_assoc, List.cons_append]
      refine List.Perm.append_left _ ?_
      refine (List.Perm.cons _ List.perm_middle).trans ?_
      refine (List.Perm.swap _ _ _).trans ?_
      exact List.Perm.cons _ List.perm_middle.symm
    · have hlt : j < i := by omega
      have hc : (es.set i es[j]).set j es[i] = (es.set j es[i]).set i es[j] := List.set_comm _ _ (by omega)
      rw [hc]
      have h1 : es = es.take j ++ es[j] :: (es.drop (j + 1)).take (i - j - 1) ++ es[i] :: es.drop (i + 1) := by
        have a1 := (List.take_append_drop j es).symm
        have a2 := List.drop_eq_getElem_cons hj
        have a3 := (List.take_append_drop (i - j - 1) (es.drop (j + 1))).symm
        rw [List.drop_drop, show j + 1 + (i - j - 1) = i by omega, List.drop_eq_getElem_cons hi] at a3
        rw [a2, a3] at a1
        simpa using a1
      have hl1 : (es.take j).length = j := by simp; omega
      have hl2 : ((es.drop (j + 1)).take (i - j - 1)).length = i - j - 1 := by simp; omega
      have h2 : (es.set j es[i]).set i es[j] = es.take j ++ es[i] :: (es.drop (j + 1)).take (i - j - 1) ++ es[j] :: es.drop (i + 1) := by
        apply List.ext_getElem?
        intro k
        rw [List.getElem?_set, List.getElem?_set]
        simp only [List.append_assoc, List.cons_append, List.length_set]
        by_cases c1 : k < j
        · rw [if_neg (by omega), if_neg (by omega), List.getElem?_append_left (by omega), List.getElem?_take, if_pos c1]
        · rw [List.getElem?_append_right (by omega), hl1]
          by_cases c2 : k = j
          · subst c2; rw [if_neg (by omega), if_pos rfl, if_pos hj]; simp
          · obtain ⟨d, hd⟩ : ∃ d, k - j = d + 1 := ⟨k - j - 1, by omega⟩
            rw [hd, List.getElem?_cons_succ]
            by_cases c3 : k < i
            · rw [if_neg (by omega), if_neg (by omega), List.getElem?_append_left (by omega), List.getElem?_take, if_pos (by omega), List.getElem?_drop]
              congr 1; omega
            · rw [List.getElem?_append_right (by omega), hl2]
              by_cases c4 : k = i
              · subst c4
                rw [if_pos rfl, if_pos hi, show d - (k - j - 1) = 0 by omega]; simp
              · obtain ⟨d', hd'⟩ : ∃ d', d - (i - j - 1) = d' + 1 := ⟨d - (i - j - 1) - 1, by omega⟩
                rw [if_neg (by omega), if_neg (by omega), hd', List.getElem?_cons_succ, List.getElem?_drop]
                congr 1; omega
      rw [h2]
      conv => rhs; rw [h1]
      simp only [List.append_assoc, List.cons_append]
      refine List.Perm.append_left _ ?_
      refine (List.Perm.cons _ List.perm_middle).trans ?_
      refine (List.Perm.swap _ _ _).trans ?_
      exact List.Perm.cons _ List.perm_middle.symm

/-- From place a on no child is less than its parent. -/
def HF (es : List Ent) (n a : Nat) : Prop := ∀ j, 1 ≤ j → j < n → a ≤ (j - 1) / 2 → lessB (kx es j) (kx es ((j - 1) / 2)) = false
theorem HF.half (es : List Ent) (n : Nat) : HF es n (n / 2) := fun j _ _ h3 => by omega
/-- What stands while one sifts down from i0, at place i. -/
def DI (es0 : List Ent) (i0 n i : Nat) (es : List Ent) : Prop :=
  es.Perm es0 ∧ es.length = es0.length ∧ (∀ j, n ≤ j → ex es j = ex es0 j) ∧ i0 ≤ i ∧
  (HF es0 n (i0 + 1) → (∀ j, 1 ≤ j → j < n → i0 ≤ (j - 1) / 2 → (j - 1) / 2 ≠ i → lessB (kx es j) (kx es ((j - 1) / 2)) = false) ∧
    (i0 < i → i0 ≤ (i - 1) / 2 ∧ 1 ≤ i ∧ ∀ j, 1 ≤ j → j < n → (j - 1) / 2 = i → lessB (kx es j) (kx es ((i - 1) / 2)) = false))
theorem DI.start (es : List Ent) (i0 n : Nat) : DI es i0 n i0 es :=
  ⟨List.Perm.refl _, rfl, fun _ _ => rfl, Nat.le_refl _, fun h => ⟨fun j h1 h2 h3 h4 => h j h1 h2 (by omega), fun h0 => absurd h0 (Nat.lt_irrefl _)⟩⟩
theorem kx_swp {es : List Ent} {i j : Nat} (hi : i < es.length) (hj : j < es.length) (k : Nat) : kx (swp es i j) k = if k = j then kx es i else if k = i then kx es j else kx es k := by
  unfold kx
  rw [ex_swp hi hj]
  split
  · rfl
  · split <;> rfl
theorem DI.step {es0 es : List Ent} {i0 n i m : Nat} (h : DI es0 i0 n i es) (hn : n ≤ es.length) (hm : m < n) (hc : (m - 1) / 2 = i) (hm1 : 1 ≤ m) (him : i < m) (hl : lessB (kx es m) (kx es i) = true)
    (hs : ∀ s, 1 ≤ s → s < n → (s - 1) / 2 = i → lessB (kx es s) (kx es m) = false) : DI es0 i0 n m (swp es i m) := by
  obtain ⟨h1, h2, h3, h4, h5⟩ := h
  have hil : i < es.length := by omega
  have hml : m < es.length := by omega
  refine ⟨(swp_perm hil hml).trans h1, by rw [swp_length, h2], fun j hj => ?_, by omega, fun hF => ?_⟩
  · rw [ex_swp hil hml, if_neg (by omega), if_neg (by omega)]; exact h3 j hj
  · obtain ⟨hA, hB⟩ := h5 hF
    refine ⟨fun j hj1 hj2 hj3 hj4 => ?_, fun _ => ⟨by omega, hm1, fun j hj1 hj2 hj3 => ?_⟩⟩
    · rw [kx_swp hil hml, kx_swp hil hml]
      rw [if_neg hj4]
      by_cases e1 : j = m
      · subst e1
        rw [if_pos rfl, if_pos hc]
        exact less_asymm hl
      · rw [if_neg e1]
        by_cases e2 : j = i
        · subst e2
          rw [if_pos rfl, if_neg (by omega)]
          obtain ⟨_, _, hB3⟩ := hB (by omega)
          exact hB3 m hm1 hm hc
        · rw [if_neg e2]
          by_cases e3 : (j - 1) / 2 = i
          · rw [if_pos e3]; exact hs j hj1 hj2 e3
          · rw [if_neg e3]; exact hA j hj1 hj2 hj3 e3
    · rw [kx_swp hil hml, kx_swp hil hml, if_neg (by omega), if_neg (by omega), hc, if_neg (by omega), if_pos rfl]
      have := hA j hj1 hj2 (by omega) (by omega)
      rw [hj3] at this
      exact this
theorem DI.stop {es0 es : List Ent} {i0 n i : Nat} (h : DI es0 i0 n i es) (hs : ∀ s, 1 ≤ s → s < n → (s - 1) / 2 = i → lessB (kx es s) (kx es i) = false) (hF : HF es0 n (i0 + 1)) : HF es n i0 := by
  obtain ⟨hA, _⟩ := h.2.2.2.2 hF
  intro j h1 h2 h3
  by_cases e : (j - 1) / 2 = i
  · rw [e]; exact hs j h1 h2 e
  · exact hA j h1 h2 h3 e
theorem heap_min {es : List Ent} {n : Nat} (h : HF es n 0) : ∀ j, j < n → lessB (kx es j) (kx es 0) = false := by
  intro j
  induction j using Nat.strongRecOn with
  | _ j ih =>
    intro hj
    rcases Nat.eq_zero_or_pos j with h0 | h0
    · subst h0; exact less_irrefl _
    · have h1 := ih ((j - 1) / 2) (by omega) (by omega)
      have h2 := h j h0 hj (Nat.zero_le _)
      exact le_trans_B h1 h2
end Go.Proofs.YtejgofhpjkebbaaDoor

/- Contracts of the heap of counts: its Len, Less, Swap: what each returns, how the counts stand then. For counts that lie in memory of the call's own, rows of at most 2^40. -/
namespace Go.Proofs.YtejgofhpjkebbaaDoor
open Go.RowKit

/-- A row that lies below hi, in another block than g. -/
def RowG (w : World) (hi g : Nat) (A : Option Addr) (zs : List Int) : Prop :=
  0 < zs.length → ∃ b off, A = some ⟨b, off, none⟩ ∧ b < hi ∧ b ≠ g ∧ b < w.heap.size ∧ ∀ j, j < zs.length → w.cell? ⟨b, off + j, none⟩ = some (.int .i64 (ix zs j))
theorem RowG.keep {w w' : World} {hi g : Nat} {A : Option Addr} {zs : List Int} (h : RowG w hi g A zs) (hs : w.heap.size ≤ w'.heap.size) (hk : ∀ p : Addr, p.block < hi → p.block ≠ g → p.block < w.heap.size → w'.cell? p = w.cell? p) : RowG w' hi g A zs := fun hn => by
  obtain ⟨b, off, e, h1, h2, h3, hc⟩ := h hn
  exact ⟨b, off, e, h1, h2, by omega, fun j hj => (hk _ h1 h2 h3).trans (hc j hj)⟩
theorem RowG.on {w w' : World} {hi g : Nat} {A : Option Addr} {zs : List Int} (h : RowG w hi g A zs) (hb : Below w.heap.size w w') : RowG w' hi g A zs := h.keep hb.size fun _ _ _ h3 => hb.cell h3
theorem RowG.ints {w : World} {hi g : Nat} {A : Option Addr} {zs : List Int} (h : RowG w hi g A zs) : Ints w w.heap.size A zs := fun hn => by
  obtain ⟨b, off, e, _, _, h3, hc⟩ := h hn
  exact ⟨b, off, e, h3, hc⟩
theorem RowG.of {w : World} {B hi g : Nat} {A : Option Addr} {zs : List Int} (h : Ints w B A zs) (h1 : B ≤ hi) (h2 : B ≤ w.heap.size) (h3 : B ≤ g) : RowG w hi g A zs := fun hn => by
  obtain ⟨b, off, e, hb, hc⟩ := h hn
  exact ⟨b, off, e, by omega, by omega, by omega, hc⟩
theorem entCells_set : ∀ (es : List Ent) (i : Nat) (e : Ent), i < es.length → entCells (es.set i e) = ((entCells es).set (i * 2) (.slice e.A e.r.length e.c)).set (i * 2 + 1) (.int .i64 e.n)
  | f :: es, 0, e, _ => by simp [entCells, Ent.cells]
  | f :: es, i + 1, e, h => by
    have := entCells_set es i e (by simpa using h)
    rw [show (i + 1) * 2 = i * 2 + 2 by omega, show i * 2 + 2 + 1 = i * 2 + 1 + 2 by omega]
    simpa [entCells, Ent.cells] using this
end Go.Proofs.YtejgofhpjkebbaaDoor

/- Contracts of container/heap over the heap of counts: down, Init, Pop: how the counts stand then, and which one comes out. For heaps of at most 2^40. -/
namespace Go.Proofs.YtejgofhpjkebbaaDoor
open Go.RowKit

theorem Within.of_below {lo top : Nat} {w w' : World} (h : Below w.heap.size w w') : Within lo top w w' := ⟨h.os, h.tape, h.output, h.size, fun b hb _ => h.block b hb⟩
end Go.Proofs.YtejgofhpjkebbaaDoor

/- Contracts of container/heap over the heap of counts: Init and Pop. For heaps of at most 2^40. -/
namespace Go.Proofs.YtejgofhpjkebbaaDoor
open Go.RowKit

theorem swp_self (es : List Ent) (i : Nat) (h : i < es.length) : swp es i i = es := by
  unfold swp; rw [ex_eq h]; simp
theorem pop_facts {es es2 : List Ent} {n : Nat} (hn : es.length = n + 1) (hF : HF es (n + 1) 0) (hl : es2.length = es.length) (hp : es2.Perm (swp es 0 n)) (hx : ∀ j, n ≤ j → ex es2 j = ex (swp es 0 n) j) (hd : HF (swp es 0 n) n 1 → HF es2 n 0) :
    ex es2 n = ex es 0 ∧ es.Perm (ex es 0 :: es2.take n) ∧ HF (es2.take n) n 0 ∧ ∀ f ∈ es2.take n, lessB f.r (kx es 0) = false := by
  have h0 : 0 < es.length := by omega
  have hnl : n < es.length := by omega
  have hn2 : n < es2.length := by omega
  have e1 : ex es2 n = ex es 0 := by rw [hx n (Nat.le_refl _), ex_swp h0 hnl, if_pos rfl]
  have hper : es.Perm (ex es 0 :: es2.take n) := by
    have a1 : es.Perm es2 := (hp.trans (swp_perm h0 hnl)).symm
    have a2 : es2 = es2.take n ++ [ex es 0] := by
      have := List.take_succ_eq_append_getElem hn2
      rw [List.take_of_length_le (by omega), ← ex_eq hn2, e1] at this
      exact this
    rw [a2] at a1
    exact a1.trans (List.perm_append_singleton _ _)
  have hF1 : HF (swp es 0 n) n 1 := by
    intro j h1 h2 h3
    rw [kx_swp h0 hnl, kx_swp h0 hnl, if_neg (by omega), if_neg (by omega), if_neg (by omega), if_neg (by omega)]
    exact hF j h1 (by omega) (Nat.zero_le _)
  have hF2 := hd hF1
  have hk : ∀ j, j < n → kx (es2.take n) j = kx es2 j := by
    intro j hj
    unfold kx ex
    rw [List.getElem?_take, if_pos hj]
  refine ⟨e1, hper, fun j h1 h2 h3 => ?_, fun f hf => ?_⟩
  · rw [hk j h2, hk _ (by omega)]; exact hF2 j h1 h2 h3
  · have hm : f ∈ es := hper.symm.subset (List.mem_cons_of_mem _ hf)
    obtain ⟨j, hj, rfl⟩ := List.getElem_of_mem hm
    have := heap_min hF j (by omega)
    rwa [show kx es j = es[j].r by unfold kx; rw [ex_eq hj]] at this
end Go.Proofs.YtejgofhpjkebbaaDoor

/- Plain facts: counts of any N brought together, in whatever order; and the walk along sorted counts. No condition. -/
namespace Go.Proofs.YtejgofhpjkebbaaDoor

/-- All counts together. -/
def togL (ps : List (List Int × Int)) : List (List Int × Int) := ps.foldl (fun b p => withL b p.1 p.2) []
theorem tog_snoc (ps : List (List Int × Int)) (p : List Int × Int) : togL (ps ++ [p]) = withL (togL ps) p.1 p.2 := by simp [togL]
theorem tog_append (ps qs : List (List Int × Int)) : togL (ps ++ qs) = qs.foldl (fun b p => withL b p.1 p.2) (togL ps) := by simp [togL]
/-- All N of a row. -/
def sumZ (ps : List (List Int × Int)) (s : List Int) : Int := ((ps.filter fun p => decide (p.1 = s)).map Prod.snd).sum
theorem sumZ_nil (s : List Int) : sumZ [] s = 0 := rfl
theorem sumZ_append (ps qs : List (List Int × Int)) (s : List Int) : sumZ (ps ++ qs) s = sumZ ps s + sumZ qs s := by
  unfold sumZ; rw [List.filter_append, List.map_append, List.sum_append]
theorem sumZ_one (p : List Int × Int) (s : List Int) : sumZ [p] s = if s = p.1 then p.2 else 0 := by
  unfold sumZ
  by_cases e : s = p.1
  · rw [if_pos e, List.filter_cons_of_pos (by simpa using e.symm)]; simp
  · rw [if_neg e, List.filter_cons_of_neg (by simpa using Ne.symm e)]; simp
theorem sumZ_snoc (ps : List (List Int × Int)) (p : List Int × Int) (s : List Int) : sumZ (ps ++ [p]) s = sumZ ps s + if s = p.1 then p.2 else 0 := by
  rw [sumZ_append, sumZ_one]
theorem int_perm_sum {a b : List Int} (h : a.Perm b) : a.sum = b.sum := by
  induction h with
  | nil => rfl
  | cons x _ ih => rw [List.sum_cons, List.sum_cons, ih]
  | swap x y l => rw [List.sum_cons, List.sum_cons, List.sum_cons, List.sum_cons]; omega
  | trans _ _ i1 i2 => rw [i1, i2]
theorem sumZ_perm {ps qs : List (List Int × Int)} (h : ps.Perm qs) (s : List Int) : sumZ ps s = sumZ qs s := int_perm_sum ((h.filter _).map _)
theorem sumZ_none {ps : List (List Int × Int)} {s : List Int} (h : ∀ p ∈ ps, p.1 ≠ s) : sumZ ps s = 0 := by
  unfold sumZ
  rw [List.filter_eq_nil_iff.2 (fun p hp => by simpa using h p hp)]; rfl
def W64 (x : Int) : Int := addW 0 x
theorem W64_add (x y : Int) : addW (W64 x) y = W64 (x + y) := by
  unfold W64 addW; rw [IntKind.wrap_i64, IntKind.wrap_i64, IntKind.wrap_i64]; omega
theorem W64_W64 (x : Int) : W64 (W64 x) = W64 x := by
  unfold W64 addW; rw [IntKind.wrap_i64, IntKind.wrap_i64]; omega
theorem W64_zero : W64 0 = 0 := by unfold W64 addW; rw [IntKind.wrap_i64]; omega
theorem W64_small {x : Int} (h0 : -4611686018427387904 ≤ x) (h1 : x ≤ 4611686018427387903) : W64 x = x := by
  unfold W64; rw [addW_small (by omega) (by omega) h0 h1]; omega
/-- Numbers as the machine holds them. -/
def N64 (ps : List (List Int × Int)) : Prop := ∀ p ∈ ps, addW 0 p.2 = p.2
theorem list_snoc_ind {α : Type} {P : List α → Prop} (h0 : P []) (h1 : ∀ l x, P l → P (l ++ [x])) (l : List α) : P l := by
  have key : ∀ m : List α, P m.reverse := by
    intro m
    induction m with
    | nil => exact h0
    | cons x m ih => rw [List.reverse_cons]; exact h1 _ _ ih
  have := key l.reverse
  rwa [List.reverse_reverse] at this
theorem tog_facts : ∀ ps : List (List Int × Int), N64 ps → SB (togL ps) ∧ NZ (togL ps) ∧ ∀ s, timesL (togL ps) s = W64 (sumZ ps s) := by
  refine list_snoc_ind ?_ ?_
  · intro _
    exact ⟨List.Pairwise.nil, (fun p hp => by cases hp), fun s => by rw [sumZ_nil, W64_zero]; rfl⟩
  · intro ps p ih hN
    obtain ⟨h1, h2, h3⟩ := ih fun q hq => hN q (List.mem_append.2 (.inl hq))
    have hn := hN p (by simp)
    rw [tog_snoc, withL_ins]
    refine ⟨ins_sb h1, ins_nz h2, fun s => ?_⟩
    rw [ins_times hn h1, h3, h3, sumZ_snoc]
    by_cases e : s = p.1
    · rw [if_pos e, if_pos e, e, W64_add]
    · rw [if_neg e, if_neg e, Int.add_zero]
theorem tog_perm {ps qs : List (List Int × Int)} (h : ps.Perm qs) (hN : N64 ps) : togL ps = togL qs := by
  obtain ⟨a1, a2, a3⟩ := tog_facts ps hN
  obtain ⟨b1, b2, b3⟩ := tog_facts qs fun q hq => hN q (h.symm.subset hq)
  exact canon a1 b1 a2 b2 fun s => by rw [a3, b3, sumZ_perm h]
theorem tog_length (ps : List (List Int × Int)) : (togL ps).length ≤ ps.length := by
  refine list_snoc_ind (P := fun ps => (togL ps).length ≤ ps.length) (by simp [togL]) ?_ ps
  intro ps p ih
  rw [tog_snoc, List.length_append, List.length_singleton]
  have := withL_length (bag := togL ps) (row := p.1) (n := p.2)
  omega
theorem tog_mem {ps : List (List Int × Int)} : ∀ p ∈ togL ps, ∃ q ∈ ps, p.1 = q.1 := by
  refine list_snoc_ind (P := fun ps => ∀ p ∈ togL ps, ∃ q ∈ ps, p.1 = q.1) (fun p hp => by cases hp) ?_ ps
  intro ps p ih r hr
  rw [tog_snoc, withL_ins] at hr
  rcases ins_mem hr with h | h
  · obtain ⟨q, hq, e⟩ := ih r h
    exact ⟨q, List.mem_append.2 (.inl hq), e⟩
  · exact ⟨p, by simp, h⟩
theorem tog_rows {ps : List (List Int × Int)} {m : Nat} (h : ∀ p ∈ ps, p.1.length ≤ m) : ∀ p ∈ togL ps, p.1.length ≤ m := fun p hp => by
  obtain ⟨q, hq, e⟩ := tog_mem p hp
  rw [e]; exact h q hq

/-- Sorted counts, those of a row in one: how they stand while the heap is emptied. -/
def CL (bs pre : List (List Int × Int)) : Prop := SB bs ∧ (∀ s, timesL bs s = W64 (sumZ pre s)) ∧ (∀ p ∈ bs, ∃ q ∈ pre, p.1 = q.1) ∧ bs.length ≤ pre.length
theorem CL.nil : CL [] [] := ⟨List.Pairwise.nil, fun s => by rw [sumZ_nil, W64_zero]; rfl, (fun p hp => by cases hp), Nat.le_refl _⟩
theorem last_less {bs : List (List Int × Int)} (hs : SB bs) {m : Nat} (hm : bs.length = m + 1) : ∀ p ∈ bs, p.1 = rx bs m ∨ lessB p.1 (rx bs m) = true := by
  intro p hp
  obtain ⟨k, hk, rfl⟩ := List.getElem_of_mem hp
  by_cases e : k = m
  · subst e; left; simp [rx, hk]
  · right
    have := List.pairwise_iff_getElem.1 hs k m hk (by omega) (by omega)
    have e2 : rx bs m = (bs[m]'(by omega)).1 := by simp [rx, show m < bs.length by omega]
    rw [e2]; exact this
theorem times_snoc {bs : List (List Int × Int)} {r : List Int} {n : Int} (h : ∀ p ∈ bs, p.1 ≠ r) (s : List Int) : timesL (bs ++ [(r, n)]) s = if s = r then n else timesL bs s := by
  induction bs with
  | nil =>
    show (if r = s then n else 0) = if s = r then n else 0
    by_cases e : s = r
    · rw [if_pos e.symm, if_pos e]
    · rw [if_neg (Ne.symm e), if_neg e]
  | cons p bs ih =>
    obtain ⟨q, m⟩ := p
    rw [List.cons_append, timesL, timesL, ih fun p hp => h p (List.mem_cons_of_mem _ hp)]
    by_cases e : q = s
    · rw [if_pos e, if_pos e]
      have : q ≠ r := h (q, m) (by simp)
      rw [if_neg (by rw [← e]; exact this)]
    · rw [if_neg e, if_neg e]
theorem CL.last {bs pre : List (List Int × Int)} (h : CL bs pre) {m : Nat} (hm : bs.length = m + 1) {r : List Int} {n : Int} (he : rx bs m = r) : CL (bs.set m (r, addW (nx bs m) n)) (pre ++ [(r, n)]) := by
  obtain ⟨h1, h2, h3, h4⟩ := h
  have hml : m < bs.length := by omega
  have hd : bs = bs.dropLast ++ [(r, nx bs m)] := by
    have h5 := List.take_succ_eq_append_getElem hml
    rw [List.take_of_length_le (by omega), bag_ix hml, he] at h5
    rw [List.dropLast_eq_take, show bs.length - 1 = m by omega]
    exact h5
  obtain ⟨ds, hds⟩ : ∃ ds, bs.dropLast = ds := ⟨_, rfl⟩
  rw [hds] at hd
  have hdl : ds.length = m := by rw [← hds]; simp; omega
  have hset : bs.set m (r, addW (nx bs m) n) = ds ++ [(r, addW (nx bs m) n)] := by
    rw [hd, ← hdl, List.set_append_right _ _ (Nat.le_refl _), Nat.sub_self]
    have : nx (ds ++ [(r, nx bs ds.length)]) ds.length = nx bs ds.length := by simp [nx]
    rw [this]; rfl
  rw [hset]
  have h1' : SB (ds ++ [(r, nx bs m)]) := by rw [← hd]; exact h1
  have hne : ∀ p ∈ ds, lessB p.1 r = true := fun p hp => (List.pairwise_append.1 h1').2.2 p hp (r, nx bs m) (by simp)
  have hne' : ∀ p ∈ ds, p.1 ≠ r := fun p hp => less_ne (hne p hp)
  have ht : ∀ s, timesL bs s = if s = r then nx bs m else timesL ds s := fun s => by
    have := times_snoc (n := nx bs m) hne' s
    rw [← hd] at this
    exact this
  refine ⟨List.pairwise_append.2 ⟨(List.pairwise_append.1 h1').1, List.pairwise_singleton _ _, fun p hp q hq => by rw [List.mem_singleton.1 hq]; exact hne p hp⟩, fun s => ?_, fun p hp => ?_, by simp only [List.length_append, List.length_cons, List.length_nil]; omega⟩
  · rw [times_snoc hne', sumZ_snoc]
    have hs := h2 s
    rw [ht] at hs
    by_cases e : s = r
    · rw [if_pos e] at hs
      rw [if_pos e, if_pos e, hs, W64_add]
    · rw [if_neg e] at hs
      rw [if_neg e, if_neg e, Int.add_zero, hs]
  · rcases List.mem_append.1 hp with hp | hp
    · obtain ⟨q, hq, e⟩ := h3 p (by rw [hd]; exact List.mem_append.2 (.inl hp))
      exact ⟨q, List.mem_append.2 (.inl hq), e⟩
    · rw [List.mem_singleton.1 hp]; exact ⟨(r, n), by simp, rfl⟩
theorem CL.new {bs pre : List (List Int × Int)} (h : CL bs pre) {r : List Int} {n : Int} (hn : addW 0 n = n) (hle : ∀ p ∈ bs, lessB r p.1 = false) (hne : ∀ m, bs.length = m + 1 → ¬ rx bs m = r) : CL (bs ++ [(r, n)]) (pre ++ [(r, n)]) := by
  obtain ⟨h1, h2, h3, h4⟩ := h
  have hlt : ∀ p ∈ bs, lessB p.1 r = true := by
    intro p hp
    obtain ⟨m, hm⟩ : ∃ m, bs.length = m + 1 := ⟨bs.length - 1, by have := List.length_pos_of_mem hp; omega⟩
    have hml : m < bs.length := by omega
    have hlast : lessB (rx bs m) r = true := by
      rcases less_tri (rx bs m) r with e | e | e
      · exact e
      · exact absurd e (hne m hm)
      · have := hle bs[m] (List.getElem_mem hml)
        rw [bag_ix hml] at this
        simp only at this
        rw [e] at this; cases this
    rcases last_less h1 hm p hp with e | e
    · rw [e]; exact hlast
    · exact less_trans e hlast
  have hne' : ∀ p ∈ bs, p.1 ≠ r := fun p hp => less_ne (hlt p hp)
  refine ⟨List.pairwise_append.2 ⟨h1, List.pairwise_singleton _ _, fun p hp q hq => by rw [List.mem_singleton.1 hq]; exact hlt p hp⟩, fun s => ?_, fun p hp => ?_, by simp only [List.length_append, List.length_cons, List.length_nil]; omega⟩
  · rw [times_snoc hne', sumZ_snoc]
    by_cases e : s = r
    · have h0 := h2 r
      rw [timesL_zero hne'] at h0
      subst e
      rw [if_pos rfl, if_pos rfl, ← W64_add, ← h0, hn]
    · rw [if_neg e, if_neg e, Int.add_zero, h2]
  · rcases List.mem_append.1 hp with hp | hp
    · obtain ⟨q, hq, e⟩ := h3 p hp
      exact ⟨q, List.mem_append.2 (.inl hq), e⟩
    · rw [List.mem_singleton.1 hp]; exact ⟨(r, n), by simp, rfl⟩
theorem times_filter : ∀ {bs : List (List Int × Int)}, SB bs → ∀ s, timesL (bs.filter fun p => !decide (p.2 = 0)) s = timesL bs s
  | [], _, _ => rfl
  | (r, n) :: bs, h, s => by
    have ih := times_filter (List.pairwise_cons.1 h).2 s
    by_cases e : n = 0
    · rw [List.filter_cons_of_neg (by simpa using e), ih, timesL]
      by_cases er : r = s
      · rw [if_pos er, e]
        exact timesL_zero fun p hp => by rw [← er]; exact (less_ne ((List.pairwise_cons.1 h).1 p hp)).symm
      · rw [if_neg er]
    · rw [List.filter_cons_of_pos (by simpa using e), timesL, timesL, ih]
theorem CL.done {bs pre ps : List (List Int × Int)} (h : CL bs pre) (hp : pre.Perm ps) (hN : N64 ps) : (bs.filter fun p => !decide (p.2 = 0)) = togL ps := by
  obtain ⟨b1, b2, b3⟩ := tog_facts ps hN
  refine canon (h.1.filter _) b1 (fun p hp => by simpa using (List.mem_filter.1 hp).2) b2 fun s => ?_
  rw [times_filter h.1, h.2.1, b3, sumZ_perm hp]
end Go.Proofs.YtejgofhpjkebbaaDoor

/- Laws on the heap's variable and its counts, for the walk of together; slices.Equal's answer told ahead. No condition of their own. -/
namespace Go.Proofs.YtejgofhpjkebbaaDoor
open Go.RowKit

/-- How many the heap's variable holds. -/
def lenAt (p : Nat) (w : World) : Nat := match w.cell? ⟨p, 0, none⟩ with | some (.slice _ n _) => n | _ => 0
theorem RowG.far {w w' : World} {hi g gb : Nat} {A : Option Addr} {r : List Int} (h : RowG w hi g A r) (hg : w.grownBy w' (some gb)) (h1 : hi ≤ gb) : RowG w' hi g A r :=
  h.keep hg.size fun p h2 _ h4 => World.cell?_of_block (hg.block p.block h4 (fun e => by have := Option.some.inj e; omega))
/-- Cells written one behind the other into block g: what lay ahead of them stays. -/
theorem blk_setCells {g : Nat} {t : TypeId} : ∀ (vs : List Value) (o : Nat) (w : World) (cur : Array Value), Blk w g t cur → ∃ cur', Blk (w.setCells g o vs) g t cur' ∧ cur'.size = cur.size ∧ (∀ k, k ≤ o → cur'.toList.take k = cur.toList.take k) ∧ w.grownBy (w.setCells g o vs) (some g)
  | [], _, w, cur, h => ⟨cur, h, rfl, fun _ _ => rfl, World.grownBy.refl _ _⟩
  | v :: vs, o, w, cur, h => by
    obtain ⟨cur', h1, h2, h3, h4⟩ := blk_setCells vs (o + 1) (w.setCell ⟨g, o, none⟩ v) _ (h.set_ o v)
    refine ⟨cur', h1, by rw [h2]; simp, fun k hk => ?_, grown_trans (grown_setCell _ g _ _) h4⟩
    rw [h3 k (by omega), Array.toList_setIfInBounds, List.take_set_of_le hk]
end Go.Proofs.YtejgofhpjkebbaaDoor

/- Contracts of slices.IndexFunc and slices.DeleteFunc over counts, as they are translated, with the program's closure that tells counts of 0: what is left stands in order in the same block. For lists of at most 2^40. -/
namespace Go.Proofs.YtejgofhpjkebbaaDoor
open Go.RowKit

theorem en_eq {es : List Ent} {i : Nat} (h : i < es.length) : (ex es i).n = es[i].n := by rw [ex_eq h]
def keptE (e : Ent) : Bool := !decide (e.n = 0)
theorem keptE_pair (es : List Ent) : (es.filter keptE).map Ent.pair = (es.map Ent.pair).filter fun p => !decide (p.2 = 0) := by
  induction es with
  | nil => rfl
  | cons e es ih =>
    by_cases h : e.n = 0
    · rw [List.filter_cons_of_neg (by simp [keptE, h]), List.map_cons, List.filter_cons_of_neg (by simp [Ent.pair, h]), ih]
    · rw [List.filter_cons_of_pos (by simp [keptE, h]), List.map_cons, List.map_cons, List.filter_cons_of_pos (by simp [Ent.pair, h]), ih]
theorem bel_grown {w w' : World} {g : Nat} (hb : Below w.heap.size w w') : w.grownBy w' (some g) := ⟨hb.os, hb.tape, hb.output, hb.size, fun b h _ => hb.block b h⟩
/-- The list while counts of 0 are left out: i are kept, j are looked at. -/
def DelAt (bs cs : List Ent) (i j : Nat) : Prop := cs.length = bs.length ∧ i < j ∧ j ≤ bs.length ∧ cs.take i = (bs.take j).filter keptE ∧ cs.drop j = bs.drop j
theorem DelAt.start {bs : List Ent} {k : Nat} (hk : k < bs.length) (h0 : (ex bs k).n = 0) (h1 : ∀ j, j < k → (ex bs j).n ≠ 0) : DelAt bs bs k (k + 1) := by
  refine ⟨rfl, by omega, by omega, ?_, rfl⟩
  rw [List.take_succ_eq_append_getElem hk, List.filter_append, List.filter_cons_of_neg (by rw [en_eq hk] at h0; simp [keptE, h0]), List.filter_nil, List.append_nil]
  refine (List.filter_eq_self.2 fun e he => ?_).symm
  obtain ⟨j, hj, rfl⟩ := List.getElem_of_mem he
  rw [List.length_take] at hj
  have := h1 j (by omega)
  rw [en_eq (by omega)] at this
  simp [keptE, this]
theorem DelAt.here {bs cs : List Ent} {i j : Nat} (h : DelAt bs cs i j) : ex cs j = ex bs j := by
  have := congrArg (fun l => l[0]?) h.2.2.2.2
  simp only [List.getElem?_drop, Nat.add_zero] at this
  unfold ex; rw [this]
theorem DelAt.skip {bs cs : List Ent} {i j : Nat} (h : DelAt bs cs i j) (hj : j < bs.length) (h0 : (ex bs j).n = 0) : DelAt bs cs i (j + 1) := by
  obtain ⟨h1, h2, h3, h4, h5⟩ := h
  refine ⟨h1, by omega, by omega, ?_, by rw [← List.drop_drop, ← List.drop_drop, h5]⟩
  rw [h4, List.take_succ_eq_append_getElem hj, List.filter_append, List.filter_cons_of_neg (by rw [en_eq hj] at h0; simp [keptE, h0]), List.filter_nil, List.append_nil]
theorem DelAt.keep {bs cs : List Ent} {i j : Nat} (h : DelAt bs cs i j) (hj : j < bs.length) (h0 : ¬ (ex bs j).n = 0) : DelAt bs (cs.set i (ex bs j)) (i + 1) (j + 1) := by
  obtain ⟨h1, h2, h3, h4, h5⟩ := h
  have hi : i < (cs.set i (ex bs j)).length := by rw [List.length_set]; omega
  refine ⟨by rw [List.length_set, h1], by omega, by omega, ?_, ?_⟩
  · rw [List.take_succ_eq_append_getElem hi, List.getElem_set_self, List.take_set_of_le (Nat.le_refl _), h4, List.take_succ_eq_append_getElem hj, List.filter_append, List.filter_cons_of_pos (by rw [en_eq hj] at h0; simp [keptE, h0]), List.filter_nil, ex_eq hj]
  · rw [List.drop_set_of_lt (by omega), ← List.drop_drop, ← List.drop_drop, h5]
theorem DelAt.len {bs cs : List Ent} {i : Nat} (h : DelAt bs cs i bs.length) : i = (bs.filter keptE).length := by
  have := congrArg List.length h.2.2.2.1
  rw [List.length_take, List.take_of_length_le (Nat.le_refl _), h.1] at this
  have := h.2.1
  omega
end Go.Proofs.YtejgofhpjkebbaaDoor

/- The contract of the program's together: counts of any N, those of a row in one (none of 0), in order, in memory of the call's own; their list itself is left in another order. For lists of at most 2^20, rows of at most 2^40. -/
namespace Go.Proofs.YtejgofhpjkebbaaDoor
open Go.RowKit

end Go.Proofs.YtejgofhpjkebbaaDoor

/- Counts appended to a list that the program fills ahead of together: laws. -/
namespace Go.Proofs.YtejgofhpjkebbaaDoor
open Go.RowKit

end Go.Proofs.YtejgofhpjkebbaaDoor

/- The contract of the program's BagOf: the bag of its rows in memory of its own; nothing that lay has turned. For slices of at most 2^20 rows, each of at most 2^40. -/
namespace Go.Proofs.YtejgofhpjkebbaaDoor
open Go.RowKit

theorem tog_rowsL (rows : List (List Int)) : togL (rows.map fun r => (r, 1)) = bagOfL rows := by
  unfold togL bagOfL; rw [List.foldl_map]
end Go.Proofs.YtejgofhpjkebbaaDoor
