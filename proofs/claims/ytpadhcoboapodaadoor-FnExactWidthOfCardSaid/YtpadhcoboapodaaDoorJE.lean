/- Texts joined: Heap0, Heap1, Heap2, Heap3, Heap4, BagOf2, BagOf3: contracts and plain facts; each says its own below. -/
import Derived.Test.YtpadhcoboapodaaDoorJB
import Derived.Test.YtpadhcoboapodaaDoorJC
import Derived.Test.YtpadhcoboapodaaDoorJD
/- A method of a value, called through an interface that holds a pointer to it: which function it is, and the receiver read from memory. The types and functions of the program that are named: the heap of counts. -/
namespace Go.Proofs.YtpadhcoboapodaaDoor
open Go.RowKit
theorem wrap_run (P : Program) (t : TypeId) (a : Addr) (s m : String) (w : World) : (Builtin.ssaWrapNilChk_ #[t] t #[.pointer (some a), strVal s, strVal m]).run P w = .ok (.pointer (some a)) w := rfl
theorem meth_val {P : Program} {t elem : TypeId} {name : String} {f : FuncId} (hu : P.underlying t = some (.pointer elem)) (h : (P.info? t).map (fun i => (i.methods.find? (·.name == name)).map fun m => (m.path.toList.length, m.func)) = some (some (0, some (f, false))))
    (a : Addr) (v : Value) (fuel : Nat) (w : World) (hl : (loadVar elem a).run P w = .ok v w) : (method (fuel + 1) t (.pointer (some a)) name).run P w = .ok (f, v) w := by
  cases hi : P.info? t with
  | none => rw [hi] at h; cases h
  | some i =>
    rw [hi] at h
    simp only [Option.map_some, Option.some.injEq] at h
    cases hm : i.methods.find? (·.name == name) with
    | none => rw [hm] at h; cases h
    | some m =>
      rw [hm] at h
      simp only [Option.map_some, Option.some.injEq, Prod.mk.injEq] at h
      obtain ⟨h1, h2⟩ := h
      have h3 : m.path.toList = [] := List.length_eq_zero_iff.1 h1
      have h4 : m.path = #[] := by simpa using h3
      simp [method, typeInfo, hi, hm, h2, h4, follow, receiverAt, Place.get, run_underlying hu, wrap_run, asAddr, hl]
end Go.Proofs.YtpadhcoboapodaaDoor

/- Plain facts on a heap of counts in a list: what a sift down keeps, what it brings; the first is the least. No condition; nothing of the program is named. -/
namespace Go.Proofs.YtpadhcoboapodaaDoor
open Go.RowKit

def noEnt : Ent := ⟨[], 0, none, 0, 0⟩
def ex (es : List Ent) (i : Nat) : Ent := es[i]?.getD noEnt
theorem ex_eq {es : List Ent} {i : Nat} (h : i < es.length) : ex es i = es[i] := by simp [ex, h]
def kx (es : List Ent) (i : Nat) : List Int := (ex es i).r
def swp (es : List Ent) (i j : Nat) : List Ent := (es.set i (ex es j)).set j (ex es i)
theorem swp_length (es : List Ent) (i j : Nat) : (swp es i j).length = es.length := by simp [swp]
theorem ex_swp {es : List Ent} {i j : Nat} (hi : i < es.length) (hj : j < es.length) (k : Nat) : ex (swp es i j) k = if k = j then ex es i else if k = i then ex es j else ex es k := by
  unfold swp ex
  rw [List.getElem?_set, List.getElem?_set]
  by_cases e1 : k = j
  · subst e1
    rw [if_pos rfl, if_pos rfl, if_pos (by simpa using hj)]
    rfl
  · rw [if_neg (Ne.symm e1), if_neg e1]
    by_cases e2 : k = i
    · subst e2
      rw [if_pos rfl, if_pos rfl, if_pos hi]
      rfl
    · rw [if_neg (Ne.symm e2), if_neg e2]
theorem swp_perm {es : List Ent} {i j : Nat} (hi : i < es.length) (hj : j < es.length) : (swp es i j).Perm es := by
  have e : swp es i j = (es.set i es[j]).set j es[i] := by unfold swp; rw [ex_eq hi, ex_eq hj]
  rw [e]
  by_cases hij : i = j
  · subst hij
    simp
  · rcases Nat.lt_or_ge i j with h | h
    · have h1 : es = es.take i ++ es[i] :: (es.drop (i + 1)).take (j - i - 1) ++ es[j] :: es.drop (j + 1) := by
        have a1 := (List.take_append_drop i es).symm
        have a2 := List.drop_eq_getElem_cons hi
        have a3 := (List.take_append_drop (j - i - 1) (es.drop (i + 1))).symm
        rw [List.drop_drop, show i + 1 + (j - i - 1) = j by omega, List.drop_eq_getElem_cons hj] at a3
        rw [a2, a3] at a1
        simpa using a1
      have hl1 : (es.take i).length = i := by simp; omega
      have hl2 : ((es.drop (i + 1)).take (j - i - 1)).length = j - i - 1 := by simp; omega
      have h2 : (es.set i es[j]).set j es[i] = es.take i ++ es[j] :: (es.drop (i + 1)).take (j - i - 1) ++ es[i] :: es.drop (j + 1) := by
        apply List.ext_getElem?
        intro k
        rw [List.getElem?_set, List.getElem?_set]
        simp only [List.append_assoc, List.cons_append, List.length_set]
        by_cases c1 : k < i
        · rw [if_neg (by omega), if_neg (by omega), List.getElem?_append_left (by omega), List.getElem?_take, if_pos c1]
        · rw [List.getElem?_append_right (by omega), hl1]
          by_cases c2 : k = i
          · subst c2; rw [if_neg (by omega), if_pos rfl, if_pos hi]; simp
          · obtain ⟨d, hd⟩ : ∃ d, k - i = d + 1 := ⟨k - i - 1, by omega⟩
            rw [hd, List.getElem?_cons_succ]
            by_cases c3 : k < j
            · rw [if_neg (by omega), if_neg (by omega), List.getElem?_append_left (by omega), List.getElem?_take, if_pos (by omega), List.getElem?_drop]
              congr 1; omega
            · rw [List.getElem?_append_right (by omega), hl2]
              by_cases c4 : k = j
              · subst c4
                rw [if_pos rfl, if_pos hj, show d - (k - i - 1) = 0 by omega]; simp
              · obtain ⟨d', hd'⟩ : ∃ d', d - (j - i - 1) = d' + 1 := ⟨d - (j - i - 1) - 1, by omega⟩
                rw [if_neg (by omega), if_neg (by omega), hd', List.getElem?_cons_succ, List.getElem?_drop]
                congr 1; omega
      rw [h2]
      conv => rhs; rw [h1]
      simp only [List.append_assoc, List.cons_append]
      refine List.Perm.append_left _ ?_
      refine (List.Perm.cons _ List.perm_middle).trans ?_
      refine (List.Perm.swap _ _ _).trans ?_
      exact List.Perm.cons _ List.perm_middle.symm
    · have hlt : j < i := by omega
      have hc : (es.set i es[j]).set j es[i] = (es.set j es[i]).set i es[j] := List.set_comm _ _ (by omega)
      rw [hc]
      have h1 : es = es.take j ++ es[j] :: (es.drop (j + 1)).take (i - j - 1) ++ es[i] :: es.drop (i + 1) := by
        have a1 := (List.take_append_drop j es).symm
        have a2 := List.drop_eq_getElem_cons hj
        have a3 := (List.take_append_drop (i - j - 1) (es.drop (j + 1))).symm
        rw [List.drop_drop, show j + 1 + (i - j - 1) = i by omega, List.drop_eq_getElem_cons hi] at a3
        rw [a2, a3] at a1
        simpa using a1
      have hl1 : (es.take j).length = j := by simp; omega
      have hl2 : ((es.drop (j + 1)).take (i - j - 1)).length = i - j - 1 := by simp; omega
      have h2 : (es.set j es[i]).set i es[j] = es.take j ++ es[i] :: (es.drop (j + 1)).take (i - j - 1) ++ es[j] :: es.drop (i + 1) := by
        apply List.ext_getElem?
        intro k
        rw [List.getElem?_set, List.getElem?_set]
        simp only [List.append_assoc, List.cons_append, List.length_set]
        by_cases c1 : k < j
        · rw [if_neg (by omega), if_neg (by omega), List.getElem?_append_left (by omega), List.getElem?_take, if_pos c1]
        · rw [List.getElem?_append_right (by omega), hl1]
          by_cases c2 : k = j
          · subst c2; rw [if_neg (by omega), if_pos rfl, if_pos hj]; simp
          · obtain ⟨d, hd⟩ : ∃ d, k - j = d + 1 := ⟨k - j - 1, by omega⟩
            rw [hd, List.getElem?_cons_succ]
            by_cases c3 : k < i
            · rw [if_neg (by omega), if_neg (by omega), List.getElem?_append_left (by omega), List.getElem?_take, if_pos (by omega), List.getElem?_drop]
              congr 1; omega
            · rw [List.getElem?_append_right (by omega), hl2]
              by_cases c4 : k = i
              · subst c4
                rw [if_pos rfl, if_pos hi, show d - (k - j - 1) = 0 by omega]; simp
              · obtain ⟨d', hd'⟩ : ∃ d', d - (i - j - 1) = d' + 1 := ⟨d - (i - j - 1) - 1, by omega⟩
                rw [if_neg (by omega), if_neg (by omega), hd', List.getElem?_cons_succ, List.getElem?_drop]
                congr 1; omega
      rw [h2]
      conv => rhs; rw [h1]
      simp only [List.append_assoc, List.cons_append]
      refine List.Perm.append_left _ ?_
      refine (List.Perm.cons _ List.perm_middle).trans ?_
      refine (List.Perm.swap _ _ _).trans ?_
      exact List.Perm.cons _ List.perm_middle.symm

/-- From place a on no child is less than its parent. -/
def HF (es : List Ent) (n a : Nat) : Prop := ∀ j, 1 ≤ j → j < n → a ≤ (j - 1) / 2 → lessB (kx es j) (kx es ((j - 1) / 2)) = false
theorem HF.half (es : List Ent) (n : Nat) : HF es n (n / 2) := fun j _ _ h3 => by omega
/-- What stands while one sifts down from i0, at place i. -/
def DI (es0 : List Ent) (i0 n i : Nat) (es : List Ent) : Prop :=
  es.Perm es0 ∧ es.length = es0.length ∧ (∀ j, n ≤ j → ex es j = ex es0 j) ∧ i0 ≤ i ∧
  (HF es0 n (i0 + 1) → (∀ j, 1 ≤ j → j < n → i0 ≤ (j - 1) / 2 → (j - 1) / 2 ≠ i → lessB (kx es j) (kx es ((j - 1) / 2)) = false) ∧
    (i0 < i → i0 ≤ (i - 1) / 2 ∧ 1 ≤ i ∧ ∀ j, 1 ≤ j → j < n → (j - 1) / 2 = i → lessB (kx es j) (kx es ((i - 1) / 2)) = false))
theorem DI.start (es : List Ent) (i0 n : Nat) : DI es i0 n i0 es :=
  ⟨List.Perm.refl _, rfl, fun _ _ => rfl, Nat.le_refl _, fun h => ⟨fun j h1 h2 h3 h4 => h j h1 h2 (by omega), fun h0 => absurd h0 (Nat.lt_irrefl _)⟩⟩
theorem kx_swp {es : List Ent} {i j : Nat} (hi : i < es.length) (hj : j < es.length) (k : Nat) : kx (swp es i j) k = if k = j then kx es i else if k = i then kx es j else kx es k := by
  unfold kx
  rw [ex_swp hi hj]
  split
  · rfl
  · split <;> rfl
theorem DI.step {es0 es : List Ent} {i0 n i m : Nat} (h : DI es0 i0 n i es) (hn : n ≤ es.length) (hm : m < n) (hc : (m - 1) / 2 = i) (hm1 : 1 ≤ m) (him : i < m) (hl : lessB (kx es m) (kx es i) = true)
    (hs : ∀ s, 1 ≤ s → s < n → (s - 1) / 2 = i → lessB (kx es s) (kx es m) = false) : DI es0 i0 n m (swp es i m) := by
  obtain ⟨h1, h2, h3, h4, h5⟩ := h
  have hil : i < es.length := by omega
  have hml : m < es.length := by omega
  refine ⟨(swp_perm hil hml).trans h1, by rw [swp_length, h2], fun j hj => ?_, by omega, fun hF => ?_⟩
  · rw [ex_swp hil hml, if_neg (by omega), if_neg (by omega)]; exact h3 j hj
  · obtain ⟨hA, hB⟩ := h5 hF
    refine ⟨fun j hj1 hj2 hj3 hj4 => ?_, fun _ => ⟨by omega, hm1, fun j hj1 hj2 hj3 => ?_⟩⟩
    · rw [kx_swp hil hml, kx_swp hil hml]
      rw [if_neg hj4]
      by_cases e1 : j = m
      · subst e1
        rw [if_pos rfl, if_pos hc]
        exact less_asymm hl
      · rw [if_neg e1]
        by_cases e2 : j = i
        · subst e2
          rw [if_pos rfl, if_neg (by omega)]
          obtain ⟨_, _, hB3⟩ := hB (by omega)
          exact hB3 m hm1 hm hc
        · rw [if_neg e2]
          by_cases e3 : (j - 1) / 2 = i
          · rw [if_pos e3]; exact hs j hj1 hj2 e3
          · rw [if_neg e3]; exact hA j hj1 hj2 hj3 e3
    · rw [kx_swp hil hml, kx_swp hil hml, if_neg (by omega), if_neg (by omega), hc, if_neg (by omega), if_pos rfl]
      have := hA j hj1 hj2 (by omega) (by omega)
      rw [hj3] at this
      exact this
theorem DI.stop {es0 es : List Ent} {i0 n i : Nat} (h : DI es0 i0 n i es) (hs : ∀ s, 1 ≤ s → s < n → (s - 1) / 2 = i → lessB (kx es s) (kx es i) = false) (hF : HF es0 n (i0 + 1)) : HF es n i0 := by
  obtain ⟨hA, _⟩ := h.2.2.2.2 hF
  intro j h1 h2 h3
  by_cases e : (j - 1) / 2 = i
  · rw [e]; exact hs j h1 h2 e
  · exact hA j h1 h2 h3 e
theorem heap_min {es : List Ent} {n : Nat} (h : HF es n 0) : ∀ j, j < n → lessB (kx es j) (kx es 0) = false := by
  intro j
  induction j using Nat.strongRecOn with
  | _ j ih =>
    intro hj
    rcases Nat.eq_zero_or_pos j with h0 | h0
    · subst h0; exact less_irrefl _
    · have h1 := ih ((j - 1) / 2) (by omega) (by omega)
      have h2 := h j h0 hj (Nat.zero_le _)
      exact le_trans_B h1 h2
end Go.Proofs.YtpadhcoboapodaaDoor

/- Contracts of the heap of counts: its Len, Less, Swap: what each returns, how the counts stand then. For counts that lie in memory of the call's own, rows of at most 2^40. -/
namespace Go.Proofs.YtpadhcoboapodaaDoor
open Go.RowKit

theorem entCells_set : ∀ (es : List Ent) (i : Nat) (e : Ent), i < es.length → entCells (es.set i e) = ((entCells es).set (i * 2) (.slice e.A e.r.length e.c)).set (i * 2 + 1) (.int .i64 e.n)
  | f :: es, 0, e, _ => by simp [entCells, Ent.cells]
  | f :: es, i + 1, e, h => by
    have := entCells_set es i e (by simpa using h)
    rw [show (i + 1) * 2 = i * 2 + 2 by omega, show i * 2 + 2 + 1 = i * 2 + 1 + 2 by omega]
    simpa [entCells, Ent.cells] using this
end Go.Proofs.YtpadhcoboapodaaDoor

/- Contracts of container/heap over the heap of counts: down, Init, Pop: how the counts stand then, and which one comes out. For heaps of at most 2^40. -/
namespace Go.Proofs.YtpadhcoboapodaaDoor
open Go.RowKit

theorem Within.of_below {lo top : Nat} {w w' : World} (h : Below w.heap.size w w') : Within lo top w w' := ⟨h.os, h.tape, h.output, h.size, fun b hb _ => h.block b hb⟩
end Go.Proofs.YtpadhcoboapodaaDoor

/- Contracts of container/heap over the heap of counts: Init and Pop. For heaps of at most 2^40. -/
namespace Go.Proofs.YtpadhcoboapodaaDoor
open Go.RowKit

theorem swp_self (es : List Ent) (i : Nat) (h : i < es.length) : swp es i i = es := by
  unfold swp; rw [ex_eq h]; simp
theorem pop_facts {es es2 : List Ent} {n : Nat} (hn : es.length = n + 1) (hF : HF es (n + 1) 0) (hl : es2.length = es.length) (hp : es2.Perm (swp es 0 n)) (hx : ∀ j, n ≤ j → ex es2 j = ex (swp es 0 n) j) (hd : HF (swp es 0 n) n 1 → HF es2 n 0) :
    ex es2 n = ex es 0 ∧ es.Perm (ex es 0 :: es2.take n) ∧ HF (es2.take n) n 0 ∧ ∀ f ∈ es2.take n, lessB f.r (kx es 0) = false := by
  have h0 : 0 < es.length := by omega
  have hnl : n < es.length := by omega
  have hn2 : n < es2.length := by omega
  have e1 : ex es2 n = ex es 0 := by rw [hx n (Nat.le_refl _), ex_swp h0 hnl, if_pos rfl]
  have hper : es.Perm (ex es 0 :: es2.take n) := by
    have a1 : es.Perm es2 := (hp.trans (swp_perm h0 hnl)).symm
    have a2 : es2 = es2.take n ++ [ex es 0] := by
      have := List.take_succ_eq_append_getElem hn2
      rw [List.take_of_length_le (by omega), ← ex_eq hn2, e1] at this
      exact this
    rw [a2] at a1
    exact a1.trans (List.perm_append_singleton _ _)
  have hF1 : HF (swp es 0 n) n 1 := by
    intro j h1 h2 h3
    rw [kx_swp h0 hnl, kx_swp h0 hnl, if_neg (by omega), if_neg (by omega), if_neg (by omega), if_neg (by omega)]
    exact hF j h1 (by omega) (Nat.zero_le _)
  have hF2 := hd hF1
  have hk : ∀ j, j < n → kx (es2.take n) j = kx es2 j := by
    intro j hj
    unfold kx ex
    rw [List.getElem?_take, if_pos hj]
  refine ⟨e1, hper, fun j h1 h2 h3 => ?_, fun f hf => ?_⟩
  · rw [hk j h2, hk _ (by omega)]; exact hF2 j h1 h2 h3
  · have hm : f ∈ es := hper.symm.subset (List.mem_cons_of_mem _ hf)
    obtain ⟨j, hj, rfl⟩ := List.getElem_of_mem hm
    have := heap_min hF j (by omega)
    rwa [show kx es j = es[j].r by unfold kx; rw [ex_eq hj]] at this
end Go.Proofs.YtpadhcoboapodaaDoor

/- The contract of the program's BagOf: the bag of its rows in memory of its own; nothing that lay has turned. For slices of at most 2^20 rows, each of at most 2^40. -/
namespace Go.Proofs.YtpadhcoboapodaaDoor
open Go.RowKit

/-- The program's bag while the heap is emptied: the rows that came out, in order. -/
theorem last_same {pre : List (List Int)} {r : List Int} (hl : pre.length ≤ 1048576) (hlast : ∀ p ∈ bagOfL pre, lessB r p.1 = false) {m : Nat} (hm : (bagOfL pre).length = m + 1) (he : rx (bagOfL pre) m = r) :
    withL (bagOfL pre) r 1 = (bagOfL pre).take m ++ (r, addW (nx (bagOfL pre) m) 1) :: (bagOfL pre).drop (m + 1) := by
  obtain ⟨h1, h2, h3⟩ := bagOf_facts pre (by omega)
  have hml : m < (bagOfL pre).length := by omega
  have hp : placeL (bagOfL pre) r = m := by
    have hpl := place_le (bagOfL pre) r
    have key : ∀ (b : List (List Int × Int)) (k : Nat), SB b → k < b.length → rx b k = r → placeL b r = k := by
      intro b
      induction b with
      | nil => intro k _ hk; simp at hk
      | cons x bs ih =>
        obtain ⟨q, n⟩ := x
        intro k hs hk hr
        cases k with
        | zero =>
          have : q = r := by simpa [rx] using hr
          subst this
          simp [placeL, less_irrefl]
        | succ k =>
          have hk' : k < bs.length := by simpa using hk
          have e1 : rx ((q, n) :: bs) (k + 1) = rx bs k := by simp [rx]
          rw [e1] at hr
          have hmem : (rx bs k, nx bs k) ∈ bs := by rw [← bag_ix hk']; exact List.getElem_mem hk'
          have hq := (List.pairwise_cons.1 hs).1 _ hmem
          simp only [hr] at hq
          rw [placeL, if_pos hq, ih k (List.pairwise_cons.1 hs).2 hk' hr]
    exact key _ m h1 hml he
  have hn : ¬ addW (nx (bagOfL pre) m) 1 = 0 := by
    have ht := times_at h1 hml
    rw [he, h3] at ht
    have hb := occ_bd pre r
    have hz : nx (bagOfL pre) m ≠ 0 := by
      have hmem : (rx (bagOfL pre) m, nx (bagOfL pre) m) ∈ bagOfL pre := by rw [← bag_ix hml]; exact List.getElem_mem hml
      exact h2 _ hmem
    rw [addW_small (by omega) (by omega) (by omega) (by omega)]
    omega
  exact withL_same hp hml he hn
theorem last_new {pre : List (List Int)} {r : List Int} (hl : pre.length ≤ 1048576) (hlast : ∀ p ∈ bagOfL pre, lessB r p.1 = false) (hne : ∀ m, (bagOfL pre).length = m + 1 → ¬ rx (bagOfL pre) m = r) :
    withL (bagOfL pre) r 1 = bagOfL pre ++ [(r, 1)] := by
  obtain ⟨h1, h2, h3⟩ := bagOf_facts pre (by omega)
  have key : ∀ (b : List (List Int × Int)), SB b → (∀ p ∈ b, lessB r p.1 = false) → (∀ m, b.length = m + 1 → ¬ rx b m = r) → placeL b r = b.length := by
    intro b
    induction b with
    | nil => intros; rfl
    | cons x bs ih =>
      obtain ⟨q, n⟩ := x
      intro hs hle hne
      have hq : lessB q r = true := by
        rcases less_tri q r with e | e | e
        · exact e
        · exfalso
          rcases Nat.eq_zero_or_pos bs.length with h0 | h0
          · exact hne 0 (by simp [h0]) (by simpa [rx] using e)
          · have hmem : (rx bs 0, nx bs 0) ∈ bs := by rw [← bag_ix h0]; exact List.getElem_mem h0
            have := (List.pairwise_cons.1 hs).1 _ hmem
            have h4 := hle _ (List.mem_cons_of_mem _ hmem)
            simp only at this h4
            rw [e] at this
            rw [this] at h4; cases h4
        · have := hle (q, n) (by simp)
          simp only at this
          rw [e] at this; cases this
      rw [placeL, if_pos hq, ih (List.pairwise_cons.1 hs).2 (fun p hp => hle p (List.mem_cons_of_mem _ hp)) (fun m hm hr => hne (m + 1) (by simp [hm]) (by simpa [rx] using hr))]
      rfl
  have hp := key _ h1 hlast hne
  rw [withL_new hp (fun h => by omega) (by decide), List.take_length, List.drop_length]
end Go.Proofs.YtpadhcoboapodaaDoor

/- The contract of the program's BagOf: the bag of its rows in memory of its own; nothing that lay has turned. For slices of at most 2^20 rows, each of at most 2^40. -/
namespace Go.Proofs.YtpadhcoboapodaaDoor
open Go.RowKit

/-- How many the heap's variable holds. -/
def lenAt (p : Nat) (w : World) : Nat := match w.cell? ⟨p, 0, none⟩ with | some (.slice _ n _) => n | _ => 0
end Go.Proofs.YtpadhcoboapodaaDoor
