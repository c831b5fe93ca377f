/- Tables by their names in a map of the call's own: words and laws: looked up, put, left out, counted, cleared. No condition; of the program only types are named. -/
import Derived.Test.YtdjoiehknpfigaaGreatBasThy
import Derived.Maps.OwnSet
import Derived.Maps.Views
import Derived.StringKeys
import Derived.Sort.KeysCollected
namespace Go.Proofs.YtdjoiehknpfigaaGreat
open Go.RowKit Go.Maps

/-- A table in the map: what it is, where its rows lie. -/
structure SE where
  t : TB
  A : Option Addr
  c : Nat
def tabV (t : TB) (A : Option Addr) (c : Nat) : Value := .agg #[.string t.n, .int .i64 t.wd, .slice A t.rows.length c]
def SE.v (x : SE) : Value := tabV x.t x.A x.c
def SE.k (x : SE) : Lit := .string (bl x.t.n)
def heldR (v : Value) : Option (DataW Value × List MemPlace) := some (.held v, [])
def ents (xs : List SE) : List (Lit × DataW Value) := xs.map fun x => (x.k, .held x.v)
def shD (xs : List SE) : DataW Value := .map (ents xs)

/-! ### lists -/
def SX (xs : List SE) : Prop := xs.Pairwise fun a b => nlt a.t.n b.t.n = true
theorem sx_sn {xs : List SE} (h : SN (xs.map SE.t)) : SX xs := by
  unfold SN at h
  rw [List.pairwise_map] at h
  exact h
def fndX : List SE → ByteArray → Nat
  | [], _ => 0
  | x :: xs, n => if x.t.n = n then 0 else fndX xs n + 1
theorem fndX_eq : ∀ (xs : List SE) (n : ByteArray), fndX xs n = fndN (xs.map SE.t) n
  | [], _ => rfl
  | x :: xs, n => by simp only [fndX, List.map_cons, fndN, fndX_eq xs n]
theorem same_k (x : SE) (n : ByteArray) : x.k.sameKey (.string (bl n)) = decide (x.t.n = n) := by
  show (bl x.t.n == bl n) = _
  by_cases h : x.t.n = n
  · rw [decide_eq_true h, h]; simp
  · rw [decide_eq_false h]; exact beq_eq_false_iff_ne.2 fun e => h (bl_inj e)
theorem find_ents (n : ByteArray) : ∀ xs : List SE, (ents xs).find? (fun p => p.1.sameKey (.string (bl n))) = (xs[fndX xs n]?).map fun x => (x.k, .held x.v)
  | [] => rfl
  | x :: xs => by
    have ih := find_ents n xs
    unfold ents at ih ⊢
    rw [List.map_cons, List.find?_cons]
    simp only [same_k, fndX]
    by_cases h : x.t.n = n
    · simp [h]
    · simp only [decide_eq_false h, if_neg h, ih]; simp
theorem at_ents (xs : List SE) (n : ByteArray) (z : Value) : (shD xs).atKey (.string (bl n)) (.held z) = .held (match xs[fndX xs n]? with | some x => x.v | none => z) := by
  unfold shD DataW.atKey
  simp only [find_ents]
  cases xs[fndX xs n]? <;> rfl
theorem has_ents (xs : List SE) (n : ByteArray) : has (shD xs) (.string (bl n)) = decide (fndX xs n < xs.length) := by
  unfold shD
  rw [has_eq]
  induction xs with
  | nil => rfl
  | cons x xs ih =>
    unfold ents at ih ⊢
    rw [List.map_cons, List.any_cons]
    have e : decide (fndX (x :: xs) n < (x :: xs).length) = (decide (x.t.n = n) || decide (fndX xs n < xs.length)) := by
      by_cases h : x.t.n = n
      · rw [decide_eq_true h, Bool.true_or, decide_eq_true (by simp [fndX, h])]
      · rw [decide_eq_false h, Bool.false_or]
        by_cases h2 : fndX xs n < xs.length
        · rw [decide_eq_true h2, decide_eq_true (by simp [fndX, h]; exact h2)]
        · rw [decide_eq_false h2, decide_eq_false (by simp [fndX, h]; omega)]
    rw [e, ← ih]
    simp only [same_k]
def insX : List SE → SE → List SE
  | [], x => [x]
  | y :: ys, x => if nlt y.t.n x.t.n = true then y :: insX ys x else x :: y :: ys
theorem insX_t (x : SE) : ∀ xs : List SE, (insX xs x).map SE.t = insN (xs.map SE.t) x.t
  | [] => rfl
  | y :: ys => by
    rw [List.map_cons, insN_cons]
    unfold insX
    split
    · rw [List.map_cons, insX_t x ys]
    · rfl
theorem insX_mem {x y : SE} : ∀ {xs : List SE}, y ∈ insX xs x → y = x ∨ y ∈ xs
  | [], h => by simp [insX] at h; exact .inl h
  | z :: xs, h => by
    unfold insX at h
    split at h
    · rcases List.mem_cons.1 h with rfl | h
      · exact .inr (by simp)
      · rcases insX_mem h with h | h
        · exact .inl h
        · exact .inr (List.mem_cons_of_mem _ h)
    · rcases List.mem_cons.1 h with rfl | h
      · exact .inl rfl
      · exact .inr h
theorem ins_ents (x : SE) : ∀ {xs : List SE}, (∀ y ∈ xs, y.t.n ≠ x.t.n) → DataW.insert (x.k, .held x.v) (ents xs) = ents (insX xs x)
  | [], _ => rfl
  | y :: ys, h => by
    have ih := ins_ents x (xs := ys) fun z hz => h z (List.mem_cons_of_mem _ hz)
    have hb : x.k.before y.k = nlt x.t.n y.t.n := rfl
    unfold ents at ih ⊢
    rw [List.map_cons, DataW.insert]
    show (if x.k.before y.k = true then _ else _) = _
    rw [hb]
    unfold insX
    rcases nlt_total (h y (by simp)) with hl | hl
    · rw [nlt_asym hl, hl]
      simp only [Bool.false_eq_true, if_false, if_true, List.map_cons, ih]
    · rw [hl, nlt_asym hl]
      simp only [Bool.false_eq_true, if_false, if_true, List.map_cons]
theorem filter_ents (n : ByteArray) (xs : List SE) : ((ents xs).filter fun p => !p.1.sameKey (.string (bl n))) = ents (xs.filter fun x => !decide (x.t.n = n)) := by
  unfold ents
  rw [List.filter_map]
  congr 1
  apply List.filter_congr
  intro x _
  simp only [Function.comp, same_k]
theorem filter_none {n : ByteArray} {xs : List SE} (h : ∀ x ∈ xs, x.t.n ≠ n) : (xs.filter fun x => !decide (x.t.n = n)) = xs := by
  rw [List.filter_eq_self]
  intro x hx
  rw [decide_eq_false (h x hx)]; rfl
theorem fndX_none {n : ByteArray} : ∀ {xs : List SE}, ¬ fndX xs n < xs.length → ∀ x ∈ xs, x.t.n ≠ n
  | [], _, x, hx => by cases hx
  | y :: ys, h, x, hx => by
    by_cases e : y.t.n = n
    · exact absurd (by simp [fndX, e]) h
    · rcases List.mem_cons.1 hx with rfl | hx
      · exact e
      · exact fndX_none (by simpa [fndX, e] using h) x hx
theorem above_ne {n : ByteArray} {xs : List SE} (h : ∀ x ∈ xs, nlt n x.t.n = true) : ∀ x ∈ xs, x.t.n ≠ n := fun x hx e => by
  have := h x hx
  rw [e, nlt_irr] at this; cases this
theorem set_ents {x : SE} : ∀ {xs : List SE}, SX xs → fndX xs x.t.n < xs.length → insX (xs.filter fun y => !decide (y.t.n = x.t.n)) x = xs.set (fndX xs x.t.n) x
  | y :: ys, hs, h => by
    obtain ⟨h1, h2⟩ := List.pairwise_cons.1 hs
    by_cases e : y.t.n = x.t.n
    · have ha : ∀ z ∈ ys, nlt x.t.n z.t.n = true := fun z hz => by rw [← e]; exact h1 z hz
      rw [List.filter_cons]
      simp only [e, decide_true, Bool.not_true, Bool.false_eq_true, if_false, fndX, if_true, List.set_cons_zero]
      rw [filter_none (above_ne ha)]
      cases ys with
      | nil => rfl
      | cons z zs =>
        unfold insX
        rw [nlt_asym (ha z (by simp))]; rfl
    · have h' : fndX ys x.t.n < ys.length := by simpa [fndX, e] using h
      have ih := set_ents h2 h'
      have hy : nlt y.t.n x.t.n = true := by
        have hm : ys[fndX ys x.t.n] ∈ ys := List.getElem_mem h'
        have hn : ys[fndX ys x.t.n].t.n = x.t.n := by
          have := fndN_name (ts := ys.map SE.t) (n := x.t.n) (by rw [← fndX_eq]; simpa using h')
          rw [← fndX_eq, tx_eq _ _ (by simpa using h')] at this
          simpa using this
        rw [← hn]; exact h1 _ hm
      rw [List.filter_cons]
      simp only [decide_eq_false e, Bool.not_false, if_true, fndX, if_neg e, List.set_cons_succ]
      unfold insX
      rw [hy, if_pos rfl, ih]
theorem del_ents {n : ByteArray} : ∀ {xs : List SE}, SX xs → fndX xs n < xs.length → (xs.filter fun y => !decide (y.t.n = n)) = xs.take (fndX xs n) ++ xs.drop (fndX xs n + 1)
  | y :: ys, hs, h => by
    obtain ⟨h1, h2⟩ := List.pairwise_cons.1 hs
    by_cases e : y.t.n = n
    · have ha : ∀ z ∈ ys, nlt n z.t.n = true := fun z hz => by rw [← e]; exact h1 z hz
      rw [List.filter_cons]
      simp only [e, decide_true, Bool.not_true, Bool.false_eq_true, if_false, fndX, if_true]
      rw [filter_none (above_ne ha)]; simp
    · have h' : fndX ys n < ys.length := by simpa [fndX, e] using h
      rw [List.filter_cons]
      simp only [decide_eq_false e, Bool.not_false, if_true, fndX, if_neg e]
      rw [del_ents h2 h']; simp

/-! ### in memory -/
theorem lawS : Keyed Tryz.prog 9 := string_keyed Tryz.underlying9
theorem zeroTab (w : World) : (zeroValue 55).run Tryz.prog w = .ok (.agg #[.string ⟨#[]⟩, .int .i64 0, .slice none 0 0]) w := by kernel_rfl
theorem own_size {w : World} {m n : Nat} {D : DataW Value} (h : w.ownsMap Tryz.prog 9 heldR m n D) : w.ownsMap Tryz.prog 9 heldR m (size D) D := by
  obtain ⟨es, clock, hb, F, _, hD⟩ := h
  exact ⟨es, clock, hb, F, by rw [hD]; simp [size, length_sorted], hD⟩
theorem size_sh (xs : List SE) : size (shD xs) = xs.length := by simp [shD, size, ents]
/-- Block m of w is a map of the tables ts by their names. -/
def Sh (w : World) (m : Nat) (ts : List TB) : Prop :=
  ∃ xs : List SE, xs.map SE.t = ts ∧ w.ownsMap Tryz.prog 9 heldR m xs.length (shD xs) ∧ ∀ x ∈ xs, Rws w w.heap.size x.A x.t.rows
theorem cell_notmap {w : World} {m : Nat} {es : Array MapEntry} {c : Nat} (hm : w.heap[m]? = some (.map es c)) {b o : Nat} {v : Value} (h : w.cell? ⟨b, o, none⟩ = some v) : b ≠ m := fun e => by
  subst e
  simp [World.cell?, hm] at h
theorem grown_cell {w w' : World} {m : Nat} (hg : w.grownBy w' (some m)) {b o : Nat} {v : Value} (hb : b ≠ m) (h : w.cell? ⟨b, o, none⟩ = some v) : w'.cell? ⟨b, o, none⟩ = some v := by
  have hl := cell_lt h
  have := hg.block b hl (fun e => hb (Option.some.inj e))
  unfold World.cell? at h ⊢
  rw [this]; exact h
theorem Ints.mapped {w w' : World} {m : Nat} {es : Array MapEntry} {c : Nat} (hm : w.heap[m]? = some (.map es c)) (hg : w.grownBy w' (some m)) {A : Option Addr} {zs : List Int} (h : Ints w w.heap.size A zs) : Ints w' w'.heap.size A zs := fun hn => by
  obtain ⟨b, off, e, hb, hc⟩ := h hn
  exact ⟨b, off, e, Nat.lt_of_lt_of_le hb hg.size, fun j hj => grown_cell hg (cell_notmap hm (hc j hj)) (hc j hj)⟩
theorem Rws.mapped {w w' : World} {m : Nat} {es : Array MapEntry} {c : Nat} (hm : w.heap[m]? = some (.map es c)) (hg : w.grownBy w' (some m)) {A : Option Addr} {rows : List (List Int)} (h : Rws w w.heap.size A rows) : Rws w' w'.heap.size A rows := fun hn => by
  obtain ⟨b, off, e, hb, hc⟩ := h hn
  refine ⟨b, off, e, Nat.lt_of_lt_of_le hb hg.size, fun j hj => ?_⟩
  obtain ⟨Ar, cap, h1, h2, h3⟩ := hc j hj
  exact ⟨Ar, cap, grown_cell hg (cell_notmap hm h1) h1, h2.mapped hm hg, h3⟩
theorem Sh.lt {w : World} {m : Nat} {ts : List TB} (h : Sh w m ts) : m < w.heap.size := by
  obtain ⟨xs, _, ho, _⟩ := h
  exact ho.lt
theorem Sh.on {w w' : World} {m : Nat} {ts : List TB} (h : Sh w m ts) (hb : Below w.heap.size w w') : Sh w' m ts := by
  obtain ⟨xs, h1, h2, h3⟩ := h
  exact ⟨xs, h1, h2.kept (grown_of_below hb) (by simp), fun x hx => (h3 x hx).on hb⟩
theorem Sh.made (w : World) : Sh (w.alloc (.map #[] 0)) w.heap.size [] :=
  ⟨[], rfl, World.ownsMap_made w _ _ _, fun x hx => by cases hx⟩
set_option maxRecDepth 100000 in
theorem Sh.look {w : World} {m : Nat} {ts : List TB} (h : Sh w m ts) {n : ByteArray} (hn : n.size ≤ maxLen) (hi : fndN ts n < ts.length) :
    ∃ A c, (Instr.lookup 63 (.map (some m)) (.string n) false).run Tryz.prog w = .ok (tabV (tx ts (fndN ts n)) A c) w ∧ (Instr.lookup 63 (.map (some m)) (.string n) true).run Tryz.prog w = .ok (.tuple #[tabV (tx ts (fndN ts n)) A c, .bool true]) w ∧ Rws w w.heap.size A (tx ts (fndN ts n)).rows := by
  obtain ⟨xs, rfl, ho, hr⟩ := h
  rw [List.length_map] at hi
  have hx : fndX xs n < xs.length := by rw [fndX_eq]; exact hi
  have hat := at_ents xs n (.agg #[.string ⟨#[]⟩, .int .i64 0, .slice none 0 0])
  rw [List.getElem?_eq_getElem hx] at hat
  have et : tx (xs.map SE.t) (fndN (xs.map SE.t) n) = xs[fndX xs n].t := by
    rw [tx_eq _ _ (by rw [List.length_map]; exact hi)]; simp [fndX_eq]
  have key := WideMaps.keyOf_string_mk (P := Tryz.prog) (k := 9) Tryz.underlying9 hn
  refine ⟨xs[fndX xs n].A, xs[fndX xs n].c, ?_, ?_, ?_⟩
  · obtain ⟨v, ps, hrun, hv⟩ := ho.lookup lawS Tryz.underlying63 (zeroTab w) (zd := .held (.agg #[.string ⟨#[]⟩, .int .i64 0, .slice none 0 0])) (zp := []) rfl key
    have hv' : DataW.held v = (shD xs).atKey (.string (bl n)) (.held (.agg #[.string ⟨#[]⟩, .int .i64 0, .slice none 0 0])) := congrArg Prod.fst (Option.some.inj hv)
    rw [hat] at hv'
    rw [hrun, et, DataW.held.inj hv']; rfl
  · obtain ⟨v, ps, hrun, hv⟩ := ho.look_ok lawS Tryz.underlying63 (zeroTab w) (zd := .held (.agg #[.string ⟨#[]⟩, .int .i64 0, .slice none 0 0])) (zp := []) rfl key
    have hv' : DataW.held v = (shD xs).atKey (.string (bl n)) (.held (.agg #[.string ⟨#[]⟩, .int .i64 0, .slice none 0 0])) := congrArg Prod.fst (Option.some.inj hv)
    rw [hat] at hv'
    have hv2 := DataW.held.inj hv'
    have hh : has (shD xs) (.string n.data.toList) = true := (has_ents xs n).trans (decide_eq_true hx)
    rw [hrun, hv2, et, hh]; rfl
  · rw [et]; exact hr _ (List.getElem_mem hx)
set_option maxRecDepth 100000 in
/-- The same in whatever world that comes of it. -/
theorem Sh.lookB {w : World} {m : Nat} {ts : List TB} (h : Sh w m ts) {n : ByteArray} (hn : n.size ≤ maxLen) (hi : fndN ts n < ts.length) :
    ∃ A c, ∀ W, Below w.heap.size w W → (Instr.lookup 63 (.map (some m)) (.string n) false).run Tryz.prog W = .ok (tabV (tx ts (fndN ts n)) A c) W ∧ Rws W W.heap.size A (tx ts (fndN ts n)).rows := by
  obtain ⟨xs, rfl, ho, hr⟩ := h
  have hi' := hi
  rw [List.length_map] at hi
  have hx : fndX xs n < xs.length := by rw [fndX_eq]; exact hi
  have et : tx (xs.map SE.t) (fndN (xs.map SE.t) n) = xs[fndX xs n].t := by
    rw [tx_eq _ _ hi']; simp [fndX_eq]
  refine ⟨xs[fndX xs n].A, xs[fndX xs n].c, fun W hb => ⟨?_, by rw [et]; exact (hr _ (List.getElem_mem hx)).on hb⟩⟩
  have hat := at_ents xs n (.agg #[.string ⟨#[]⟩, .int .i64 0, .slice none 0 0])
  rw [List.getElem?_eq_getElem hx] at hat
  have key := WideMaps.keyOf_string_mk (P := Tryz.prog) (k := 9) Tryz.underlying9 hn
  obtain ⟨v, ps, hrun, hv⟩ := (ho.kept (grown_of_below hb) (by simp)).lookup lawS Tryz.underlying63 (zeroTab W) (zd := .held (.agg #[.string ⟨#[]⟩, .int .i64 0, .slice none 0 0])) (zp := []) rfl key
  have hv' : DataW.held v = (shD xs).atKey (.string (bl n)) (.held (.agg #[.string ⟨#[]⟩, .int .i64 0, .slice none 0 0])) := congrArg Prod.fst (Option.some.inj hv)
  rw [hat] at hv'
  rw [hrun, et, DataW.held.inj hv']; rfl
set_option maxRecDepth 100000 in
theorem Sh.look_no {w : World} {m : Nat} {ts : List TB} (h : Sh w m ts) {n : ByteArray} (hn : n.size ≤ maxLen) (hi : ¬ fndN ts n < ts.length) :
    (Instr.lookup 63 (.map (some m)) (.string n) true).run Tryz.prog w = .ok (.tuple #[.agg #[.string ⟨#[]⟩, .int .i64 0, .slice none 0 0], .bool false]) w := by
  obtain ⟨xs, rfl, ho, hr⟩ := h
  rw [List.length_map] at hi
  have hx : ¬ fndX xs n < xs.length := by rw [fndX_eq]; exact hi
  have hat := at_ents xs n (.agg #[.string ⟨#[]⟩, .int .i64 0, .slice none 0 0])
  rw [List.getElem?_eq_none (by omega)] at hat
  have key := WideMaps.keyOf_string_mk (P := Tryz.prog) (k := 9) Tryz.underlying9 hn
  obtain ⟨v, ps, hrun, hv⟩ := ho.look_ok lawS Tryz.underlying63 (zeroTab w) (zd := .held (.agg #[.string ⟨#[]⟩, .int .i64 0, .slice none 0 0])) (zp := []) rfl key
  have hv' : DataW.held v = (shD xs).atKey (.string (bl n)) (.held (.agg #[.string ⟨#[]⟩, .int .i64 0, .slice none 0 0])) := congrArg Prod.fst (Option.some.inj hv)
  rw [hat] at hv'
  have hv2 := DataW.held.inj hv'
  have hh : has (shD xs) (.string n.data.toList) = false := (has_ents xs n).trans (decide_eq_false hx)
  rw [hrun, hv2, hh]
theorem Sh.len {w : World} {m : Nat} {ts : List TB} (h : Sh w m ts) : ∀ ty, (Builtin.len_ #[63] ty #[.map (some m)]).run Tryz.prog w = .ok (.int .i64 (ts.length : Int)) w := fun ty => by
  obtain ⟨xs, rfl, ho, _⟩ := h
  have := ho.len Tryz.underlying63 ty
  rw [this]
  simp [shD, size, ents]
theorem own_block {w : World} {m n : Nat} {D : DataW Value} (h : w.ownsMap Tryz.prog 9 heldR m n D) : ∃ es c, w.heap[m]? = some (.map es c) := by
  obtain ⟨es, c, hb, _⟩ := h
  exact ⟨es, c, hb⟩
/-- A table put, whatever was there. -/
theorem Sh.put {w : World} {m : Nat} {ts : List TB} (h : Sh w m ts) (hs : SN ts) (hl : ts.length ≤ 1048576) {t : TB} (hn : t.n.size ≤ maxLen) {A : Option Addr} {c : Nat} (hR : Rws w w.heap.size A t.rows) :
    ∃ w', (Instr.mapUpdate 63 (.map (some m)) (.string t.n) (tabV t A c)).run Tryz.prog w = .ok () w' ∧ w.grownBy w' (some m) ∧ Sh w' m (if fndN ts t.n < ts.length then ts.set (fndN ts t.n) t else insN ts t) := by
  obtain ⟨xs, rfl, ho, hr⟩ := h
  rw [List.length_map] at hl
  have hsx := sx_sn hs
  have key := WideMaps.keyOf_string_mk (P := Tryz.prog) (k := 9) Tryz.underlying9 hn
  obtain ⟨es, cl, hb⟩ := own_block ho
  obtain ⟨w', hrun, ho', hg⟩ := ho.update lawS Tryz.underlying63 (by unfold maxLen; omega) key (show heldR (tabV t A c) = some (.held (tabV t A c), []) from rfl)
  refine ⟨w', hrun, hg, ?_⟩
  have hx : SE.t ⟨t, A, c⟩ = t := rfl
  have hput : (shD xs).put (.string t.n.data.toList) (.held (tabV t A c)) = shD (if fndX xs t.n < xs.length then xs.set (fndX xs t.n) ⟨t, A, c⟩ else insX xs ⟨t, A, c⟩) := by
    show DataW.map (DataW.insert (SE.k ⟨t, A, c⟩, .held (SE.v ⟨t, A, c⟩)) ((ents xs).filter fun p => !p.1.sameKey (.string (bl t.n)))) = _
    rw [filter_ents]
    split
    · rename_i hi
      rw [ins_ents ⟨t, A, c⟩ (fun y hy => by have := (List.mem_filter.1 hy).2; simpa using this), set_ents (x := ⟨t, A, c⟩) hsx hi]; rfl
    · rename_i hi
      rw [filter_none (fndX_none hi), ins_ents ⟨t, A, c⟩ (fun y hy => fndX_none hi y hy)]; rfl
  rw [hput] at ho'
  have ho2 := own_size ho'
  refine ⟨if fndX xs t.n < xs.length then xs.set (fndX xs t.n) ⟨t, A, c⟩ else insX xs ⟨t, A, c⟩, ?_, ?_, fun x hxm => ?_⟩
  · rw [← fndX_eq, List.length_map]
    split
    · rw [List.map_set]
    · rw [insX_t]
  · rw [size_sh] at ho2; exact ho2
  · have hmem : x = ⟨t, A, c⟩ ∨ x ∈ xs := by
      split at hxm
      · rcases List.mem_or_eq_of_mem_set hxm with h | h
        · exact .inr h
        · exact .inl h
      · exact insX_mem hxm
    rcases hmem with rfl | hxm
    · exact hR.mapped hb hg
    · exact (hr x hxm).mapped hb hg
theorem Sh.del {w : World} {m : Nat} {ts : List TB} (h : Sh w m ts) (hs : SN ts) {n : ByteArray} (hn : n.size ≤ maxLen) (hi : fndN ts n < ts.length) :
    ∃ w', (∀ ty, (Builtin.delete_ #[63, 9] ty #[.map (some m), .string n]).run Tryz.prog w = .ok (.tuple #[]) w') ∧ w.grownBy w' (some m) ∧ Sh w' m (dropN ts (fndN ts n)) := by
  obtain ⟨xs, rfl, ho, hr⟩ := h
  rw [List.length_map] at hi
  have hsx := sx_sn hs
  have hx : fndX xs n < xs.length := by rw [fndX_eq]; exact hi
  have key := WideMaps.keyOf_string_mk (P := Tryz.prog) (k := 9) Tryz.underlying9 hn
  obtain ⟨es, cl, hb⟩ := own_block ho
  obtain ⟨w', hrun, ho', hg⟩ := ho.drop lawS Tryz.underlying63 key 0
  refine ⟨w', fun ty => hrun, hg.grown, ?_⟩
  have hdel : (shD xs).del (.string n.data.toList) = shD (xs.take (fndX xs n) ++ xs.drop (fndX xs n + 1)) := by
    show DataW.map ((ents xs).filter fun p => !p.1.sameKey (.string (bl n))) = _
    rw [filter_ents, del_ents hsx hx]; rfl
  rw [hdel] at ho'
  have ho2 := own_size ho'
  rw [size_sh] at ho2
  refine ⟨_, ?_, ho2, fun x hxm => ?_⟩
  · rw [← fndX_eq]
    unfold dropN
    rw [List.map_append, List.map_take, List.map_drop]
  · have hxm' : x ∈ xs := by
      rcases List.mem_append.1 hxm with h | h
      · exact List.mem_of_mem_take h
      · exact List.mem_of_mem_drop h
    exact (hr x hxm').mapped hb hg.grown
theorem Sh.clear {w : World} {m : Nat} {ts : List TB} (h : Sh w m ts) : ∃ w', (∀ ty, (Builtin.clear_ #[63] ty #[.map (some m)]).run Tryz.prog w = .ok (.tuple #[]) w') ∧ w.grownBy w' (some m) ∧ Sh w' m [] := by
  obtain ⟨xs, rfl, ho, _⟩ := h
  obtain ⟨es, cl, hb⟩ := own_block ho
  refine ⟨ChangeMaps.setBlock w m (.map #[] cl), fun ty => ?_, ⟨rfl, rfl, rfl, by simp [ChangeMaps.setBlock], fun k _ hk => ChangeMaps.heap_setBlock_other hb _ (fun e => hk (by rw [e]))⟩, [], rfl, ?_, fun x hx => by cases hx⟩
  · simp [Builtin.clear_, run_underlying Tryz.underlying63, MapKept.run_getObj_map hb, MapKept.run_setObj_map _ hb, Result.andThen, ChangeMaps.setBlock]
  · exact ⟨#[], cl, ChangeMaps.heap_setBlock_same hb _, ⟨by simp, MapKept.stamped_empty cl, by simp⟩, Nat.le_refl _, rfl⟩
end Go.Proofs.YtdjoiehknpfigaaGreat
