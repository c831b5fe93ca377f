/- Bases of the model's own: words and laws; the contract of its l6Copy; nothing that lay has turned. -/
import Derived.Test.YtdjoiehknpfigaaGreatBas3
import Derived.Test.YtdjoiehknpfigaaGreatTab5
import Derived.OwnWalk
namespace Go.Proofs.YtdjoiehknpfigaaGreat
open Go.RowKit

theorem tab_ne : 55 ≠ 23 ∧ 55 ≠ 2 := by decide
/-- Own rows stay while a block of tables is written. -/
theorem ORows.tab {w w' : World} {lo g : Nat} {v : Value} {es : List Ent} {cs : Array Value} {fr : Nat × Nat} (h : ORows w lo v es) (hB : w.heap[g]? = some (.cells cs 55 fr)) (hg : w.grownBy w' (some g)) : ORows w' lo v es := by
  refine ⟨own_keepB h.1 fun b hb => hg.block b (h.1.lt b hb).2 (fun e => ?_), h.2.keepB fun e he hn => hg.block _ (h.2.lt e he hn) (fun e1 => ?_)⟩
  · have e' : b = g := Option.some.inj e
    subst e'
    rcases h.1.2 with ⟨rfl, _⟩ | ⟨g', cap, cur, rfl, _, hh, _⟩
    · cases hb
    · have e2 : g' = b := Option.some.inj hb
      subst e2
      rw [hh] at hB
      injection hB with hB
      injection hB with _ h2 _
      exact tab_ne.1 h2.symm
  · have e' : e.g = g := Option.some.inj e1
    obtain ⟨_, cur, hc, _⟩ := (h.2.1 e he).1 hn
    rw [e', hB] at hc
    injection hc with hc
    injection hc with _ h2 _
    exact tab_ne.2 h2
theorem own_form3 {w : World} {base size n : Nat} {e : TypeId} {v : Value} {xs : List Value} (h : w.ownsRow base e size v n xs) : ∃ A c, v = .slice A n c := by
  rcases h.2 with ⟨rfl, rfl⟩ | ⟨g, cap, cur, rfl, _⟩
  · exact ⟨none, 0, rfl⟩
  · exact ⟨_, cap, rfl⟩
structure PX where
  t : TB
  u : Value
  es : List Ent
def pcs (x : PX) : List Value := [.string x.t.n, .int .i64 x.t.wd, x.u]
def pflat : List PX → List Value
  | [] => []
  | x :: xs => pcs x ++ pflat xs
theorem pflat_length : ∀ xs : List PX, (pflat xs).length = xs.length * 3
  | [] => rfl
  | x :: xs => by simp only [pflat, List.length_append, List.length_cons, pflat_length xs]; show 3 + _ = _; omega
theorem pflat_append : ∀ xs ys : List PX, pflat (xs ++ ys) = pflat xs ++ pflat ys
  | [], _ => rfl
  | x :: xs, ys => by simp only [List.cons_append, pflat, pflat_append xs ys, List.append_assoc]
theorem pflat_take : ∀ (xs : List PX) (k : Nat), (pflat xs).take (k * 3) = pflat (xs.take k)
  | [], k => by simp [pflat]
  | x :: xs, 0 => by simp [pflat]
  | x :: xs, k + 1 => by
    have e : (k + 1) * 3 = (pcs x).length + k * 3 := by show _ = 3 + _; omega
    rw [pflat, e, List.take_length_add_append, pflat_take xs k]; rfl
theorem pflat_drop : ∀ (xs : List PX) (k : Nat), (pflat xs).drop (k * 3) = pflat (xs.drop k)
  | [], k => by simp [pflat]
  | x :: xs, 0 => by simp
  | x :: xs, k + 1 => by
    have e : (k + 1) * 3 = (pcs x).length + k * 3 := by show _ = 3 + _; omega
    rw [pflat, e, List.drop_length_add_append, pflat_drop xs k]; rfl
theorem pflat_get {xs : List PX} {j i : Nat} (hj : j < xs.length) (hi : i < 3) : (pflat xs)[j * 3 + i]? = (pcs xs[j])[i]? := by
  have e : (pflat xs)[j * 3 + i]? = ((pflat xs).drop (j * 3))[i]? := by rw [List.getElem?_drop]
  rw [e, pflat_drop, List.drop_eq_getElem_cons hj, pflat, List.getElem?_append_left (by show i < 3; exact hi)]
def PXs (w : World) (lo : Nat) (xs : List PX) : Prop := ∀ x ∈ xs, ORows w lo x.u x.es ∧ x.es.map Ent.r = x.t.rows
theorem PXs.on {w w' : World} {lo : Nat} {xs : List PX} (h : PXs w lo xs) (hb : Below w.heap.size w w') : PXs w' lo xs := fun x hx => ⟨(h x hx).1.on hb, (h x hx).2⟩
theorem PXs.tab {w w' : World} {lo g : Nat} {xs : List PX} {cs : Array Value} {fr : Nat × Nat} (h : PXs w lo xs) (hB : w.heap[g]? = some (.cells cs 55 fr)) (hg : w.grownBy w' (some g)) : PXs w' lo xs := fun x hx => ⟨(h x hx).1.tab hB hg, (h x hx).2⟩
theorem PXs.one {xs : List PX} {w : World} {lo : Nat} (h : PXs w lo xs) : ∀ u ∈ pflat xs, u.oneCell' = true := by
  induction xs with
  | nil => intro u hu; cases hu
  | cons x xs ih =>
    intro u hu
    rw [pflat] at hu
    rcases List.mem_append.1 hu with hu | hu
    · obtain ⟨A, c, e⟩ := (h x (by simp)).1.form
      unfold pcs at hu
      rw [e] at hu
      simp only [List.mem_cons, List.not_mem_nil, or_false] at hu
      rcases hu with rfl | rfl | rfl <;> rfl
    · exact ih (fun y hy => h y (List.mem_cons_of_mem _ hy)) u hu
/-- A base of the model's own. -/
def SBs (w : World) (lo : Nat) (v : Value) (xs : List PX) : Prop := w.ownsRow lo 55 3 v xs.length (pflat xs) ∧ PXs w lo xs
theorem SBs.on {w w' : World} {lo : Nat} {v : Value} {xs : List PX} (h : SBs w lo v xs) (hb : Below w.heap.size w w') : SBs w' lo v xs := ⟨own_keepB h.1 fun g hg => hb.block g (h.1.lt g hg).2, h.2.on hb⟩
theorem SBs.drewN {w : World} {lo : Nat} {v : Value} {xs : List PX} (h : SBs w lo v xs) (n : Nat) : SBs (w.drewN n) lo v xs := h
theorem px_t {xs : List PX} {ts : List TB} (h : xs.map PX.t = ts) {j : Nat} (hj : j < xs.length) : tx ts j = xs[j].t := by
  have hj' : j < ts.length := by rw [← h]; simpa using hj
  rw [tx_eq ts j hj']; simp [← h]
theorem SBs.tabs {w : World} {lo n c : Nat} {A : Option Addr} {xs : List PX} {ts : List TB} (h : SBs w lo (.slice A n c) xs) (hd : xs.map PX.t = ts) (hf : fitT 1048576 ts) : Tabs w w.heap.size A ts := fun hn => by
  have hl : xs.length = ts.length := by rw [← hd, List.length_map]
  rcases h.1.2 with ⟨_, h0⟩ | ⟨g, cap, cur, hv, _, hh, _, _, _, htk⟩
  · omega
  · injection hv with hv _ _
    subst hv
    have hB : Blk w g 55 cur := hh
    have cell : ∀ j i, j < xs.length → i < 3 → w.cell? ⟨g, 0 + j * 3 + i, none⟩ = (pcs (xs[j]?.getD ⟨zeroT, .slice none 0 0, []⟩))[i]? := fun j i hj hi => by
      rw [Nat.zero_add, hB.cell]
      have e : (cur.toList.take (xs.length * 3))[j * 3 + i]? = (pflat xs)[j * 3 + i]? := by rw [htk]
      rw [List.getElem?_take, if_pos (by omega), Array.getElem?_toList, pflat_get hj hi] at e
      rw [e]; simp [hj]
    refine ⟨g, 0, rfl, hB.lt, fun j hj => ?_⟩
    have hj' : j < xs.length := by omega
    have hx := px_t hd hj'
    obtain ⟨hO, he⟩ := h.2 xs[j] (List.getElem_mem hj')
    obtain ⟨Au, cu, hu⟩ := hO.formW he
    have hfj := hf j hj
    rw [hx] at hfj ⊢
    have g0 := cell j 0 hj' (by omega)
    have g1 := cell j 1 hj' (by omega)
    have g2 := cell j 2 hj' (by omega)
    rw [List.getElem?_eq_getElem hj'] at g0 g1 g2
    refine ⟨Au, cu, g0, g1, ?_, ?_⟩
    · rw [g2]; show some _ = some _; rw [← hu]; rfl
    · rw [hu] at hO
      exact hO.rwsW he (fun i hi => by have := hfj.2.2 i hi; omega)
theorem SBs.push {w w' : World} {lo : Nat} {v v' : Value} {xs : List PX} {x : PX} (h : SBs w lo v xs) (hx : ORows w lo x.u x.es ∧ x.es.map Ent.r = x.t.rows) (hown : w'.ownsRow lo 55 3 v' (xs.length + 1) (pflat xs ++ pcs x)) (hg : w.grownBy w' v.ownBlock) : SBs w' lo v' (xs ++ [x]) := by
  have hp : PXs w lo (xs ++ [x]) := fun y hy => by
    rcases List.mem_append.1 hy with hy | hy
    · exact h.2 y hy
    · obtain rfl : y = x := by simpa using hy
      exact hx
  refine ⟨by rw [pflat_append, List.length_append]; simpa [pflat] using hown, ?_⟩
  rcases h.1.2 with ⟨rfl, _⟩ | ⟨g, cap, cur, rfl, _, hh, _⟩
  · exact hp.on ⟨hg.os, hg.tape, hg.output, hg.size, fun k hk => hg.block k hk (by simp [Value.ownBlock])⟩
  · exact hp.tab hh hg
theorem info_tableT : (Tryz.prog.info? 55).map (fun i => (i.zero, i.size, i.bytes)) = some (some (.agg #[.string ⟨#[]⟩, .int .i64 0, .slice none 0 0]), 3, 48) := info_table
theorem reads_tab {w : World} {X : Nat} {cs : List Value} (hX : Blk w X 55 cs.toArray) (hl : cs.length = 3) : Reads w w.heap.size 3 (some ⟨X, 0, none⟩) 1 cs := by
  refine ⟨by rw [hl], fun _ => ⟨_, rfl, hX.lt, fun j u hu => ?_⟩⟩
  have ea : Addr.add ⟨X, 0, none⟩ j = ⟨X, 0 + j, none⟩ := by unfold Addr.add; split <;> simp_all
  rw [ea, Nat.zero_add, hX.cell j, ← hu]; simp
set_option maxRecDepth 100000 in
set_option maxHeartbeats 4000000 in
theorem l6Copy_any (A : Option Addr) (c : Nat) (ts : List TB) (w : World) (hT : Tabs w w.heap.size A ts) (hf : fitT 1048576 ts) (hl : ts.length ≤ 1048576) :
    Calls Tryz.prog 26 #[.slice A ts.length c] w fun e w' => ∃ v xs, e = .returned v ∧ SBs w' w.heap.size v xs ∧ xs.map PX.t = ts ∧ Below w.heap.size w w' := by
  obtain ⟨i0, hi0, hz0, hz1, hz2⟩ := info_parts info_tableT
  have bc := (Below.refl w.heap.size w).alloc (Nat.le_refl _) (.cells #[] 55)
  have hown0 : (w.alloc (.cells #[] 55)).ownsRow w.heap.size 55 3 (.slice (some ⟨w.heap.size, 0, none⟩) 0 0) 0 [] :=
    ⟨rfl, .inr ⟨w.heap.size, 0, #[], rfl, Nat.le_refl _, heap_alloc_new w _, Nat.le_refl _, by decide, rfl, rfl⟩⟩
  have HFT := Lib.hid hf
  clear hf
  go_enter Tryz.func26, Tryz.ntmps26
  go_wp2
  go_loopw [3, 4] (fun b i wr => ∃ (k : Nat) (xs : List PX), k ≤ ts.length ∧ i = .int .i64 k ∧ xs.length = k ∧ xs.map PX.t = ts.take k ∧ SBs wr w.heap.size b xs ∧ Below w.heap.size w wr) (fun _ i _ => ts.length - (intOf i).toNat)
  case atStart => exact ⟨0, [], Nat.zero_le _, rfl, rfl, by simp, ⟨hown0, fun x hx => by cases hx⟩, bc⟩
  case round =>
    obtain ⟨k, xs, hk, rfl, rfl, he, hS, hW⟩ := hrel
    have HE := Lib.hid he
    have hTr := hT.on hW
    clear hT he hown0 bc
    obtain ⟨Ab, cb, hbv⟩ := own_form3 hS.1
    subst hbv
    by_cases hlt : xs.length < ts.length
    · obtain ⟨b, off, Ar, cr, rfl, _, c0, c1, c2, hR⟩ := hTr.here hlt
      obtain ⟨f1, f2, _⟩ := HFT.out xs.length hlt
      have HS := Lib.hid hS
      clear hS hTr
      go_wp2_with fail
      refine (l4Copy_any (tx ts xs.length).n (tx ts xs.length).wd Ar cr (tx ts xs.length).rows wr hR (by omega)).mono ?_
      rintro e w1 ⟨v1, rfl, ⟨u1, es1, rfl, hO1, he1⟩, hb1⟩
      obtain ⟨Au, cu, rfl⟩ := hO1.formW he1
      have ba := (Below.refl w1.heap.size w1).alloc (Nat.le_refl _) (.cells #[.string (tx ts xs.length).n, .int .i64 (tx ts xs.length).wd, .slice Au (tx ts xs.length).rows.length cu] 55)
      have BX := Blk.new w1 55 #[.string (tx ts xs.length).n, .int .i64 (tx ts xs.length).wd, .slice Au (tx ts xs.length).rows.length cu]
      have hSa := (HS.out.on hb1).on ba
      have hOa : ORows _ w.heap.size (.slice Au (tx ts xs.length).rows.length cu) es1 := (hO1.on ba).lower (by have := hW.size; omega)
      have hWa := bel_step (bel_step hW hb1) ba
      have HX := Lib.hid (And.intro hSa (And.intro hOa (And.intro he1 (And.intro hWa BX))))
      clear hO1 he1 hb1 ba BX hSa hOa hWa c0 c1 c2 hR hW HS
      go_wp2_with (at_builtin; refine wpList_append_any _ (by rfl) _ _ _ (by rfl) w.heap.size 55 i0 _ 3 48 Tryz.underlying28 hi0 hz0 hz1 hz2 rfl (by decide) _ xs.length (pflat xs) (by rfl) HX.out.1.1 _ (some ⟨w1.heap.size, 0, none⟩) 1 1 [.string (tx ts xs.length).n, .int .i64 (tx ts xs.length).wd, .slice Au (tx ts xs.length).rows.length cu] (by rfl) (reads_tab HX.out.2.2.2.2 rfl) (by simp [Value.oneCell']) (by simp only [maxLen]; omega) (by omega) (by have := HX.out.2.2.2.1.size; omega) ?_; intro v2 w2 hown2 hgrow2 hat2; have hS2 := HX.out.1.push (x := ⟨tx ts xs.length, .slice Au (tx ts xs.length).rows.length cu, es1⟩) ⟨HX.out.2.1, HX.out.2.2.1⟩ hown2 hgrow2)
      have hge : xs.map PX.t ++ [tx ts xs.length] = ts.take (xs.length + 1) := by rw [HE.out, tx_eq ts xs.length hlt, ← List.take_append_getElem hlt]
      exact ⟨⟨xs.length + 1, _, hlt, rfl, by simp, by rw [List.map_append]; exact hge, hS2, HX.out.2.2.2.1.grown hgrow2 (by have := HX.out.2.2.2.1.size; omega) (fun g hg => (HX.out.1.1.lt g hg).1)⟩, by simp only [intOf]; omega⟩
    · have hd : decide (xs.length < ts.length) = false := by simpa using hlt
      have HE2 := Lib.hid (show xs.map PX.t = ts by rw [HE.out, List.take_of_length_le (by omega)])
      go_wp2
      go_ret
      exact ⟨_, xs, rfl, hS, HE2.out, hW⟩
end Go.Proofs.YtdjoiehknpfigaaGreat
