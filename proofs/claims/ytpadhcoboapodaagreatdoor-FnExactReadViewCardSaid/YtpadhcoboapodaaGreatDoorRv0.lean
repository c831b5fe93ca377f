/- Nodes under way, each with any slices; what a reader of views answers; and how long what is read is. -/
import Derived.Test.YtpadhcoboapodaaGreatDoorNodB
import Derived.Test.YtpadhcoboapodaaGreatDoorNodO
namespace Go.Proofs.YtpadhcoboapodaaGreatDoor
open Go.RowKit

def rcell (es : List NV) (q : Nat) : Value := match es[q / 5]? with | some e => nvc e (q % 5) | none => zcl (q % 5)
theorem rcell_nil : rcell [] = ncell [] := rfl
theorem rcell_at {es : List NV} {j r : Nat} (hj : j < es.length) (hr : r < 5) : rcell es (j * 5 + r) = nvc es[j] r := by
  unfold rcell
  rw [show (j * 5 + r) / 5 = j by omega, show (j * 5 + r) % 5 = r by omega, List.getElem?_eq_getElem hj]
theorem rcell_out {es : List NV} {j r : Nat} (hj : es.length ≤ j) (hr : r < 5) : rcell es (j * 5 + r) = zcl r := by
  unfold rcell
  rw [show (j * 5 + r) / 5 = j by omega, show (j * 5 + r) % 5 = r by omega, List.getElem?_eq_none hj]
theorem rcell_push (es : List NV) (e : NV) (q : Nat) : (if q = es.length * 5 + 4 then nvc e 4 else if q = es.length * 5 + 3 then nvc e 3 else if q = es.length * 5 + 2 then nvc e 2 else if q = es.length * 5 + 1 then nvc e 1 else if q = es.length * 5 then nvc e 0 else rcell es q) = rcell (es ++ [e]) q := by
  have hq : q = q / 5 * 5 + q % 5 := by omega
  have hr : q % 5 < 5 := Nat.mod_lt _ (by omega)
  generalize q / 5 = j at hq
  generalize q % 5 = r at hq hr
  subst hq
  by_cases hj : j < es.length
  · rw [if_neg (by omega), if_neg (by omega), if_neg (by omega), if_neg (by omega), if_neg (by omega), rcell_at hj hr, rcell_at (by simp; omega) hr]
    rw [List.getElem_append_left hj]
  · by_cases e1 : j = es.length
    · subst e1
      rw [rcell_at (show es.length < (es ++ [e]).length by simp) hr]
      have e2 : (es ++ [e])[es.length]'(by simp) = e := by simp
      rw [e2]
      have h5 : r = 0 ∨ r = 1 ∨ r = 2 ∨ r = 3 ∨ r = 4 := by omega
      rcases h5 with h | h | h | h | h
      · rw [if_neg (by omega), if_neg (by omega), if_neg (by omega), if_neg (by omega), if_pos (by omega), h]
      · rw [if_neg (by omega), if_neg (by omega), if_neg (by omega), if_pos (by omega), h]
      · rw [if_neg (by omega), if_neg (by omega), if_pos (by omega), h]
      · rw [if_neg (by omega), if_pos (by omega), h]
      · rw [if_pos (by omega), h]
    · rw [if_neg (by omega), if_neg (by omega), if_neg (by omega), if_neg (by omega), if_neg (by omega), rcell_out (by omega) hr, rcell_out (by simp; omega) hr]
theorem CRow.far_ {w : World} {A : Option Addr} {g : Nat} {l : List Cnd} (h : CRow w A g l) {p : Addr} (hp : 0 < l.length → g ≠ p.block) (u : Value) : CRow (w.setCell p u) A g l := fun hn => by
  obtain ⟨a, cur, hB, hc⟩ := h hn
  exact ⟨a, cur, Blk.far hB (hp hn) u, hc⟩
theorem Row.far_ {w : World} {t : TypeId} {A : Option Addr} {g : Nat} {l : List Int} (h : Row w t A l g) {p : Addr} (hp : 0 < l.length → g ≠ p.block) (u : Value) : Row (w.setCell p u) t A l g := fun hn => by
  obtain ⟨a, cur, hB, hc⟩ := h hn
  exact ⟨a, cur, Blk.far (cs := cur) hB (hp hn) u, hc⟩
/-- The blocks of two nodes. -/
def apart (a b : NV) : Prop := (0 < a.d.c.length → 0 < b.d.c.length → a.gc ≠ b.gc) ∧ (0 < a.d.z.length → 0 < b.d.z.length → a.gz ≠ b.gz)
/-- What lies of a node. -/
def NRow (w : World) (e : NV) : Prop := CRow w e.Ac e.gc e.d.c ∧ Row w 2 e.Az e.d.z e.gz
theorem NRow.on {w w' : World} {e : NV} (h : NRow w e) (hb : Below w.heap.size w w') : NRow w' e := ⟨h.1.on hb, h.2.on hb⟩
theorem NRow.set5 {w : World} {e : NV} {G : Nat} {cur : Array Value} (h : NRow w e) (hB : Blk w G 33 cur) (i0 i1 i2 i3 i4 : Nat) (a b c d f : Value) :
    NRow (((((w.setCell ⟨G, i0, none⟩ a).setCell ⟨G, i1, none⟩ b).setCell ⟨G, i2, none⟩ c).setCell ⟨G, i3, none⟩ d).setCell ⟨G, i4, none⟩ f) e := by
  have h1 : 0 < e.d.c.length → e.gc ≠ G := fun hn => crow_ne h.1 hn hB (by decide)
  have h2 : 0 < e.d.z.length → e.gz ≠ G := fun hn => row_ne h.2 hn hB (by decide)
  exact ⟨CRow.far_ (p := ⟨G, i4, none⟩) (CRow.far_ (p := ⟨G, i3, none⟩) (CRow.far_ (p := ⟨G, i2, none⟩) (CRow.far_ (p := ⟨G, i1, none⟩) (CRow.far_ (p := ⟨G, i0, none⟩) h.1 h1 a) h1 b) h1 c) h1 d) h1 f,
    Row.far_ (p := ⟨G, i4, none⟩) (Row.far_ (p := ⟨G, i3, none⟩) (Row.far_ (p := ⟨G, i2, none⟩) (Row.far_ (p := ⟨G, i1, none⟩) (Row.far_ (p := ⟨G, i0, none⟩) h.2 h2 a) h2 b) h2 c) h2 d) h2 f⟩
/-- The rows of nodes, each in blocks of its own behind B. -/
structure NRows (B : Nat) (es : List NV) (w : World) : Prop where
  rows : ∀ e ∈ es, NRow w e
  lo : ∀ e ∈ es, B ≤ e.gc ∧ B ≤ e.gz
  ne : es.Pairwise apart
theorem NRows.nil (B : Nat) (w : World) : NRows B [] w := ⟨fun e he => (by cases he), fun e he => (by cases he), .nil⟩
theorem NRows.on {B : Nat} {es : List NV} {w w' : World} (h : NRows B es w) (hb : Below w.heap.size w w') : NRows B es w' := ⟨fun e he => (h.rows e he).on hb, h.lo, h.ne⟩
theorem NRows.snoc {B : Nat} {es : List NV} {e : NV} {w w' : World} (h : NRows B es w) (hb : Below w.heap.size w w') (hB : B ≤ w.heap.size) (he : NRow w' e) (hc : w.heap.size ≤ e.gc) (hz : w.heap.size ≤ e.gz) : NRows B (es ++ [e]) w' := by
  refine ⟨fun x hx => ?_, fun x hx => ?_, List.pairwise_append.2 ⟨h.ne, List.pairwise_singleton _ _, fun a ha b hb' => ?_⟩⟩
  · rcases List.mem_append.1 hx with hx | hx
    · exact (h.rows x hx).on hb
    · obtain rfl : x = e := by simpa using hx
      exact he
  · rcases List.mem_append.1 hx with hx | hx
    · exact h.lo x hx
    · obtain rfl : x = e := by simpa using hx
      exact ⟨by omega, by omega⟩
  · obtain rfl : b = e := by simpa using hb'
    obtain ⟨h1, h2⟩ := h.rows a ha
    exact ⟨fun hn _ => by have := h1.lt hn; omega, fun hn _ => by have := h2.lt hn; omega⟩
theorem NRows.own {B G : Nat} {es : List NV} {w : World} (h : NRows B es w) (hG : NAt w G es) : NOwn w G es := by
  refine ⟨hG, fun j hj => ?_, fun j hj => ?_, fun i j hi hj hij => ?_⟩
  · rw [nvx_eq es j hj]; exact (h.rows _ (List.getElem_mem hj)).1
  · rw [nvx_eq es j hj]; exact (h.rows _ (List.getElem_mem hj)).2
  · rw [nvx_eq es i hi, nvx_eq es j hj]
    have hpw := List.pairwise_iff_getElem.1 h.ne
    rcases Nat.lt_or_ge i j with hlt | hge
    · exact hpw i j hi hj hlt
    · have := hpw j i hj hi (by omega)
      exact ⟨fun a b e => this.1 b a e.symm, fun a b e => this.2 b a e.symm⟩
theorem NRows.theirs {B G : Nat} {es : List NV} {w : World} (h : NRows B es w) (hG : NAt w G es) (hl : B ≤ G) : ∀ x, theirs G es x → B ≤ x ∧ x < w.heap.size := fun x hx => by
  rcases hx with rfl | ⟨j, hj, hx⟩
  · obtain ⟨cur, hB, _⟩ := hG
    exact ⟨hl, hB.lt⟩
  · rw [nvx_eq es j hj] at hx
    have hm := List.getElem_mem hj
    rcases hx with ⟨hn, rfl⟩ | ⟨hn, rfl⟩
    · exact ⟨(h.lo _ hm).1, (h.rows _ hm).1.lt hn⟩
    · exact ⟨(h.lo _ hm).2, (h.rows _ hm).2.lt hn⟩
/-- Nodes under way: es stand in block G of n nodes. -/
structure RvSt (w0 : World) (G n : Nat) (es : List NV) (wr : World) : Prop where
  blk : Blk wr G 33 (arr (5 * n) (rcell es))
  rows : NRows w0.heap.size es wr
  bel : Below w0.heap.size w0 wr
theorem RvSt.on {w0 wr w' : World} {G n : Nat} {es : List NV} (h : RvSt w0 G n es wr) (hb : Below wr.heap.size wr w') : RvSt w0 G n es w' := ⟨h.blk.on hb, h.rows.on hb, bel_step h.bel hb⟩
theorem RvSt.push {w0 wr w3 : World} {G n : Nat} {es : List NV} {e : NV} (h : RvSt w0 G n es wr) (hG : w0.heap.size ≤ G) (hb : Below wr.heap.size wr w3) (he : NRow w3 e) (hc : wr.heap.size ≤ e.gc) (hz : wr.heap.size ≤ e.gz) :
    RvSt w0 G n (es ++ [e]) (((((w3.setCell ⟨G, es.length * 5, none⟩ (nvc e 0)).setCell ⟨G, es.length * 5 + 1, none⟩ (nvc e 1)).setCell ⟨G, es.length * 5 + 2, none⟩ (nvc e 2)).setCell ⟨G, es.length * 5 + 3, none⟩ (nvc e 3)).setCell ⟨G, es.length * 5 + 4, none⟩ (nvc e 4)) := by
  have h3 := h.on hb
  have hr3 := h.rows.snoc hb h.bel.size he hc hz
  have B := ((((h3.blk.set_ (es.length * 5) (nvc e 0)).set_ (es.length * 5 + 1) (nvc e 1)).set_ (es.length * 5 + 2) (nvc e 2)).set_ (es.length * 5 + 3) (nvc e 3)).set_ (es.length * 5 + 4) (nvc e 4)
  rw [arr_set, arr_set, arr_set, arr_set, arr_set, arr_congr (fun q _ => rcell_push es e q)] at B
  exact ⟨B, ⟨fun x hx => (hr3.rows x hx).set5 h3.blk _ _ _ _ _ _ _ _ _ _, hr3.lo, hr3.ne⟩, ((((h3.bel.setCell (p := ⟨G, es.length * 5, none⟩) hG _).setCell (p := ⟨G, es.length * 5 + 1, none⟩) hG _).setCell (p := ⟨G, es.length * 5 + 2, none⟩) hG _).setCell (p := ⟨G, es.length * 5 + 3, none⟩) hG _).setCell (p := ⟨G, es.length * 5 + 4, none⟩) hG _⟩
theorem RvSt.nat {w0 wr : World} {G : Nat} {es : List NV} (h : RvSt w0 G es.length es wr) : NAt wr G es := ⟨_, h.blk, fun j hj r hr => by rw [arr_get _ (by omega), rcell_at hj hr, nvx_eq es j hj]⟩
/-- What a reader of views answers. -/
def RvAns (o : Option (List Nd)) (w : World) (e : Ending) (w' : World) : Prop :=
  ∃ G c es, e = .returned (.tuple #[.slice (some ⟨G, 0, none⟩) es.length c, .bool o.isSome]) ∧ es.map NV.d = o.getD [] ∧ NOwn w' G es ∧ (∀ x, theirs G es x → w.heap.size ≤ x ∧ x < w'.heap.size) ∧ Below w.heap.size w w'
theorem rv_no {w w1 : World} (h : Below w.heap.size w w1) : RvAns none w (.returned (.tuple #[.slice (some ⟨w1.heap.size, 0, none⟩) 0 0, .bool false])) (w1.alloc (.cells #[] 33)) := by
  have hb := h.alloc h.size (.cells #[] 33)
  have hA : NAt (w1.alloc (.cells #[] 33)) w1.heap.size [] := ⟨_, Blk.new w1 33 #[], fun j hj => absurd hj (by simp)⟩
  exact ⟨_, 0, [], rfl, rfl, (NRows.nil w.heap.size _).own hA, (NRows.nil w.heap.size _).theirs hA h.size, hb⟩
theorem rv_yes {w wr : World} {G c : Nat} {es : List NV} {v : List Nd} (hr : NRows w.heap.size es wr) (hG : NAt wr G es) (hl : w.heap.size ≤ G) (hb : Below w.heap.size w wr) (hv : es.map NV.d = v) : RvAns (some v) w (.returned (.tuple #[.slice (some ⟨G, 0, none⟩) es.length c, .bool true])) wr :=
  ⟨G, c, es, rfl, hv, hr.own hG, hr.theirs hG hl, hb⟩
theorem splitN_words {s : List UInt8} {q : List (List (List UInt8))} (h : splitN s = some q) : ∀ x ∈ q, x.length ≤ s.length + 1 := by
  unfold splitN at h
  cases hp : partsV s with
  | none => rw [hp] at h; cases h
  | some ps =>
    rw [hp] at h
    simp only at h
    split at h
    · obtain rfl := Option.some.inj h
      intro x hx
      obtain ⟨p, hpp, rfl⟩ := List.mem_map.1 hx
      have h1 := spl_length 32 p
      have h2 : p.count 32 ≤ p.length := List.count_le_length
      have h3 := pv_le hp p hpp
      omega
    · cases h
theorem readN_fit {w : List UInt8} {r : List (List UInt8)} {d : Nd} {m : Nat} (h : implReadN (w :: r) = some d) (hc : (cat [32] r).length ≤ m) (hr : r.length ≤ m) (h3 : 3 ≤ m) : fitD m d := by
  by_cases k1 : kindW w = 1
  · rw [implReadN_1 k1] at h
    obtain rfl := Option.some.inj h
    exact ⟨by show (mkB (cat [32] r)).size ≤ m; rw [← bl_length, bl_mkB]; exact hc, Nat.zero_le _, Nat.zero_le _⟩
  · by_cases k2 : kindW w = 2
    · rw [implReadN_2 k2] at h
      split at h
      · obtain rfl := Option.some.inj h
        exact ⟨Nat.zero_le _, Nat.le_trans (specReadCs_len _) h3, Nat.zero_le _⟩
      · cases h
    · rw [implReadN_3 k1 k2] at h
      cases hp : readP r with
      | none => rw [hp] at h; cases h
      | some zp =>
        obtain ⟨z, p⟩ := zp
        rw [hp] at h
        obtain rfl := Option.some.inj h
        refine ⟨Nat.zero_le _, Nat.zero_le _, ?_⟩
        show z.length ≤ m
        unfold readP at hp
        split at hp
        · cases h1 : numsI (r.take (r.findIdx (· == sumL))) with
          | none => rw [h1] at hp; cases hp
          | some z1 =>
            rw [h1] at hp
            have := mapM_len h1
            rw [List.length_take] at this
            split at hp
            · rename_i z2 p2 e1 _
              obtain rfl : z1 = z2 := Option.some.inj e1
              obtain rfl : z1 = z := (congrArg Prod.fst (Option.some.inj hp))
              omega
            · cases hp
        · cases h1 : numsI r with
          | none => rw [h1] at hp; cases hp
          | some z1 =>
            rw [h1] at hp
            have := mapM_len h1
            obtain rfl : z1 = z := (congrArg Prod.fst (Option.some.inj hp))
            omega
theorem own_cells1 {w : World} {base n : Nat} {t : TypeId} {v : Value} {xs : List Value} (h : w.ownsRow base t 1 v n xs) (h0 : 0 < n) : ∃ g cap, v = .slice (some ⟨g, 0, none⟩) n cap ∧ g < w.heap.size ∧ n ≤ cap ∧ ∀ (j : Nat) x, xs[j]? = some x → w.cell? ⟨g, j, none⟩ = some x := by
  have hxl : xs.length = n := by have := h.1; omega
  rcases h.2 with ⟨_, h0'⟩ | ⟨g, cap, cur, rfl, hg, hh, hnc, _, hs, ht⟩
  · omega
  · refine ⟨g, cap, rfl, Blk.lt (t := t) (cs := cur) hh, hnc, fun j x hx => ?_⟩
    have hj := (List.getElem?_eq_some_iff.1 hx).1
    have e : (cur.toList.take (n * 1))[j]? = xs[j]? := by rw [ht]
    rw [List.getElem?_take, if_pos (by omega), Array.getElem?_toList] at e
    rw [Blk.cell (t := t) (cs := cur) hh j, e, hx]
end Go.Proofs.YtpadhcoboapodaaGreatDoor
