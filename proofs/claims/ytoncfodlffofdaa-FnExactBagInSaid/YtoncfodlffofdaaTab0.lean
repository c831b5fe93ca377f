/- Rows in memory of the call's own, each in a block of its own: words and laws; how they grow by a row; how they read. No condition; of the program only the types of rows and numbers are named. -/
import Derived.Test.YtoncfodlffofdaaCopyRow0
import Derived.Test.YtoncfodlffofdaaRowsRws
namespace Go.Proofs.Ytoncfodlffofdaa
open Go.RowKit

def rowCs (es : List Ent) : List Value := es.map fun e => .slice e.A e.r.length e.c
theorem rowCs_length (es : List Ent) : (rowCs es).length = es.length := by simp [rowCs]
theorem rowCs_append (es fs : List Ent) : rowCs (es ++ fs) = rowCs es ++ rowCs fs := by simp [rowCs]
theorem rowCs_take (es : List Ent) (k : Nat) : (rowCs es).take k = rowCs (es.take k) := by simp [rowCs, List.map_take]
theorem rowCs_drop (es : List Ent) (k : Nat) : (rowCs es).drop k = rowCs (es.drop k) := by simp [rowCs, List.map_drop]
theorem rowCs_get (es : List Ent) (k : Nat) (h : k < es.length) : (rowCs es)[k]? = some (.slice es[k].A es[k].r.length es[k].c) := by simp [rowCs, h]
theorem rowCs_one (es : List Ent) : ∀ u ∈ rowCs es, u.oneCell' = true := by
  intro u hu
  obtain ⟨e, _, rfl⟩ := List.mem_map.1 hu
  rfl
/-- The value v is a slice of rows of the call's own: its rows es. -/
def ORows (w : World) (lo : Nat) (v : Value) (es : List Ent) : Prop :=
  w.ownsRow lo 25 1 v es.length (rowCs es) ∧ EntsAt w lo v.ownBlock es
theorem ORows.inside {w : World} {lo : Nat} {v : Value} {es : List Ent} (h : ORows w lo v es) : Inside w.heap.size v es :=
  ⟨fun g hg => (h.1.lt g hg).2, fun e he hn => (h.2.1 e he).1.lt hn⟩
theorem ORows.keep {w w' : World} {lo hi : Nat} {v : Value} {es : List Ent} (h : ORows w lo v es) (hi' : Inside hi v es) (hk : ∀ b, lo ≤ b → b < hi → w'.heap[b]? = w.heap[b]?) : ORows w' lo v es := by
  refine ⟨own_keepB h.1 fun g hg => hk g (h.1.lt g hg).1 (hi'.1 g hg), fun e he => ?_, h.2.2⟩
  obtain ⟨h1, h2⟩ := h.2.1 e he
  exact ⟨h1.keepB fun hn => hk _ (h2 hn).1 (hi'.2 e he hn), h2⟩
theorem ORows.on {w w' : World} {lo : Nat} {v : Value} {es : List Ent} (h : ORows w lo v es) (hb : Below w.heap.size w w') : ORows w' lo v es :=
  h.keep h.inside fun b _ hlt => hb.block b hlt
theorem ORows.drewN {w : World} {lo : Nat} {v : Value} {es : List Ent} (h : ORows w lo v es) (n : Nat) : ORows (w.drewN n) lo v es := h
theorem ORows.form {w : World} {lo : Nat} {v : Value} {es : List Ent} (h : ORows w lo v es) : ∃ A cap, v = .slice A es.length cap := own_form h.1
theorem ORows.lower {w : World} {lo lo' : Nat} {v : Value} {es : List Ent} (h : ORows w lo v es) (hl : lo' ≤ lo) : ORows w lo' v es := by
  refine ⟨⟨h.1.1, ?_⟩, fun e he => ⟨(h.2.1 e he).1, fun hn => ⟨Nat.le_trans hl ((h.2.1 e he).2 hn).1, ((h.2.1 e he).2 hn).2⟩⟩, h.2.2⟩
  rcases h.1.2 with h2 | ⟨g, cap, cur, rfl, h4, h5⟩
  · exact .inl h2
  · exact .inr ⟨g, cap, cur, rfl, by omega, h5⟩
theorem ORows.nil {w : World} {lo : Nat} {v : Value} (h : w.ownsRow lo 25 1 v 0 []) : ORows w lo v [] := ⟨h, (fun e he => by cases he), List.Pairwise.nil⟩
theorem ORows.none_ (w : World) (lo : Nat) : ORows w lo (.slice none 0 0) [] := ORows.nil (World.ownsRow_nil _ _ _ _)
theorem ORows.push {w w' : World} {lo : Nat} {v v' : Value} {es : List Ent} {r : List Int} {n : Int} {A : Option Addr} {c g : Nat} (h : ORows w lo v es) (hg : w.grownBy w' v.ownBlock)
    (hown : w'.ownsRow lo 25 1 v' (es.length + 1) (rowCs es ++ [.slice A r.length c])) (hat : v'.ownBlock = v.ownBlock ∨ v'.ownBlock = some w.heap.size)
    (hR : Row w 2 A r g) (hgr : 0 < r.length → lo ≤ g ∧ some g ≠ v.ownBlock ∧ ∀ e ∈ es, 0 < e.r.length → e.g ≠ g) : ORows w' lo v' (es ++ [⟨r, n, A, c, g⟩]) := by
  have key : ∀ b, b < w.heap.size → some b ≠ v.ownBlock → some b ≠ v'.ownBlock := by
    intro b hb hne e
    rcases hat with ha | ha
    · exact hne (by rw [e, ha])
    · rw [ha] at e; injection e with e; omega
  refine ⟨?_, fun e he => ?_, ?_⟩
  · rw [rowCs_append]
    simpa [rowCs] using hown
  · rcases List.mem_append.1 he with he | he
    · obtain ⟨h1, h2⟩ := h.2.1 e he
      exact ⟨h1.kept hg fun hn => (h2 hn).2, fun hn => ⟨(h2 hn).1, key _ (h1.lt hn) (h2 hn).2⟩⟩
    · obtain rfl : e = ⟨r, n, A, c, g⟩ := by simpa using he
      exact ⟨hR.kept hg fun hn => (hgr hn).2.1, fun hn => ⟨(hgr hn).1, key _ (hR.lt hn) (hgr hn).2.1⟩⟩
  · rw [List.pairwise_append]
    refine ⟨h.2.2, List.pairwise_singleton _ _, fun a ha b hb hn hn' => ?_⟩
    obtain rfl : b = ⟨r, n, A, c, g⟩ := by simpa using hb
    exact (hgr hn').2.2 a ha hn
/-- With one more row, behind a copied one. -/
theorem ORows.pushRow {wr wd w1 w2 : World} {lo : Nat} {v v2 : Value} {es : List Ent} {r : List Int} {A1 : Option Addr} {cap1 g1 : Nat} {o : Obj} (hO : ORows wr lo v es) (hd : wd.heap = wr.heap) (hlo : lo ≤ wr.heap.size) (hg1 : wd.heap.size ≤ g1) (hR1 : Row w1 2 A1 r g1) (hO1 : ORows w1 lo v es)
    (hown2 : w2.ownsRow lo 25 1 v2 (es.length + 1) (rowCs es ++ [.slice A1 r.length cap1])) (hgrow2 : (w1.alloc o).grownBy w2 v.ownBlock)
    (hat2 : v2.ownBlock = v.ownBlock ∨ v2.ownBlock = some (w1.alloc o).heap.size) : ORows w2 lo v2 (es ++ [⟨r, 0, A1, cap1, g1⟩]) := by
  have b := (Below.refl w1.heap.size w1).alloc (Nat.le_refl _) o
  rw [hd] at hg1
  refine (hO1.on b).push hgrow2 hown2 hat2 (hR1.on b) fun hn => ⟨by omega, fun e => ?_, fun e he hn' => ?_⟩
  · have := hO.inside.1 g1 e.symm; omega
  · have := hO.inside.2 e he hn'; omega
theorem rr_map {es : List Ent} {j : Nat} (h : j < es.length) : rr (es.map Ent.r) j = es[j].r := by simp [rr, h]
/-- They read as their list. -/
theorem ORows.rws {w : World} {lo : Nat} {A : Option Addr} {cap : Nat} {es : List Ent} {n : Nat} (h : ORows w lo (.slice A n cap) es) (hl : ∀ e ∈ es, e.r.length ≤ 1099511627776) : Rws w w.heap.size A (es.map Ent.r) := fun hn => by
  simp only [List.length_map] at hn
  rcases h.1.2 with ⟨_, h0⟩ | ⟨g, cap', cur, hv, hg, hh, _, _, hs, ht⟩
  · omega
  · injection hv with hv _ _
    subst hv
    have hlt := Blk.lt (t := 25) (cs := cur) hh
    refine ⟨g, 0, rfl, hlt, fun j hj => ?_⟩
    simp only [List.length_map] at hj
    obtain ⟨h1, _⟩ := h.2.1 es[j] (List.getElem_mem hj)
    rw [rr_map hj]
    refine ⟨es[j].A, es[j].c, ?_, h1.ints, hl _ (List.getElem_mem hj)⟩
    rw [Nat.zero_add, Blk.cell (t := 25) (cs := cur) hh j, ← rowCs_get es j hj, ← ht, List.getElem?_take, if_pos (by omega), Array.getElem?_toList]
theorem ORows.formW {w : World} {lo : Nat} {v : Value} {es : List Ent} {rows : List (List Int)} (h : ORows w lo v es) (he : es.map Ent.r = rows) : ∃ A cap, v = .slice A rows.length cap := by
  obtain ⟨A, cap, rfl⟩ := h.form
  exact ⟨A, cap, by rw [← he, List.length_map]⟩
theorem ORows.rwsW {w : World} {lo n c : Nat} {A : Option Addr} {es : List Ent} {rows : List (List Int)} (h : ORows w lo (.slice A n c) es) (he : es.map Ent.r = rows) (hl : ∀ j, j < rows.length → (rr rows j).length ≤ 1099511627776) : Rws w w.heap.size A rows := by
  have hle : ∀ e ∈ es, e.r.length ≤ 1099511627776 := by
    intro e hm
    obtain ⟨j, hj, rfl⟩ := List.getElem_of_mem hm
    have := hl j (by rw [← he]; simpa using hj)
    rwa [← he, rr_map hj] at this
  rw [← he]; exact ORows.rws h hle
theorem Rws.here1 {w : World} {B : Nat} {A : Option Addr} {rows : List (List Int)} (h : Rws w B A rows) {j : Nat} (hj : j < rows.length) :
    ∃ b off Ar cap, A = some ⟨b, off, none⟩ ∧ b < B ∧ w.cell? ⟨b, off + j, none⟩ = some (.slice Ar (rr rows j).length cap) ∧ Ints w B Ar (rr rows j) ∧ (rr rows j).length ≤ 1099511627776 := by
  obtain ⟨b, off, e, hb, hc⟩ := h (by omega)
  obtain ⟨Ar, cap, h1, h2, h3⟩ := hc j hj
  exact ⟨b, off, Ar, cap, e, hb, h1, h2, h3⟩
theorem Rws.drewN {w : World} {B : Nat} {A : Option Addr} {rows : List (List Int)} (h : Rws w B A rows) (n : Nat) : Rws (w.drewN n) B A rows := h
theorem Rws.below {w w' : World} {B : Nat} {A : Option Addr} {rows : List (List Int)} (h : Rws w B A rows) (hb : Below B w w') : Rws w' B A rows := fun hn => by
  obtain ⟨b, off, e, hlt, hc⟩ := h hn
  refine ⟨b, off, e, hlt, fun j hj => ?_⟩
  obtain ⟨Ar, cap, h1, h2, h3⟩ := hc j hj
  exact ⟨Ar, cap, (hb.cell hlt).trans h1, h2.below hb, h3⟩
theorem Rws.more {w : World} {B B' : Nat} {A : Option Addr} {rows : List (List Int)} (h : Rws w B A rows) (hB : B ≤ B') : Rws w B' A rows := fun hn => by
  obtain ⟨b, off, e, hlt, hc⟩ := h hn
  refine ⟨b, off, e, by omega, fun j hj => ?_⟩
  obtain ⟨Ar, cap, h1, h2, h3⟩ := hc j hj
  exact ⟨Ar, cap, h1, h2.more hB, h3⟩
end Go.Proofs.Ytoncfodlffofdaa
