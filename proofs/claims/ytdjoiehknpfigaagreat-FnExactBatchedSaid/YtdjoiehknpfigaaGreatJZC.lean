/- Texts joined: Show5, ShowA, Show6, RdA, RdB: contracts and plain facts; each says its own below. -/
import Derived.Test.YtdjoiehknpfigaaGreatJZB
import Derived.Test.YtdjoiehknpfigaaGreatDeed2
import Derived.Deep.RegionLaw
import Derived.Test.YtdjoiehknpfigaaGreatDeed3
import Derived.Test.YtdjoiehknpfigaaGreatSwi
import Derived.Deep.RegionHeld3
/- The model's ShowDeed: the text of a right deed, else the empty one; nothing that lay has turned. -/
namespace Go.Proofs.YtdjoiehknpfigaaGreat
open Go.RowKit

theorem text_name {k : Nat} (hk : k < 7) (s : ByteArray) : (sx wordsB k ++ (⟨#[32]⟩ : ByteArray)) ++ s = ⟨(wordL k ++ 32 :: bl s).toArray⟩ := by
  refine bl_eta _ _ ?_
  rw [bl_append, bl_append, wordsB_at hk]
  simp [bl]
theorem text_row {k : Nat} (hk : k < 7) (s n : ByteArray) : ((sx wordsB k ++ (⟨#[32]⟩ : ByteArray)) ++ s ++ (⟨#[32]⟩ : ByteArray)) ++ n = ⟨(wordL k ++ 32 :: (bl s ++ 32 :: bl n)).toArray⟩ := by
  refine bl_eta _ _ ?_
  rw [bl_append, bl_append, bl_append, bl_append, wordsB_at hk]
  simp [bl]
theorem name_size {s : ByteArray} (h : nameB s = true) : s.size ≤ 6 := by
  unfold nameB inB at h
  rw [Bool.and_eq_true, Bool.and_eq_true] at h
  have := of_decide_eq_true h.2.2
  omega
end Go.Proofs.YtdjoiehknpfigaaGreat

/- The program's ShowDeed: the text of a right deed, else the empty one; nothing that lay has turned. The variables lie as the text lays them. -/
namespace Go.Proofs.YtdjoiehknpfigaaGreat
open Go.RowKit

abbrev TabAt (w : World) : Prop := Lib.TabBelow Tryz.prog w.heap.size w "internal/strconv.uint64pow10" .u64 Lib.pow10Tab
theorem tab_on {w w1 : World} (h : TabAt w) (hb : Below w.heap.size w w1) : TabAt w1 := fun w' h' => h w' (hb.trans (h'.mono hb.size))
theorem name_size6 {s : ByteArray} (h : nameB s = true) : s.size ≤ 6 := by
  unfold nameB inB at h
  rw [Bool.and_eq_true, Bool.and_eq_true] at h
  have := of_decide_eq_true h.2.2
  omega
theorem numbersL_single {zs : List Int} (h : zs.length = 1) : numbersL zs = Lib.itoa (ix zs 0) := by
  match zs, h with
  | [x], _ => rw [numbersL_one]; rfl
end Go.Proofs.YtdjoiehknpfigaaGreat

/- The program's ShowDeed: the text of a right deed, else the empty one; nothing that lay has turned. The variables lie as the text lays them. -/
namespace Go.Proofs.YtdjoiehknpfigaaGreat
open Go.RowKit

end Go.Proofs.YtdjoiehknpfigaaGreat

/- Reading a deed: what is answered, in memory; strings.Cut at a blank; the program's ReadDeed out of what it calls. For texts of at most 2^30 bytes. -/
namespace Go.Proofs.YtdjoiehknpfigaaGreat
open Go.RowKit

/-- The answer of a reader of deeds, in memory. -/
def DeedAns (p : RD) (w : World) (e : Ending) (w' : World) : Prop :=
  ∃ A c g, e = .returned (.tuple #[.agg #[.int .i64 p.k, .string p.n, .slice A p.z.length c], .bool p.ok]) ∧ w.heap.size ≤ g ∧ Row w' 2 A p.z g ∧ Below w.heap.size w w'
theorem deedAns_zero {w w' : World} {e : Ending} (he : e = .returned (.tuple #[.agg #[.int .i64 0, .string ⟨#[]⟩, .slice none 0 0], .bool false])) (hb : Below w.heap.size w w') : DeedAns zeroD w e w' :=
  ⟨none, 0, w.heap.size, he, Nat.le_refl _, fun h => absurd h (by simp [zeroD]), hb⟩
theorem cut_le (l : List UInt8) : (cutA l).length ≤ l.length ∧ (cutR l).length ≤ l.length := by
  unfold cutA cutR
  rcases has_cut 32 l with h | ⟨a, b, ha, rfl⟩
  · rw [cut_no h]; simp
  · rw [cut_at ha]; simp; omega
theorem mkB_size (l : List UInt8) : (mkB l).size = l.length := by rw [← bl_length, bl_mkB]
theorem set3_row {w : World} {t : TypeId} {A : Option Addr} {zs : List Int} {g G : Nat} (h : Row w t A zs g) (hne : 0 < zs.length → g ≠ G) (x y z : Value) : Row (((w.setCell ⟨G, 0, none⟩ x).setCell ⟨G, 1, none⟩ y).setCell ⟨G, 2, none⟩ z) t A zs g :=
  h.kept (grown_trans (grown_trans (grown_setCell w G 0 x) (grown_setCell _ G 1 y)) (grown_setCell _ G 2 z)) (fun hn e => hne hn (Option.some.inj e))
theorem set3_bel {w w5 : World} {G : Nat} (h : Below w.heap.size w w5) (hG : w.heap.size ≤ G) (x y z : Value) : Below w.heap.size w (((w5.setCell ⟨G, 0, none⟩ x).setCell ⟨G, 1, none⟩ y).setCell ⟨G, 2, none⟩ z) :=
  ((h.setCell (p := ⟨G, 0, none⟩) hG _).setCell (p := ⟨G, 1, none⟩) hG _).setCell (p := ⟨G, 2, none⟩) hG _
theorem endD_no {s : List UInt8} {k : Int} {n : ByteArray} {zs : List Int} (h : deedB k n zs = false) : endD s k n zs = zeroD := by unfold endD; rw [if_neg (fun e => by rw [h] at e; exact absurd e.1 (by simp))]
theorem endD_other {s : List UInt8} {k : Int} {n : ByteArray} {zs : List Int} (h : ¬ showD k n zs = s) : endD s k n zs = zeroD := by unfold endD; rw [if_neg (fun e => h e.2)]
theorem endD_yes {s : List UInt8} {k : Int} {n : ByteArray} {zs : List Int} (h : deedB k n zs = true) (h2 : showD k n zs = s) : endD s k n zs = ⟨k, n, zs, true⟩ := by unfold endD; rw [if_pos ⟨h, h2⟩]
theorem tolist_ne {a b : ByteArray} (h : ¬ bl a = bl b) : (a.toList == b.toList) = false := by
  rw [toList_bl, toList_bl, beq_eq_false_iff_ne]; exact h

end Go.Proofs.YtdjoiehknpfigaaGreat

/- The model's way of reading a deed: l1At over the words; ReadDeed; nothing that lay has turned. For texts of at most 2^20 bytes. -/
namespace Go.Proofs.YtdjoiehknpfigaaGreat
open Go.RowKit

theorem cat_tail_le (by_ : List UInt8) : ∀ ws : List (List UInt8), (cat by_ ws.tail).length ≤ (cat by_ ws).length
  | [] => Nat.le_refl _
  | [w] => by simp [cat]
  | w :: v :: r => by rw [cat_cons _ _ _ (by simp)]; simp; omega
theorem cat_drop2_le (by_ : List UInt8) (ws : List (List UInt8)) : (cat by_ (ws.drop 2)).length ≤ (cat by_ ws).length := by
  have e : ws.drop 2 = ws.tail.tail := by cases ws with | nil => rfl | cons a t => cases t <;> rfl
  rw [e]
  exact Nat.le_trans (cat_tail_le by_ _) (cat_tail_le by_ ws)
theorem finD_no {k : Int} {n : ByteArray} {zs : List Int} (h : deedB k n zs = false) : finD k n zs = zeroD := by unfold finD; rw [if_neg (by rw [h]; simp)]
theorem finD_yes {k : Int} {n : ByteArray} {zs : List Int} (h : deedB k n zs = true) : finD k n zs = ⟨k, n, zs, true⟩ := by unfold finD; rw [if_pos h]
theorem word_get (ts : List ByteArray) (k : Nat) (h : k < ts.length) : (ts.map bl)[k]?.getD [] = bl (sx ts k) := by rw [sx_eq ts k h]; simp [h]
theorem specReadD_len (s : List UInt8) : (specReadD s).z.length ≤ 6 := by
  have hf : ∀ k n zs, zs.length ≤ 6 → (finD k n zs).z.length ≤ 6 := fun k n zs h => by
    unfold finD
    split
    · exact h
    · simp [zeroD]
  unfold specReadD
  repeat' split
  · simp [zeroD]
  · exact hf _ _ _ (by simp)
  · simp [zeroD]
  · exact hf _ _ _ (specRead_len _)
/-- A slice of texts of two or more: where it lies. -/
theorem strs_two {w : World} {base : Nat} {v : Value} {ts : List ByteArray} (h : w.ownsRow base 9 1 v ts.length (strl ts)) (h2 : 2 ≤ ts.length) : ∃ g cap, v = .slice (some ⟨g, 0, none⟩) ts.length cap ∧ ts.length ≤ cap ∧ g < w.heap.size ∧ ∀ j, j < ts.length → w.cell? ⟨g, j, none⟩ = some (.string (sx ts j)) := by
  rcases h.2 with ⟨rfl, h0⟩ | ⟨g, cap, cur, rfl, hg, hh, hnc, _, hs, ht⟩
  · omega
  · refine ⟨g, cap, rfl, hnc, Blk.lt (t := 9) (cs := cur) hh, fun j hj => ?_⟩
    obtain ⟨A', cap', e, hS⟩ := strs_of_own h
    obtain ⟨b, off, e', _, hc⟩ := hS (by omega)
    cases e
    cases e'
    have := hc j hj
    rwa [Nat.zero_add] at this
end Go.Proofs.YtdjoiehknpfigaaGreat
