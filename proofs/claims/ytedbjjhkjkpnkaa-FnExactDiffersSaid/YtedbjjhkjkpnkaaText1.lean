/- Contracts of the model's text helpers: l1Words puts texts together with a text between; l1Numbers shows the numbers of a row; ShowRow. For slices of at most 2^20 texts and texts of at most 2^40 bytes. -/
import Derived.Test.YtedbjjhkjkpnkaaShow1
import Derived.Maps.AppendAt
namespace Go.Proofs.Ytedbjjhkjkpnkaa
open Go.RowKit

/-- The text at place k (a name of its own, so that the walk does not respell it). -/
def sx (ts : List ByteArray) (k : Nat) : ByteArray := ts[k]?.getD ⟨#[]⟩
theorem sx_eq (ts : List ByteArray) (k : Nat) (h : k < ts.length) : sx ts k = ts[k] := by simp [sx, h]
/-- The slice value '.slice A ts.length c' holds the texts ts, in a block below B. -/
def Strs (w : World) (B : Nat) (A : Option Addr) (ts : List ByteArray) : Prop :=
  0 < ts.length → ∃ b off, A = some ⟨b, off, none⟩ ∧ b < B ∧ ∀ j, j < ts.length → w.cell? ⟨b, off + j, none⟩ = some (.string (sx ts j))
theorem Strs.below {w w' : World} {B : Nat} {A : Option Addr} {ts : List ByteArray} (h : Strs w B A ts) (hb : Below B w w') : Strs w' B A ts := fun hn => by
  obtain ⟨b, off, e, hl, hc⟩ := h hn
  exact ⟨b, off, e, hl, fun j hj => (hb.cell hl).trans (hc j hj)⟩

/-- Texts with a text between. -/
def cat (by_ : List UInt8) : List (List UInt8) → List UInt8
  | [] => []
  | [t] => t
  | t :: u :: r => t ++ by_ ++ cat by_ (u :: r)
theorem cat_snoc (by_ : List UInt8) (t : List UInt8) : ∀ l : List (List UInt8), l ≠ [] → cat by_ (l ++ [t]) = cat by_ l ++ by_ ++ t
  | [], h => absurd rfl h
  | [u], _ => by simp [cat]
  | u :: v :: r, _ => by
    have := cat_snoc by_ t (v :: r) (by simp)
    simp only [List.cons_append] at this ⊢
    rw [cat, this, cat]
    simp
def bl (s : ByteArray) : List UInt8 := s.data.toList
theorem bl_append (a b : ByteArray) : bl (a ++ b) = bl a ++ bl b := by
  have : a ++ b = ⟨(bl a ++ bl b).toArray⟩ := by rw [← ByteArray.mk_append_mk]; rfl
  rw [this]; simp [bl]
theorem bl_mk (l : List UInt8) : bl ⟨l.toArray⟩ = l := by simp [bl]
theorem bl_length (s : ByteArray) : (bl s).length = s.size := Array.length_toList
theorem bl_eta (s : ByteArray) (l : List UInt8) (h : bl s = l) : s = ⟨l.toArray⟩ := bytes_eta s l h
def catT (by_ : ByteArray) (ts : List ByteArray) : List UInt8 := cat (bl by_) (ts.map bl)
theorem catT_succ (by_ : ByteArray) (ts : List ByteArray) (k : Nat) (h : k < ts.length) (hk : 0 < k) : catT by_ (ts.take (k + 1)) = catT by_ (ts.take k) ++ bl by_ ++ bl (sx ts k) := by
  unfold catT
  rw [List.take_succ_eq_append_getElem h, List.map_append, sx_eq ts k h]
  exact cat_snoc _ _ _ (by intro e; have := congrArg List.length e; simp only [List.length_map, List.length_take, List.length_nil] at this; omega)
theorem catT_one (by_ : ByteArray) (ts : List ByteArray) (h : 0 < ts.length) : catT by_ (ts.take 1) = bl (sx ts 0) := by
  unfold catT
  rw [sx_eq ts 0 h]
  cases ts with
  | nil => simp at h
  | cons t r => simp [cat]
theorem catT_mono (by_ : ByteArray) (ts : List ByteArray) (k : Nat) : ∀ d, k + d ≤ ts.length → (catT by_ (ts.take k)).length ≤ (catT by_ (ts.take (k + d))).length
  | 0, _ => Nat.le_refl _
  | d + 1, h => by
    refine Nat.le_trans (catT_mono by_ ts k d (by omega)) ?_
    rw [show k + (d + 1) = (k + d) + 1 by omega]
    by_cases h0 : k + d = 0
    · rw [h0]; simp [catT, cat]
    · rw [catT_succ by_ ts (k + d) (by omega) (by omega)]; simp only [List.length_append]; omega
theorem catT_le (by_ : ByteArray) (ts : List ByteArray) (k : Nat) (h : k ≤ ts.length) : (catT by_ (ts.take k)).length ≤ (catT by_ ts).length := by
  have := catT_mono by_ ts k (ts.length - k) (by omega)
  rwa [show k + (ts.length - k) = ts.length by omega, List.take_length] at this

theorem info_u8 : (Try.prog.info? 5).map (fun i => (i.zero, i.size, i.bytes)) = some (some (.int .u8 0), 1, 1) := by kernel_rfl
theorem info_str : (Try.prog.info? 9).map (fun i => (i.zero, i.size, i.bytes)) = some (some (.string ⟨#[]⟩), 1, 16) := by kernel_rfl
def strl (ts : List ByteArray) : List Value := ts.map Value.string
theorem strs_of_own {w : World} {base : Nat} {v : Value} {ts : List ByteArray} (h : w.ownsRow base 9 1 v ts.length (strl ts)) : ∃ A cap, v = .slice A ts.length cap ∧ Strs w w.heap.size A ts := by
  rcases h.2 with ⟨rfl, h0⟩ | ⟨g, cap, cur, rfl, hg, hh, hnc, _, hs, ht⟩
  · rw [h0]; exact ⟨none, 0, rfl, fun hn => absurd hn (by omega)⟩
  · refine ⟨_, cap, rfl, fun _ => ⟨g, 0, rfl, Blk.lt (t := 9) (cs := cur) hh, fun j hj => ?_⟩⟩
    have e : (cur.toList.take (ts.length * 1))[j]? = (strl ts)[j]? := by rw [ht]
    rw [List.getElem?_take, if_pos (by omega), Array.getElem?_toList] at e
    rw [Nat.zero_add, Blk.cell (t := 9) (cs := cur) hh j, e]
    simp [strl, sx, hj]

/-- The numbers of a row as texts. -/
def numT (zs : List Int) : List ByteArray := zs.map fun n => ⟨(Lib.itoa n).toArray⟩
theorem numT_take_succ (zs : List Int) (k : Nat) (h : k < zs.length) : numT (zs.take (k + 1)) = numT (zs.take k) ++ [⟨(Lib.itoa (ix zs k)).toArray⟩] := by
  unfold numT
  rw [List.take_succ_eq_append_getElem h, List.map_append, ix_eq zs k h]; rfl
theorem numT_length (zs : List Int) : (numT zs).length = zs.length := by simp [numT]

theorem cell_of_B {n : Int} (h : cellB n = true) : -1000000000 ≤ n ∧ n ≤ 1000000000 := by simpa [cellB, inB] using h
/-- What a row shows as, when it is right and not empty. -/
def numbersL (zs : List Int) : List UInt8 := catT ⟨#[32]⟩ (numT zs)

end Go.Proofs.Ytedbjjhkjkpnkaa
