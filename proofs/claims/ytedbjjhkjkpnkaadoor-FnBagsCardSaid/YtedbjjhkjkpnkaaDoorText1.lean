/- Contracts of the model's text helpers: l1Words puts texts together with a text between; l1Numbers shows the numbers of a row; ShowRow. For slices of at most 2^20 texts and texts of at most 2^40 bytes. -/
import Derived.Test.YtedbjjhkjkpnkaaDoorShow1
import Derived.Maps.AppendAt
namespace Go.Proofs.YtedbjjhkjkpnkaaDoor
open Go.RowKit

/-- The text at place k (a name of its own, so that the walk does not respell it). -/
def sx (ts : List ByteArray) (k : Nat) : ByteArray := ts[k]?.getD ⟨#[]⟩
theorem sx_eq (ts : List ByteArray) (k : Nat) (h : k < ts.length) : sx ts k = ts[k] := by simp [sx, h]
/-- The slice value '.slice A ts.length c' holds the texts ts, in a block below B. -/
def Strs (w : World) (B : Nat) (A : Option Addr) (ts : List ByteArray) : Prop :=
  0 < ts.length → ∃ b off, A = some ⟨b, off, none⟩ ∧ b < B ∧ ∀ j, j < ts.length → w.cell? ⟨b, off + j, none⟩ = some (.string (sx ts j))
theorem Strs.below {w w' : World} {B : Nat} {A : Option Addr} {ts : List ByteArray} (h : Strs w B A ts) (hb : Below B w w') : Strs w' B A ts := fun hn => by
  obtain ⟨b, off, e, hl, hc⟩ := h hn
  exact ⟨b, off, e, hl, fun j hj => (hb.cell hl).trans (hc j hj)⟩

/-- Texts with a text between. -/
def cat (by_ : List UInt8) : List (List UInt8) → List UInt8
  | [] => []
  | [t] => t
  | t :: u :: r => t ++ by_ ++ cat by_ (u :: r)
theorem cat_snoc (by_ : List UInt8) (t : List UInt8) : ∀ l : List (List UInt8), l ≠ [] → cat by_ (l ++ [t]) = cat by_ l ++ by_ ++ t
  | [], h => absurd rfl h
  | [u], _ => by simp [cat]
  | u :: v :: r, _ => by
    have := cat_snoc by_ t (v :: r) (by simp)
    simp only [List.cons_append] at this ⊢
    rw [cat, this, cat]
    simp
def bl (s : ByteArray) : List UInt8 := s.data.toList
theorem bl_append (a b : ByteArray) : bl (a ++ b) = bl a ++ bl b := by
  have : a ++ b = ⟨(bl a ++ bl b).toArray⟩ := by rw [← ByteArray.mk_append_mk]; rfl
  rw [this]; simp [bl]
theorem bl_mk (l : List UInt8) : bl ⟨l.toArray⟩ = l := by simp [bl]
theorem bl_length (s : ByteArray) : (bl s).length = s.size := Array.length_toList
theorem bl_eta (s : ByteArray) (l : List UInt8) (h : bl s = l) : s = ⟨l.toArray⟩ := bytes_eta s l h
def catT (by_ : ByteArray) (ts : List ByteArray) : List UInt8 := cat (bl by_) (ts.map bl)
theorem catT_succ (by_ : ByteArray) (ts : List ByteArray) (k : Nat) (h : k < ts.length) (hk : 0 < k) : catT by_ (ts.take (k + 1)) = catT by_ (ts.take k) ++ bl by_ ++ bl (sx ts k) := by
  unfold catT
  rw [List.take_succ_eq_append_getElem h, List.map_append, sx_eq ts k h]
  exact cat_snoc _ _ _ (by intro e; have := congrArg List.length e; simp only [List.length_map, List.length_take, List.length_nil] at this; omega)
theorem catT_one (by_ : ByteArray) (ts : List ByteArray) (h : 0 < ts.length) : catT by_ (ts.take 1) = bl (sx ts 0) := by
  unfold catT
  rw [sx_eq ts 0 h]
  cases ts with
  | nil => simp at h
  | cons t r => simp [cat]
theorem catT_mono (by_ : ByteArray) (ts : List ByteArray) (k : Nat) : ∀ d, k + d ≤ ts.length → (catT by_ (ts.take k)).length ≤ (catT by_ (ts.take (k + d))).length
  | 0, _ => Nat.le_refl _
  | d + 1, h => by
    refine Nat.le_trans (catT_mono by_ ts k d (by omega)) ?_
    rw [show k + (d + 1) = (k + d) + 1 by omega]
    by_cases h0 : k + d = 0
    · rw [h0]; simp [catT, cat]
    · rw [catT_succ by_ ts (k + d) (by omega) (by omega)]; simp only [List.length_append]; omega
theorem catT_le (by_ : ByteArray) (ts : List ByteArray) (k : Nat) (h : k ≤ ts.length) : (catT by_ (ts.take k)).length ≤ (catT by_ ts).length := by
  have := catT_mono by_ ts k (ts.length - k) (by omega)
  rwa [show k + (ts.length - k) = ts.length by omega, List.take_length] at this

set_option maxRecDepth 100000 in
set_option maxHeartbeats 1000000 in
theorem l1Words_any (A : Option Addr) (c : Nat) (ts : List ByteArray) (by_ : ByteArray) (w : World) (B : Nat) (hS : Strs w B A ts) (hl : ts.length ≤ 1048576) (hby : by_.size ≤ 1099511627776) (hsum : (catT by_ ts).length ≤ 1099511627776) :
    Calls Tryd.prog 35 #[.slice A ts.length c, .string by_] w fun e w' => e = .returned (.string ⟨(catT by_ ts).toArray⟩) ∧ w = w' := by
  go_enter Tryd.func35, Tryd.ntmps35
  go_wp2
  go_loop [5, 6] (fun s i => ∃ (k : Nat) (sb : ByteArray), k ≤ ts.length ∧ i = .int .i64 k ∧ s = .string sb ∧ bl sb = catT by_ (ts.take k)) (fun _ i => ts.length - (intOf i).toNat)
  case atStart => exact ⟨0, ⟨#[]⟩, Nat.zero_le _, rfl, rfl, rfl⟩
  case round =>
    obtain ⟨k, sb, hk, rfl, rfl, hsb⟩ := hrel
    have hle := catT_le by_ ts k hk
    have hsz : sb.size ≤ 1099511627776 := by rw [← bl_length, hsb]; omega
    have HSB := Lib.hid hsb
    clear hsb hle
    by_cases hlt : k < ts.length
    · obtain ⟨b, off, rfl, hb, hc⟩ := hS (by omega)
      have hck := hc k hlt
      have hle1 := catT_le by_ ts (k + 1) (by omega)
      have hsx : (sx ts k).size ≤ 1099511627776 := by
        rw [← bl_length]
        by_cases h0 : k = 0
        · subst h0; rw [catT_one by_ ts (by omega)] at hle1; omega
        · rw [catT_succ by_ ts k hlt (by omega)] at hle1; simp at hle1; omega
      clear hc hle1
      by_cases h0 : 0 < k
      · have hsz2 : (sb ++ by_).size ≤ 2199023255552 := by rw [ByteArray.size_append]; omega
        go_wp2
        go_round
        case rel => exact ⟨k + 1, _, by omega, by go_num, rfl, by rw [bl_append, bl_append, HSB.out, catT_succ by_ ts k hlt h0]⟩
        case measure => simp [intOf]; omega
      · have hd : decide (0 < k) = false := by simpa using h0
        have HK : Hid (k = 0) := by show k = 0; omega
        clear h0
        go_wp2
        go_round
        case rel => exact ⟨k + 1, _, by omega, by go_num, rfl, by rw [bl_append, HSB.out, HK.out, catT_one by_ ts (by omega)]; simp [catT, cat]⟩
        case measure => simp [intOf]; omega
    · have HE := Lib.hid (bl_eta sb _ (by rw [HSB.out, List.take_of_length_le (by omega)] : bl sb = catT by_ ts))
      go_wp2
      go_ret
      exact ⟨congrArg (fun x => Ending.returned (.string x)) HE.out, rfl⟩

theorem info_u8 : (Tryd.prog.info? 5).map (fun i => (i.zero, i.size, i.bytes)) = some (some (.int .u8 0), 1, 1) := by kernel_rfl
theorem info_str : (Tryd.prog.info? 9).map (fun i => (i.zero, i.size, i.bytes)) = some (some (.string ⟨#[]⟩), 1, 16) := by kernel_rfl
def strl (ts : List ByteArray) : List Value := ts.map Value.string
theorem strs_of_own {w : World} {base : Nat} {v : Value} {ts : List ByteArray} (h : w.ownsRow base 9 1 v ts.length (strl ts)) : ∃ A cap, v = .slice A ts.length cap ∧ Strs w w.heap.size A ts := by
  rcases h.2 with ⟨rfl, h0⟩ | ⟨g, cap, cur, rfl, hg, hh, hnc, _, hs, ht⟩
  · rw [h0]; exact ⟨none, 0, rfl, fun hn => absurd hn (by omega)⟩
  · refine ⟨_, cap, rfl, fun _ => ⟨g, 0, rfl, Blk.lt (t := 9) (cs := cur) hh, fun j hj => ?_⟩⟩
    have e : (cur.toList.take (ts.length * 1))[j]? = (strl ts)[j]? := by rw [ht]
    rw [List.getElem?_take, if_pos (by omega), Array.getElem?_toList] at e
    rw [Nat.zero_add, Blk.cell (t := 9) (cs := cur) hh j, e]
    simp [strl, sx, hj]

/-- The numbers of a row as texts. -/
def numT (zs : List Int) : List ByteArray := zs.map fun n => ⟨(Lib.itoa n).toArray⟩
theorem numT_take_succ (zs : List Int) (k : Nat) (h : k < zs.length) : numT (zs.take (k + 1)) = numT (zs.take k) ++ [⟨(Lib.itoa (ix zs k)).toArray⟩] := by
  unfold numT
  rw [List.take_succ_eq_append_getElem h, List.map_append, ix_eq zs k h]; rfl
theorem numT_length (zs : List Int) : (numT zs).length = zs.length := by simp [numT]

theorem cell_of_B {n : Int} (h : cellB n = true) : -1000000000 ≤ n ∧ n ≤ 1000000000 := by simpa [cellB, inB] using h
/-- What a row shows as, when it is right and not empty. -/
def numbersL (zs : List Int) : List UInt8 := catT ⟨#[32]⟩ (numT zs)

set_option maxRecDepth 100000 in
set_option maxHeartbeats 1000000 in
theorem l1Numbers_any (A : Option Addr) (c : Nat) (zs : List Int) (w : World) (hI : Ints w w.heap.size A zs) (hl : zs.length ≤ 1048576) (hall : zs.all cellB = true) (hsum : (numbersL zs).length ≤ 1099511627776) :
    Calls Tryd.prog 54 #[.slice A zs.length c] w fun e w' => e = .returned (.string ⟨(numbersL zs).toArray⟩) ∧ Below w.heap.size w w' := by
  obtain ⟨i0, hi0, hz0, hz1, hz2⟩ := info_parts info_str
  have HALL := Lib.hid hall
  clear hall
  have hB0 : Below w.heap.size w (w.alloc (.cells #[] 9)) := (Below.refl _ _).alloc (Nat.le_refl _) _
  go_enter Tryd.func54, Tryd.ntmps54
  go_wp2
  go_loopw [3, 4] (fun v i wr => ∃ k : Nat, k ≤ zs.length ∧ i = .int .i64 k ∧ wr.ownsRow w.heap.size 9 1 v k (strl (numT (zs.take k))) ∧ Below w.heap.size w wr) (fun _ i _ => zs.length - (intOf i).toNat)
  case atStart => exact ⟨0, Nat.zero_le _, rfl, by simpa [numT, strl] using (World.ownsRow_made w #[] 0 (Nat.le_refl _) (Nat.zero_le _) rfl : (w.alloc (.cells #[] 9)).ownsRow w.heap.size 9 1 (.slice (some ⟨w.heap.size, 0, none⟩) 0 0) 0 []), hB0⟩
  case round =>
    obtain ⟨k, hk, rfl, hown, hbel⟩ := hrel
    by_cases hlt : k < zs.length
    · obtain ⟨hx0, hx1⟩ := cell_of_B (List.all_eq_true.1 HALL.out _ (List.getElem_mem hlt) : cellB zs[k] = true)
      rw [← ix_eq zs k hlt] at hx0 hx1
      obtain ⟨b, off, rfl, hb, hc⟩ := hI (by omega)
      have hck : wr.cell? ⟨b, off + k, none⟩ = some (.int .i64 (ix zs k)) := (hbel.cell (p := ⟨b, off + k, none⟩) hb).trans (hc k hlt)
      clear hc
      go_wp2_with fail
      refine (l1Int_any _ _ hx0 hx1).mono ?_
      rintro e w1 ⟨rfl, hb1⟩
      have hown1 := hown.kept (grown_of_below hb1) (by cases h : u3.ownBlock <;> simp)
      have hbel1 : Below w.heap.size w w1 := hbel.trans (hb1.mono hbel.size)
      obtain ⟨tx, htx⟩ : ∃ tx : ByteArray, tx = ⟨(Lib.itoa (ix zs k)).toArray⟩ := ⟨_, rfl⟩
      rw [← htx]
      have HX := Lib.hid htx
      clear htx hown hb1 hbel hck hx0 hx1
      go_wp2_with (at_builtin; refine wpList_append_own _ rfl _ _ 52 rfl w.heap.size 9 i0 (.string ⟨#[]⟩) 1 16 Tryd.underlying52 hi0 hz0 hz1 hz2 rfl (by decide) _ _ _ rfl (hown1.alloc _) ⟨w1.heap.size, 0, none⟩ 1 1 [.string tx] rfl rfl (cell_one_new _ _ _) (by simp [Value.oneCell']) (by simp only [maxLen]; omega) (by omega) (by have := hbel1.size; simp; omega) ?_; intro v' w2 hown2 hgrow2 _)
      have hb2 : Below w.heap.size w w2 := (hbel1.alloc hbel1.size _).grown hgrow2 (by have := hbel1.size; simp; omega) (fun g hg => (hown1.lt g hg).1)
      clear hgrow2 hown1
      go_roundw
      case rel => exact ⟨k + 1, by omega, by go_num, by rw [numT_take_succ zs k hlt, ← HX.out]; simpa [strl] using hown2, hb2⟩
      case measure => simp [intOf]; omega
    · obtain rfl : k = zs.length := by omega
      rw [List.take_length] at hown
      rw [← numT_length zs] at hown
      obtain ⟨A', cap', rfl, hS⟩ := strs_of_own hown
      have hl2 : (numT zs).length ≤ 1048576 := by rw [numT_length]; exact hl
      clear hown
      go_wp2_with fail
      refine (l1Words_any _ _ (numT zs) ⟨#[32]⟩ wr wr.heap.size hS hl2 (by decide) hsum).mono ?_
      rintro e w' ⟨rfl, rfl⟩
      go_wp2
      go_ret
      exact ⟨rfl, hbel⟩
end Go.Proofs.YtedbjjhkjkpnkaaDoor
