/- The program's ReadRow answers as the model's does. For texts of at most 2^30 bytes; the variables of the library that it reads lie as its text lays them. -/
import Derived.Test.YtdpokfjempdchaaGreatDoorRead3
import Derived.Lib.AtoiErrMem
import Derived.Lib.AppendIntMem
namespace Go.Proofs.YtdpokfjempdchaaGreatDoor
open Go.RowKit

theorem splitC_words (c : UInt8) : ∀ (k : Nat) (s : ByteArray), (spl c (bl s)).length ≤ k + 1 → (Lib.splitB ⟨#[c]⟩ 0 k s).map bl = spl c (bl s)
  | 0, s, h => by
    rw [Lib.splitB_zero]
    rw [spl_length] at h
    have h0 : c ∉ bl s := by rw [← List.count_eq_zero]; omega
    rw [spl_whole c _ h0]; rfl
  | k + 1, s, h => by
    have hidx : Lib.indexB s ⟨#[c]⟩ = Lib.indexByte (bl s) c := Lib.index_one (bl s) c
    rcases Lib.indexB_cases s ⟨#[c]⟩ with hm | ⟨o, ho, _⟩
    · rw [Lib.splitB_miss _ _ _ _ hm]
      rw [hidx] at hm
      have h0 : c ∉ bl s := by
        intro hx
        obtain ⟨j, hj⟩ := List.mem_iff_getElem?.1 hx
        exact Lib.indexByte_none hm j hj
      rw [spl_whole c _ h0]; rfl
    · have ho2 : Lib.indexByte (bl s) c = (o : Int) := hidx.symm.trans ho
      obtain ⟨h1, h2⟩ := Lib.indexByte_some ho2
      have hlt : o < (bl s).length := (List.getElem?_eq_some_iff.1 h1).1
      have hne : (Lib.indexB s ⟨#[c]⟩ == -1) = false := by rw [ho, beq_eq_false_iff_ne]; omega
      have e0 : bl s = (bl s).take o ++ c :: (bl s).drop (o + 1) := by
        have h3 : (bl s).drop o = c :: (bl s).drop (o + 1) := by
          rw [List.drop_eq_getElem_cons hlt]
          congr 1
          rw [List.getElem?_eq_getElem hlt] at h1
          exact Option.some.inj h1
        rw [← h3, List.take_append_drop]
      have hno : c ∉ (bl s).take o := by
        intro hx
        obtain ⟨j, hj⟩ := List.mem_iff_getElem?.1 hx
        have hjo : j < o := by
          have := (List.getElem?_eq_some_iff.1 hj).1
          rw [List.length_take] at this; omega
        rw [List.getElem?_take, if_pos hjo] at hj
        exact h2 j hjo hj
      have e1 : bl (s.extract 0 (o + 0)) = (bl s).take o := by have := piece_bl s 0 o; unfold piece at this; rw [Nat.add_zero, this]; simp
      have e2 : bl (s.extract (o + 1) s.size) = (bl s).drop (o + 1) := by
        have := piece_bl s (o + 1) s.size
        unfold piece at this
        rw [this, List.take_of_length_le (by rw [List.length_drop, bl_length]; exact Nat.le_refl _)]
      have e3 : spl c (bl s) = (bl s).take o :: spl c ((bl s).drop (o + 1)) := by
        have := spl_cut c _ ((bl s).drop (o + 1)) hno
        rwa [← e0] at this
      have ih := splitC_words c k (s.extract (o + 1) s.size) (by rw [e2]; rw [e3] at h; simp at h; omega)
      have hunf : Lib.splitB ⟨#[c]⟩ 0 (k + 1) s = s.extract 0 (o + 0) :: Lib.splitB ⟨#[c]⟩ 0 k (s.extract (o + 1) s.size) := by
        rw [Lib.splitB, hne, ho]
        rfl
      rw [hunf, List.map_cons, ih, e1, e2, e3]
theorem splitB_words (k : Nat) (s : ByteArray) (h : (spl 32 (bl s)).length ≤ k + 1) : (Lib.splitB ⟨#[32]⟩ 0 k s).map bl = spl 32 (bl s) := splitC_words 32 k s h

/-- What the walk takes of the library's variables, now and as long as nothing that lies now turns. -/
def LaidAll (w : World) : Prop := ∀ w', Below w.heap.size w w' → (∃ m, w'.cell? ⟨0, 0, none⟩ = some (.int .i64 m)) ∧ Lib.TabIs Tryz.prog w' "internal/strconv.uint64pow10" .u64 Lib.pow10Tab ∧
  (∃ tp p, w'.var? Tryz.prog "strconv.ErrSyntax" = some #[.iface tp p]) ∧ (∃ tp p, w'.var? Tryz.prog "strconv.ErrRange" = some #[.iface tp p])
theorem LaidAll.on {w w1 : World} (h : LaidAll w) (hb : Below w.heap.size w w1) : LaidAll w1 := fun w' h' => h w' (hb.trans (h'.mono hb.size))
theorem LaidAll.tab {w : World} (h : LaidAll w) : Lib.TabBelow Tryz.prog w.heap.size w "internal/strconv.uint64pow10" .u64 Lib.pow10Tab := fun w' h' => (h w' h').2.1

theorem parse_ok (s : ByteArray) (n : Int) (w : World) (hs : s.size ≤ 1099511627776) (h : parseI (bl s) = some n) :
    Calls Tryz.prog 69 #[.string s, .int .i64 10, .int .i64 64] w fun e w' => e = .returned (.tuple #[.int .i64 n, .nilIface]) ∧ Below w.heap.size w w' := by
  have h' : Lib.parseIntB 64 s.data.toList = .ok n := by
    unfold parseI at h
    cases hx : Lib.parseIntB 64 (bl s) with
    | ok v => rw [hx] at h; simp only at h; injection h with h; rw [h] at hx; exact hx
    | range => rw [hx] at h; cases h
    | _ => rw [hx] at h; cases h
  refine (Tryz.strconv_ParseInt_10_at64_ok s (by omega) n h' w).mono ?_
  rintro e w' ⟨rfl, rfl | ⟨t, rfl⟩⟩
  · exact ⟨rfl, Below.refl _ _⟩
  · exact ⟨rfl, Lib.bytesWorld_below _ _ _⟩
theorem parse_err (s : ByteArray) (w : World) (hs : s.size ≤ 1099511627776) (h : parseI (bl s) = none) (hL : LaidAll w) :
    Calls Tryz.prog 69 #[.string s, .int .i64 10, .int .i64 64] w fun e w' => ∃ n N, e = .returned (.tuple #[.int .i64 n, .iface 125 (.pointer (some ⟨N, 0, none⟩))]) ∧ Below w.heap.size w w' := by
  obtain ⟨_, _, ⟨tp, p, hS⟩, ⟨tp', p', hR⟩⟩ := hL w (Below.refl _ _)
  cases hx : Lib.parseIntB 64 (bl s) with
  | ok v => unfold parseI at h; rw [hx] at h; cases h
  | range =>
    refine (Tryz.strconv_ParseInt_10_at64_range_var s (by omega) hx tp' p' w hR).mono ?_
    rintro e w' ⟨N, rfl, _, _, hb⟩
    exact ⟨_, N, rfl, hb⟩
  | _ =>
    refine (Any.strconv_ParseInt_10_at64_syntax_var Tryz.laysC174 s (by omega) hx tp p w hS).mono ?_
    rintro e w' ⟨N, rfl, _, _, hb⟩
    exact ⟨_, N, rfl, hb⟩

theorem implRead_none {s : List UInt8} {ws : List (List UInt8)} (h : s ≠ [45]) (h2 : ws.mapM parseI = none) : implRead s ws = ([], false) := by unfold implRead; rw [if_neg h, h2]
theorem implRead_yes {s : List UInt8} {ws : List (List UInt8)} {r : List Int} (h : s ≠ [45]) (h2 : ws.mapM parseI = some r) (h3 : showL r = s) : implRead s ws = (r, true) := by unfold implRead; rw [if_neg h, h2]; simp only; rw [if_pos h3]
theorem implRead_no {s : List UInt8} {ws : List (List UInt8)} {r : List Int} (h : s ≠ [45]) (h2 : ws.mapM parseI = some r) (h3 : ¬ showL r = s) : implRead s ws = ([], false) := by unfold implRead; rw [if_neg h, h2]; simp only; rw [if_neg h3]

theorem splitC_le (c : UInt8) : ∀ (k : Nat) (s : ByteArray), (Lib.splitB ⟨#[c]⟩ 0 k s).length ≤ k + 1 ∧ ∀ t ∈ Lib.splitB ⟨#[c]⟩ 0 k s, t.size ≤ s.size
  | 0, s => by rw [Lib.splitB_zero]; simp
  | k + 1, s => by
    rcases Lib.indexB_cases s ⟨#[c]⟩ with hm | ⟨o, ho, _⟩
    · rw [Lib.splitB_miss _ _ _ _ hm]; simp
    · have hne : (Lib.indexB s ⟨#[c]⟩ == -1) = false := by rw [ho, beq_eq_false_iff_ne]; omega
      have hunf : Lib.splitB ⟨#[c]⟩ 0 (k + 1) s = s.extract 0 (o + 0) :: Lib.splitB ⟨#[c]⟩ 0 k (s.extract (o + 1) s.size) := by
        rw [Lib.splitB, hne, ho]
        rfl
      obtain ⟨h1, h2⟩ := splitC_le c k (s.extract (o + 1) s.size)
      rw [hunf]
      refine ⟨by simp; omega, fun t ht => ?_⟩
      have hsub (a b : Nat) : (s.extract a b).size ≤ s.size := by
        have := piece_bl s a b
        unfold piece at this
        rw [← bl_length, this, ← bl_length s]
        rw [List.length_take, List.length_drop]; omega
      rcases List.mem_cons.1 ht with rfl | ht
      · exact hsub _ _
      · exact Nat.le_trans (h2 t ht) (hsub _ _)
theorem splitB_le (k : Nat) (s : ByteArray) : (Lib.splitB ⟨#[32]⟩ 0 k s).length ≤ k + 1 ∧ ∀ t ∈ Lib.splitB ⟨#[32]⟩ 0 k s, t.size ≤ s.size := splitC_le 32 k s
theorem strs_cells {w : World} {ws : List ByteArray} {N : Nat} : Strs (w.alloc (.cells (Lib.cellsOf ws N) 9)) (w.heap.size + 1) (some ⟨w.heap.size, 0, none⟩) ws := fun _ =>
  ⟨w.heap.size, 0, rfl, by omega, fun j hj => by
    rw [Nat.zero_add, Blk.cell (Blk.new w 9 (Lib.cellsOf ws N)) j]
    unfold Lib.cellsOf
    rw [List.getElem?_toArray, List.getElem?_append_left (by simpa using hj)]
    simp [sx, hj]⟩

end Go.Proofs.YtdpokfjempdchaaGreatDoor
