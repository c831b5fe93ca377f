/- The program's ShowDeed: the text of a right deed, else the empty one; nothing that lay has turned. The variables lie as the text lays them. -/
import Derived.Test.YtkjpaafmolikoabDoorWord1
import Derived.Test.YtkjpaafmolikoabDoorDeed3
import Derived.Deep.RegionLaw
namespace Go.Proofs.YtkjpaafmolikoabDoor
open Go.RowKit

theorem Blk.c2 {w : World} {G : Nat} {t : TypeId} {a b : Value} (h : Blk w G t #[a, b]) : w.cell? ⟨G, 0, none⟩ = some a ∧ w.cell? ⟨G, 1, none⟩ = some b := ⟨h.cell 0, h.cell 1⟩
abbrev TabAt (w : World) : Prop := Lib.TabBelow Tryd.prog w.heap.size w "internal/strconv.uint64pow10" .u64 Lib.pow10Tab
theorem tab_on {w w1 : World} (h : TabAt w) (hb : Below w.heap.size w w1) : TabAt w1 := fun w' h' => h w' (hb.trans (h'.mono hb.size))
theorem shapeV_at {k : Int} {s : ByteArray} {A : Option Addr} {c : Nat} {zs : List Int} (h : deedB k s zs = true) : shapeV k s A c zs = (if k = 1 then .iface 82 (.agg #[.string s, .slice A zs.length c])
    else if k = 2 then .iface 85 (.agg #[.string s, .int .i64 (ix zs 0)])
    else if k = 3 then .iface 87 (.agg #[.string s, .slice A zs.length c])
    else if k = 4 then .iface 88 (.agg #[.string s, .int .i64 (ix zs 0)])
    else if k = 5 then .iface 90 (.agg #[.string s, .int .i64 (ix zs 0)])
    else .iface 92 (.agg #[.string s])) := by unfold shapeV; rw [if_pos h]
set_option maxRecDepth 100000 in
theorem deedText_two (k : Int) (h1 : 1 ≤ k) (h6 : k ≤ 6) (bk : Nat) (s n : ByteArray) (w : World) (hB : Blk w bk 9 #[.string s, .string n]) (hs : s.size ≤ 1000) (hn : n.size ≤ 1000) (hW : WordsAt w) :
    Calls Tryd.prog 60 #[.int .i64 k, .slice (some ⟨bk, 0, none⟩) 2 2] w fun e w' => e = .returned (.string ⟨(wordL k ++ 32 :: (bl s ++ 32 :: bl n)).toArray⟩) ∧ Below w.heap.size w w' := by
  have e : Lib.join ([s, n].map (·.data.toList)) [32] = bl s ++ 32 :: bl n := by simp [Lib.join, List.intercalate, bl]
  have := deedText_any k h1 h6 bk 2 [s, n] w (fun j x hx => by
    have hj : j = 0 ∨ j = 1 := by
      have := (List.getElem?_eq_some_iff.1 hx).1
      simp at this; omega
    rcases hj with rfl | rfl
    · have e : s = x := by simpa using hx
      subst e; exact hB.cell 0
    · have e : n = x := by simpa using hx
      subst e; exact hB.cell 1) hB.lt (by simp) (by simp) (by rw [e, List.length_append, List.length_cons, bl_length, bl_length]; omega) hW
  rw [e] at this
  exact this
theorem deedText_one (k : Int) (h1 : 1 ≤ k) (h6 : k ≤ 6) (bk : Nat) (s : ByteArray) (w : World) (hB : Blk w bk 9 #[.string s]) (hs : s.size ≤ 1000) (hW : WordsAt w) :
    Calls Tryd.prog 60 #[.int .i64 k, .slice (some ⟨bk, 0, none⟩) 1 1] w fun e w' => e = .returned (.string ⟨(wordL k ++ 32 :: bl s).toArray⟩) ∧ Below w.heap.size w w' := by
  have e : Lib.join ([s].map (·.data.toList)) [32] = bl s := by simp [Lib.join, List.intercalate, bl]
  have := deedText_any k h1 h6 bk 1 [s] w (fun j x hx => by
    have hj : j = 0 := by
      have := (List.getElem?_eq_some_iff.1 hx).1
      simp at this; omega
    subst hj
    have e : s = x := by simpa using hx
    subst e; exact hB.cell 0) hB.lt (by simp) (by simp) (by rw [e, bl_length]; omega) hW
  rw [e] at this
  exact this
theorem name_size6 {s : ByteArray} (h : nameB s = true) : s.size ≤ 6 := by
  unfold nameB inB at h
  rw [Bool.and_eq_true, Bool.and_eq_true] at h
  have := of_decide_eq_true h.2.2
  omega
theorem numbersL_single {zs : List Int} (h : zs.length = 1) : numbersL zs = Lib.itoa (ix zs 0) := by
  match zs, h with
  | [x], _ => rw [numbersL_one]; rfl
theorem yes1 (v : Value) (x : TypeId) (w : World) : (Instr.typeAssert (.iface 82 v) x 82 true).run Tryd.prog w = .ok (.tuple #[v, .bool true]) w := by
  simp [Instr.typeAssert, run_underlying Tryd.underlying82]
theorem nil1 (x : TypeId) (w : World) : (Instr.typeAssert .nilIface x 82 true).run Tryd.prog w = .ok (.tuple #[.agg #[.string ⟨#[]⟩, .slice none 0 0], .bool false]) w := by
  simp [Instr.typeAssert, run_underlying Tryd.underlying82]
theorem yes2 (v : Value) (x : TypeId) (w : World) : (Instr.typeAssert (.iface 85 v) x 85 true).run Tryd.prog w = .ok (.tuple #[v, .bool true]) w := by
  simp [Instr.typeAssert, run_underlying Tryd.underlying85]
theorem nil2 (x : TypeId) (w : World) : (Instr.typeAssert .nilIface x 85 true).run Tryd.prog w = .ok (.tuple #[.agg #[.string ⟨#[]⟩, .int .i64 0], .bool false]) w := by
  simp [Instr.typeAssert, run_underlying Tryd.underlying85]
theorem no21 (v : Value) (x : TypeId) (w : World) : (Instr.typeAssert (.iface 85 v) x 82 true).run Tryd.prog w = .ok (.tuple #[.agg #[.string ⟨#[]⟩, .slice none 0 0], .bool false]) w := by
  simp [Instr.typeAssert, run_underlying Tryd.underlying82]
theorem yes3 (v : Value) (x : TypeId) (w : World) : (Instr.typeAssert (.iface 87 v) x 87 true).run Tryd.prog w = .ok (.tuple #[v, .bool true]) w := by
  simp [Instr.typeAssert, run_underlying Tryd.underlying87]
theorem nil3 (x : TypeId) (w : World) : (Instr.typeAssert .nilIface x 87 true).run Tryd.prog w = .ok (.tuple #[.agg #[.string ⟨#[]⟩, .slice none 0 0], .bool false]) w := by
  simp [Instr.typeAssert, run_underlying Tryd.underlying87]
theorem no31 (v : Value) (x : TypeId) (w : World) : (Instr.typeAssert (.iface 87 v) x 82 true).run Tryd.prog w = .ok (.tuple #[.agg #[.string ⟨#[]⟩, .slice none 0 0], .bool false]) w := by
  simp [Instr.typeAssert, run_underlying Tryd.underlying82]
theorem no32 (v : Value) (x : TypeId) (w : World) : (Instr.typeAssert (.iface 87 v) x 85 true).run Tryd.prog w = .ok (.tuple #[.agg #[.string ⟨#[]⟩, .int .i64 0], .bool false]) w := by
  simp [Instr.typeAssert, run_underlying Tryd.underlying85]
theorem yes4 (v : Value) (x : TypeId) (w : World) : (Instr.typeAssert (.iface 88 v) x 88 true).run Tryd.prog w = .ok (.tuple #[v, .bool true]) w := by
  simp [Instr.typeAssert, run_underlying Tryd.underlying88]
theorem nil4 (x : TypeId) (w : World) : (Instr.typeAssert .nilIface x 88 true).run Tryd.prog w = .ok (.tuple #[.agg #[.string ⟨#[]⟩, .int .i64 0], .bool false]) w := by
  simp [Instr.typeAssert, run_underlying Tryd.underlying88]
theorem no41 (v : Value) (x : TypeId) (w : World) : (Instr.typeAssert (.iface 88 v) x 82 true).run Tryd.prog w = .ok (.tuple #[.agg #[.string ⟨#[]⟩, .slice none 0 0], .bool false]) w := by
  simp [Instr.typeAssert, run_underlying Tryd.underlying82]
theorem no42 (v : Value) (x : TypeId) (w : World) : (Instr.typeAssert (.iface 88 v) x 85 true).run Tryd.prog w = .ok (.tuple #[.agg #[.string ⟨#[]⟩, .int .i64 0], .bool false]) w := by
  simp [Instr.typeAssert, run_underlying Tryd.underlying85]
theorem no43 (v : Value) (x : TypeId) (w : World) : (Instr.typeAssert (.iface 88 v) x 87 true).run Tryd.prog w = .ok (.tuple #[.agg #[.string ⟨#[]⟩, .slice none 0 0], .bool false]) w := by
  simp [Instr.typeAssert, run_underlying Tryd.underlying87]
theorem yes5 (v : Value) (x : TypeId) (w : World) : (Instr.typeAssert (.iface 90 v) x 90 true).run Tryd.prog w = .ok (.tuple #[v, .bool true]) w := by
  simp [Instr.typeAssert, run_underlying Tryd.underlying90]
theorem nil5 (x : TypeId) (w : World) : (Instr.typeAssert .nilIface x 90 true).run Tryd.prog w = .ok (.tuple #[.agg #[.string ⟨#[]⟩, .int .i64 0], .bool false]) w := by
  simp [Instr.typeAssert, run_underlying Tryd.underlying90]
theorem no51 (v : Value) (x : TypeId) (w : World) : (Instr.typeAssert (.iface 90 v) x 82 true).run Tryd.prog w = .ok (.tuple #[.agg #[.string ⟨#[]⟩, .slice none 0 0], .bool false]) w := by
  simp [Instr.typeAssert, run_underlying Tryd.underlying82]
theorem no52 (v : Value) (x : TypeId) (w : World) : (Instr.typeAssert (.iface 90 v) x 85 true).run Tryd.prog w = .ok (.tuple #[.agg #[.string ⟨#[]⟩, .int .i64 0], .bool false]) w := by
  simp [Instr.typeAssert, run_underlying Tryd.underlying85]
theorem no53 (v : Value) (x : TypeId) (w : World) : (Instr.typeAssert (.iface 90 v) x 87 true).run Tryd.prog w = .ok (.tuple #[.agg #[.string ⟨#[]⟩, .slice none 0 0], .bool false]) w := by
  simp [Instr.typeAssert, run_underlying Tryd.underlying87]
theorem no54 (v : Value) (x : TypeId) (w : World) : (Instr.typeAssert (.iface 90 v) x 88 true).run Tryd.prog w = .ok (.tuple #[.agg #[.string ⟨#[]⟩, .int .i64 0], .bool false]) w := by
  simp [Instr.typeAssert, run_underlying Tryd.underlying88]
theorem yes6 (v : Value) (x : TypeId) (w : World) : (Instr.typeAssert (.iface 92 v) x 92 true).run Tryd.prog w = .ok (.tuple #[v, .bool true]) w := by
  simp [Instr.typeAssert, run_underlying Tryd.underlying92]
theorem nil6 (x : TypeId) (w : World) : (Instr.typeAssert .nilIface x 92 true).run Tryd.prog w = .ok (.tuple #[.agg #[.string ⟨#[]⟩], .bool false]) w := by
  simp [Instr.typeAssert, run_underlying Tryd.underlying92]
theorem no61 (v : Value) (x : TypeId) (w : World) : (Instr.typeAssert (.iface 92 v) x 82 true).run Tryd.prog w = .ok (.tuple #[.agg #[.string ⟨#[]⟩, .slice none 0 0], .bool false]) w := by
  simp [Instr.typeAssert, run_underlying Tryd.underlying82]
theorem no62 (v : Value) (x : TypeId) (w : World) : (Instr.typeAssert (.iface 92 v) x 85 true).run Tryd.prog w = .ok (.tuple #[.agg #[.string ⟨#[]⟩, .int .i64 0], .bool false]) w := by
  simp [Instr.typeAssert, run_underlying Tryd.underlying85]
theorem no63 (v : Value) (x : TypeId) (w : World) : (Instr.typeAssert (.iface 92 v) x 87 true).run Tryd.prog w = .ok (.tuple #[.agg #[.string ⟨#[]⟩, .slice none 0 0], .bool false]) w := by
  simp [Instr.typeAssert, run_underlying Tryd.underlying87]
theorem no64 (v : Value) (x : TypeId) (w : World) : (Instr.typeAssert (.iface 92 v) x 88 true).run Tryd.prog w = .ok (.tuple #[.agg #[.string ⟨#[]⟩, .int .i64 0], .bool false]) w := by
  simp [Instr.typeAssert, run_underlying Tryd.underlying88]
theorem no65 (v : Value) (x : TypeId) (w : World) : (Instr.typeAssert (.iface 92 v) x 90 true).run Tryd.prog w = .ok (.tuple #[.agg #[.string ⟨#[]⟩, .int .i64 0], .bool false]) w := by
  simp [Instr.typeAssert, run_underlying Tryd.underlying90]
end Go.Proofs.YtkjpaafmolikoabDoor
