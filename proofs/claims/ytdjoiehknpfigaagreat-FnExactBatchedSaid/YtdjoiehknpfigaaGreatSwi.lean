/- The type switch over a deed's shapes: what each assertion answers. No condition. -/
import Derived.Test.YtdjoiehknpfigaaGreatDeed2
namespace Go.Proofs.YtdjoiehknpfigaaGreat
open Go.RowKit

theorem Blk.c2 {w : World} {G : Nat} {t : TypeId} {a b : Value} (h : Blk w G t #[a, b]) : w.cell? ⟨G, 0, none⟩ = some a ∧ w.cell? ⟨G, 1, none⟩ = some b := ⟨h.cell 0, h.cell 1⟩
theorem shapeV_at {k : Int} {s : ByteArray} {A : Option Addr} {c : Nat} {zs : List Int} (h : deedB k s zs = true) : shapeV k s A c zs = (if k = 1 then .iface 92 (.agg #[.string s, .slice A zs.length c])
    else if k = 2 then .iface 95 (.agg #[.string s, .int .i64 (ix zs 0)])
    else if k = 3 then .iface 97 (.agg #[.string s, .slice A zs.length c])
    else if k = 4 then .iface 98 (.agg #[.string s, .int .i64 (ix zs 0)])
    else if k = 5 then .iface 100 (.agg #[.string s, .int .i64 (ix zs 0)])
    else .iface 102 (.agg #[.string s])) := by unfold shapeV; rw [if_pos h]
theorem yes1 (v : Value) (x : TypeId) (w : World) : (Instr.typeAssert (.iface 92 v) x 92 true).run Tryz.prog w = .ok (.tuple #[v, .bool true]) w := by
  simp [Instr.typeAssert, run_underlying Tryz.underlying92]
theorem nil1 (x : TypeId) (w : World) : (Instr.typeAssert .nilIface x 92 true).run Tryz.prog w = .ok (.tuple #[.agg #[.string ⟨#[]⟩, .slice none 0 0], .bool false]) w := by
  simp [Instr.typeAssert, run_underlying Tryz.underlying92]
theorem yes2 (v : Value) (x : TypeId) (w : World) : (Instr.typeAssert (.iface 95 v) x 95 true).run Tryz.prog w = .ok (.tuple #[v, .bool true]) w := by
  simp [Instr.typeAssert, run_underlying Tryz.underlying95]
theorem nil2 (x : TypeId) (w : World) : (Instr.typeAssert .nilIface x 95 true).run Tryz.prog w = .ok (.tuple #[.agg #[.string ⟨#[]⟩, .int .i64 0], .bool false]) w := by
  simp [Instr.typeAssert, run_underlying Tryz.underlying95]
theorem no21 (v : Value) (x : TypeId) (w : World) : (Instr.typeAssert (.iface 95 v) x 92 true).run Tryz.prog w = .ok (.tuple #[.agg #[.string ⟨#[]⟩, .slice none 0 0], .bool false]) w := by
  simp [Instr.typeAssert, run_underlying Tryz.underlying92]
theorem yes3 (v : Value) (x : TypeId) (w : World) : (Instr.typeAssert (.iface 97 v) x 97 true).run Tryz.prog w = .ok (.tuple #[v, .bool true]) w := by
  simp [Instr.typeAssert, run_underlying Tryz.underlying97]
theorem nil3 (x : TypeId) (w : World) : (Instr.typeAssert .nilIface x 97 true).run Tryz.prog w = .ok (.tuple #[.agg #[.string ⟨#[]⟩, .slice none 0 0], .bool false]) w := by
  simp [Instr.typeAssert, run_underlying Tryz.underlying97]
theorem no31 (v : Value) (x : TypeId) (w : World) : (Instr.typeAssert (.iface 97 v) x 92 true).run Tryz.prog w = .ok (.tuple #[.agg #[.string ⟨#[]⟩, .slice none 0 0], .bool false]) w := by
  simp [Instr.typeAssert, run_underlying Tryz.underlying92]
theorem no32 (v : Value) (x : TypeId) (w : World) : (Instr.typeAssert (.iface 97 v) x 95 true).run Tryz.prog w = .ok (.tuple #[.agg #[.string ⟨#[]⟩, .int .i64 0], .bool false]) w := by
  simp [Instr.typeAssert, run_underlying Tryz.underlying95]
theorem yes4 (v : Value) (x : TypeId) (w : World) : (Instr.typeAssert (.iface 98 v) x 98 true).run Tryz.prog w = .ok (.tuple #[v, .bool true]) w := by
  simp [Instr.typeAssert, run_underlying Tryz.underlying98]
theorem nil4 (x : TypeId) (w : World) : (Instr.typeAssert .nilIface x 98 true).run Tryz.prog w = .ok (.tuple #[.agg #[.string ⟨#[]⟩, .int .i64 0], .bool false]) w := by
  simp [Instr.typeAssert, run_underlying Tryz.underlying98]
theorem no41 (v : Value) (x : TypeId) (w : World) : (Instr.typeAssert (.iface 98 v) x 92 true).run Tryz.prog w = .ok (.tuple #[.agg #[.string ⟨#[]⟩, .slice none 0 0], .bool false]) w := by
  simp [Instr.typeAssert, run_underlying Tryz.underlying92]
theorem no42 (v : Value) (x : TypeId) (w : World) : (Instr.typeAssert (.iface 98 v) x 95 true).run Tryz.prog w = .ok (.tuple #[.agg #[.string ⟨#[]⟩, .int .i64 0], .bool false]) w := by
  simp [Instr.typeAssert, run_underlying Tryz.underlying95]
theorem no43 (v : Value) (x : TypeId) (w : World) : (Instr.typeAssert (.iface 98 v) x 97 true).run Tryz.prog w = .ok (.tuple #[.agg #[.string ⟨#[]⟩, .slice none 0 0], .bool false]) w := by
  simp [Instr.typeAssert, run_underlying Tryz.underlying97]
theorem yes5 (v : Value) (x : TypeId) (w : World) : (Instr.typeAssert (.iface 100 v) x 100 true).run Tryz.prog w = .ok (.tuple #[v, .bool true]) w := by
  simp [Instr.typeAssert, run_underlying Tryz.underlying100]
theorem nil5 (x : TypeId) (w : World) : (Instr.typeAssert .nilIface x 100 true).run Tryz.prog w = .ok (.tuple #[.agg #[.string ⟨#[]⟩, .int .i64 0], .bool false]) w := by
  simp [Instr.typeAssert, run_underlying Tryz.underlying100]
theorem no51 (v : Value) (x : TypeId) (w : World) : (Instr.typeAssert (.iface 100 v) x 92 true).run Tryz.prog w = .ok (.tuple #[.agg #[.string ⟨#[]⟩, .slice none 0 0], .bool false]) w := by
  simp [Instr.typeAssert, run_underlying Tryz.underlying92]
theorem no52 (v : Value) (x : TypeId) (w : World) : (Instr.typeAssert (.iface 100 v) x 95 true).run Tryz.prog w = .ok (.tuple #[.agg #[.string ⟨#[]⟩, .int .i64 0], .bool false]) w := by
  simp [Instr.typeAssert, run_underlying Tryz.underlying95]
theorem no53 (v : Value) (x : TypeId) (w : World) : (Instr.typeAssert (.iface 100 v) x 97 true).run Tryz.prog w = .ok (.tuple #[.agg #[.string ⟨#[]⟩, .slice none 0 0], .bool false]) w := by
  simp [Instr.typeAssert, run_underlying Tryz.underlying97]
theorem no54 (v : Value) (x : TypeId) (w : World) : (Instr.typeAssert (.iface 100 v) x 98 true).run Tryz.prog w = .ok (.tuple #[.agg #[.string ⟨#[]⟩, .int .i64 0], .bool false]) w := by
  simp [Instr.typeAssert, run_underlying Tryz.underlying98]
theorem yes6 (v : Value) (x : TypeId) (w : World) : (Instr.typeAssert (.iface 102 v) x 102 true).run Tryz.prog w = .ok (.tuple #[v, .bool true]) w := by
  simp [Instr.typeAssert, run_underlying Tryz.underlying102]
theorem nil6 (x : TypeId) (w : World) : (Instr.typeAssert .nilIface x 102 true).run Tryz.prog w = .ok (.tuple #[.agg #[.string ⟨#[]⟩], .bool false]) w := by
  simp [Instr.typeAssert, run_underlying Tryz.underlying102]
theorem no61 (v : Value) (x : TypeId) (w : World) : (Instr.typeAssert (.iface 102 v) x 92 true).run Tryz.prog w = .ok (.tuple #[.agg #[.string ⟨#[]⟩, .slice none 0 0], .bool false]) w := by
  simp [Instr.typeAssert, run_underlying Tryz.underlying92]
theorem no62 (v : Value) (x : TypeId) (w : World) : (Instr.typeAssert (.iface 102 v) x 95 true).run Tryz.prog w = .ok (.tuple #[.agg #[.string ⟨#[]⟩, .int .i64 0], .bool false]) w := by
  simp [Instr.typeAssert, run_underlying Tryz.underlying95]
theorem no63 (v : Value) (x : TypeId) (w : World) : (Instr.typeAssert (.iface 102 v) x 97 true).run Tryz.prog w = .ok (.tuple #[.agg #[.string ⟨#[]⟩, .slice none 0 0], .bool false]) w := by
  simp [Instr.typeAssert, run_underlying Tryz.underlying97]
theorem no64 (v : Value) (x : TypeId) (w : World) : (Instr.typeAssert (.iface 102 v) x 98 true).run Tryz.prog w = .ok (.tuple #[.agg #[.string ⟨#[]⟩, .int .i64 0], .bool false]) w := by
  simp [Instr.typeAssert, run_underlying Tryz.underlying98]
theorem no65 (v : Value) (x : TypeId) (w : World) : (Instr.typeAssert (.iface 102 v) x 100 true).run Tryz.prog w = .ok (.tuple #[.agg #[.string ⟨#[]⟩, .int .i64 0], .bool false]) w := by
  simp [Instr.typeAssert, run_underlying Tryz.underlying100]
end Go.Proofs.YtdjoiehknpfigaaGreat
