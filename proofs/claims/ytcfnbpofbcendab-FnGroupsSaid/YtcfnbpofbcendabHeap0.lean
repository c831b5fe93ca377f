/- A method of a value, called through an interface that holds a pointer to it: which function it is, and the receiver read from memory. The types and functions of the program that are named: the heap of counts. -/
import Derived.Test.YtcfnbpofbcendabJB
namespace Go.Proofs.Ytcfnbpofbcendab
open Go.RowKit
theorem wrap_run (P : Program) (t : TypeId) (a : Addr) (s m : String) (w : World) : (Builtin.ssaWrapNilChk_ #[t] t #[.pointer (some a), strVal s, strVal m]).run P w = .ok (.pointer (some a)) w := rfl
theorem load_heap (p n c : Nat) (A : Option Addr) (w : World) (hp : w.cell? ⟨p, 0, none⟩ = some (.slice A n c)) : (loadVar 68 ⟨p, 0, none⟩).run Try.prog w = .ok (.slice A n c) w := by
  simp [loadVar, go_sem, hp]
theorem meth_val {P : Program} {t elem : TypeId} {name : String} {f : FuncId} (hu : P.underlying t = some (.pointer elem)) (h : (P.info? t).map (fun i => (i.methods.find? (·.name == name)).map fun m => (m.path.toList.length, m.func)) = some (some (0, some (f, false))))
    (a : Addr) (v : Value) (fuel : Nat) (w : World) (hl : (loadVar elem a).run P w = .ok v w) : (method (fuel + 1) t (.pointer (some a)) name).run P w = .ok (f, v) w := by
  cases hi : P.info? t with
  | none => rw [hi] at h; cases h
  | some i =>
    rw [hi] at h
    simp only [Option.map_some, Option.some.injEq] at h
    cases hm : i.methods.find? (·.name == name) with
    | none => rw [hm] at h; cases h
    | some m =>
      rw [hm] at h
      simp only [Option.map_some, Option.some.injEq, Prod.mk.injEq] at h
      obtain ⟨h1, h2⟩ := h
      have h3 : m.path.toList = [] := List.length_eq_zero_iff.1 h1
      have h4 : m.path = #[] := by simpa using h3
      simp [method, typeInfo, hi, hm, h2, h4, follow, receiverAt, Place.get, run_underlying hu, wrap_run, asAddr, hl]
theorem infoLen : (Try.prog.info? 70).map (fun i => (i.methods.find? (·.name == "Len")).map fun m => (m.path.toList.length, m.func)) = some (some (0, some (48, false))) := by kernel_rfl
theorem infoLess : (Try.prog.info? 70).map (fun i => (i.methods.find? (·.name == "Less")).map fun m => (m.path.toList.length, m.func)) = some (some (0, some (73, false))) := by kernel_rfl
theorem infoSwap : (Try.prog.info? 70).map (fun i => (i.methods.find? (·.name == "Swap")).map fun m => (m.path.toList.length, m.func)) = some (some (0, some (74, false))) := by kernel_rfl
end Go.Proofs.Ytcfnbpofbcendab
