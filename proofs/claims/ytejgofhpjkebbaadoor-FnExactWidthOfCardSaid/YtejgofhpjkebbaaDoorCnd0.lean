/- Conds as a list: what lies in memory of them, which are right, which hold for a row. Nothing of the program is named. -/
import Derived.Test.YtejgofhpjkebbaaDoorJA
namespace Go.Proofs.YtejgofhpjkebbaaDoor
open Go.RowKit

structure Cnd where
  p : Int
  o : Int
  t : Int
  i : Bool
deriving DecidableEq
def zeroC : Cnd := ⟨0, 0, 0, false⟩
instance : Inhabited Cnd := ⟨zeroC⟩
/-- The cond at place k, and its parts (names of their own, so that the walk does not respell them). -/
def cx (l : List Cnd) (k : Nat) : Cnd := l[k]?.getD zeroC
theorem cx_eq (l : List Cnd) (k : Nat) (h : k < l.length) : cx l k = l[k] := by simp [cx, h]
theorem cx_mem {l : List Cnd} {k : Nat} (h : k < l.length) : cx l k ∈ l := by rw [cx_eq l k h]; exact List.getElem_mem h
theorem cx_drop (l : List Cnd) (k : Nat) (h : k < l.length) : l.drop k = cx l k :: l.drop (k + 1) := by
  rw [cx_eq l k h]; exact List.drop_eq_getElem_cons h
/-- A slice of conds reads as the list: its cells lie in a block below B. -/
def Cnds (w : World) (B : Nat) (A : Option Addr) (l : List Cnd) : Prop :=
  0 < l.length → ∃ b off, A = some ⟨b, off, none⟩ ∧ b < B ∧ ∀ j, j < l.length →
    w.cell? ⟨b, off + j * 4, none⟩ = some (.int .i64 (cx l j).p) ∧ w.cell? ⟨b, off + j * 4 + 1, none⟩ = some (.int .i64 (cx l j).o) ∧ w.cell? ⟨b, off + j * 4 + 2, none⟩ = some (.int .i64 (cx l j).t) ∧ w.cell? ⟨b, off + j * 4 + 3, none⟩ = some (.bool (cx l j).i)
section
variable {w w' : World} {B B' : Nat} {A : Option Addr} {l : List Cnd}
theorem Cnds.keep (h : Cnds w B A l) (hk : ∀ p : Addr, p.block < B → w'.cell? p = w.cell? p) : Cnds w' B A l := fun hn => by
  obtain ⟨b, off, e, hb, hc⟩ := h hn
  refine ⟨b, off, e, hb, fun j hj => ?_⟩
  obtain ⟨h1, h2, h3, h4⟩ := hc j hj
  exact ⟨(hk _ hb).trans h1, (hk _ hb).trans h2, (hk _ hb).trans h3, (hk _ hb).trans h4⟩
theorem Cnds.below (h : Cnds w B A l) (hb : Below B w w') : Cnds w' B A l := h.keep fun _ hp => hb.cell hp
theorem Cnds.more (h : Cnds w B A l) (hB : B ≤ B') : Cnds w B' A l := fun hn => by
  obtain ⟨b, off, e, hb, hc⟩ := h hn
  exact ⟨b, off, e, by omega, hc⟩
theorem Cnds.on (h : Cnds w w.heap.size A l) (hb : Below w.heap.size w w') : Cnds w' w'.heap.size A l := (h.below hb).more hb.size
theorem Cnds.drewN (h : Cnds w B A l) (k : Nat) : Cnds (w.drewN k) B A l := h
theorem Cnds.here (h : Cnds w B A l) {j : Nat} (hj : j < l.length) : ∃ b off, A = some ⟨b, off, none⟩ ∧ b < B ∧
    w.cell? ⟨b, off + j * 4, none⟩ = some (.int .i64 (cx l j).p) ∧ w.cell? ⟨b, off + j * 4 + 1, none⟩ = some (.int .i64 (cx l j).o) ∧ w.cell? ⟨b, off + j * 4 + 2, none⟩ = some (.int .i64 (cx l j).t) ∧ w.cell? ⟨b, off + j * 4 + 3, none⟩ = some (.bool (cx l j).i) := by
  obtain ⟨b, off, e, hb, hc⟩ := h (by omega)
  exact ⟨b, off, e, hb, hc j hj⟩
end

def condB (c : Cnd) : Bool := (inB c.p 0 5 && inB c.o 1 3) && (if c.i = true then inB c.t (-1000) 1000 else inB c.t 0 5)
def rightB (l : List Cnd) : Bool := l.all condB && decide (l.length ≤ 3)
def fitC (wd : Int) (c : Cnd) : Bool := decide (c.p < wd) && (c.i || decide (c.t < wd))
def condsB (l : List Cnd) (wd : Int) : Bool := rightB l && l.all (fitC wd)
def otherC (row : List Int) (c : Cnd) : Int := if c.i = true then c.t else ix row c.t.toNat
def opH (o x y : Int) : Bool := if o = 1 then decide (x < y) else if o = 2 then decide (x = y) else decide (y < x)
def holdC (row : List Int) (c : Cnd) : Bool := opH c.o (ix row c.p.toNat) (otherC row c)
def holdsB (l : List Cnd) (row : List Int) : Bool := condsB l row.length && (rowOkB row && l.all (holdC row))

theorem condB_iff {c : Cnd} : condB c = true ↔ (0 ≤ c.p ∧ c.p ≤ 5) ∧ (1 ≤ c.o ∧ c.o ≤ 3) ∧ ((c.i = true ∧ -1000 ≤ c.t ∧ c.t ≤ 1000) ∨ (c.i = false ∧ 0 ≤ c.t ∧ c.t ≤ 5)) := by
  unfold condB inB
  cases h : c.i <;> simp <;> omega
theorem fitC_iff {wd : Int} {c : Cnd} : fitC wd c = true ↔ c.p < wd ∧ (c.i = true ∨ c.t < wd) := by
  unfold fitC
  simp
theorem rightB_iff {l : List Cnd} : rightB l = true ↔ (∀ c ∈ l, condB c = true) ∧ l.length ≤ 3 := by
  unfold rightB
  simp [List.all_eq_true]
theorem condsB_iff {l : List Cnd} {wd : Int} : condsB l wd = true ↔ ((∀ c ∈ l, condB c = true) ∧ l.length ≤ 3) ∧ ∀ c ∈ l, fitC wd c = true := by
  unfold condsB
  rw [Bool.and_eq_true, rightB_iff, List.all_eq_true]
theorem all_snocC (f : Cnd → Bool) (l : List Cnd) (k : Nat) (h : k < l.length) : (l.take (k + 1)).all f = ((l.take k).all f && f (cx l k)) := by
  rw [List.take_succ_eq_append_getElem h, List.all_append, cx_eq l k h]; simp
theorem all_noC {f : Cnd → Bool} {l : List Cnd} {k : Nat} (h : k < l.length) (hf : f (cx l k) = false) : l.all f = false := by
  rw [List.all_eq_false]
  exact ⟨cx l k, cx_mem h, by rw [hf]; simp⟩
theorem rightB_stop {l : List Cnd} {k : Nat} (h : k < l.length) (hf : condB (cx l k) = false) : rightB l = false := by
  unfold rightB; rw [all_noC h hf, Bool.false_and]
theorem condsB_long {l : List Cnd} {wd : Int} (h : 3 < l.length) : condsB l wd = false := by
  unfold condsB rightB; rw [decide_eq_false (by omega : ¬ l.length ≤ 3)]; simp
theorem condsB_stop1 {l : List Cnd} {wd : Int} {k : Nat} (h : k < l.length) (hf : condB (cx l k) = false) : condsB l wd = false := by
  unfold condsB; rw [rightB_stop h hf, Bool.false_and]
theorem condsB_stop2 {l : List Cnd} {wd : Int} {k : Nat} (h : k < l.length) (hf : fitC wd (cx l k) = false) : condsB l wd = false := by
  unfold condsB; rw [all_noC h hf, Bool.and_false]
theorem fit_big {c : Cnd} (h : condB c = true) : fitC 6 c = true := by
  rw [condB_iff] at h
  rw [fitC_iff]
  rcases h with ⟨h1, h2, h3 | h3⟩
  · exact ⟨by omega, .inl h3.1⟩
  · exact ⟨by omega, .inr (by omega)⟩
theorem right_six (l : List Cnd) : condsB l 6 = rightB l := by
  rw [Bool.eq_iff_iff, condsB_iff, rightB_iff]
  exact ⟨fun h => h.1, fun h => ⟨h, fun c hc => fit_big (h.1 c hc)⟩⟩
end Go.Proofs.YtejgofhpjkebbaaDoor
