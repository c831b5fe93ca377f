/- A table that was answered, stored into a block that was made ahead of the call, or behind it: plain facts on worlds. -/
import Derived.Test.YtedbjjhkjkpnkaaJC
namespace Go.Proofs.Ytedbjjhkjkpnkaa
open Go.RowKit

theorem fin3 {c0 y1 : World} {lo : Nat} {a b c : Value} (s : ByteArray) (wd : Int) {A : Option Addr} {cp : Nat} {es : List Ent} {rows : List (List Int)} (hx : Below c0.heap.size c0 y1) (ZB : Blk y1 c0.heap.size 28 #[a, b, c]) (hlt : c0.heap.size < lo)
    (hO : WRows y1 lo (.slice A rows.length cp) es) (hq : es.map Ent.r = rows) (hl : ∀ j, j < rows.length → (rr rows j).length ≤ 1099511627776) :
    Below c0.heap.size c0 (((y1.setCell ⟨c0.heap.size, 0, none⟩ (.string s)).setCell ⟨c0.heap.size, 1, none⟩ (.int .i64 wd)).setCell ⟨c0.heap.size, 2, none⟩ (.slice A rows.length cp)) ∧
    Blk (((y1.setCell ⟨c0.heap.size, 0, none⟩ (.string s)).setCell ⟨c0.heap.size, 1, none⟩ (.int .i64 wd)).setCell ⟨c0.heap.size, 2, none⟩ (.slice A rows.length cp)) c0.heap.size 28 #[.string s, .int .i64 wd, .slice A rows.length cp] ∧
    Rws (((y1.setCell ⟨c0.heap.size, 0, none⟩ (.string s)).setCell ⟨c0.heap.size, 1, none⟩ (.int .i64 wd)).setCell ⟨c0.heap.size, 2, none⟩ (.slice A rows.length cp)) (((y1.setCell ⟨c0.heap.size, 0, none⟩ (.string s)).setCell ⟨c0.heap.size, 1, none⟩ (.int .i64 wd)).setCell ⟨c0.heap.size, 2, none⟩ (.slice A rows.length cp)).heap.size A rows := by
  refine ⟨((hx.setCell (p := ⟨c0.heap.size, 0, none⟩) (Nat.le_refl _) _).setCell (p := ⟨c0.heap.size, 1, none⟩) (Nat.le_refl _) _).setCell (p := ⟨c0.heap.size, 2, none⟩) (Nat.le_refl _) _, ((ZB.set_ 0 (.string s)).set_ 1 (.int .i64 wd)).set_ 2 (.slice A rows.length cp), ?_⟩
  refine (hO.keep hO.inside (fun j hj _ => ?_)).rwsW hq hl
  have hne : j ≠ c0.heap.size := by omega
  rw [Below.heap_setCell _ ⟨c0.heap.size, 2, none⟩ _ j hne, Below.heap_setCell _ ⟨c0.heap.size, 1, none⟩ _ j hne, Below.heap_setCell _ ⟨c0.heap.size, 0, none⟩ _ j hne]
theorem finB {c0 y1 : World} {lo : Nat} (s : ByteArray) (wd : Int) {A : Option Addr} {cp : Nat} {es : List Ent} {rows : List (List Int)} (hx : Below c0.heap.size c0 y1)
    (hO : WRows y1 lo (.slice A rows.length cp) es) (hq : es.map Ent.r = rows) (hl : ∀ j, j < rows.length → (rr rows j).length ≤ 1099511627776) :
    Below c0.heap.size c0 (y1.alloc (.cells #[.string s, .int .i64 wd, .slice A rows.length cp] 28)) ∧
    Blk (y1.alloc (.cells #[.string s, .int .i64 wd, .slice A rows.length cp] 28)) y1.heap.size 28 #[.string s, .int .i64 wd, .slice A rows.length cp] ∧
    Rws (y1.alloc (.cells #[.string s, .int .i64 wd, .slice A rows.length cp] 28)) (y1.alloc (.cells #[.string s, .int .i64 wd, .slice A rows.length cp] 28)).heap.size A rows :=
  ⟨hx.alloc hx.size _, Blk.new y1 _ _, (hO.rwsW hq hl).on ((Below.refl y1.heap.size y1).alloc (Nat.le_refl _) _)⟩
end Go.Proofs.Ytedbjjhkjkpnkaa
