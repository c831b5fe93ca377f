/- A code of bytes that came in; contracts of the laws' big and likeRow: what each returns; nothing has turned. -/
import Derived.Test.YtdpokfjempdchaaGreatDoorDraw1
namespace Go.Proofs.YtdpokfjempdchaaGreatDoor
open Go.RowKit

theorem isRow_u8 {w : World} {a : Option Addr} {len cap : Nat} {zs : List Int} (h : IsRow .u8 w a len cap zs) : ∃ ys : List Int, ys.length = len ∧ U8s w w.heap.size a ys ∧ len ≤ maxLen := by
  rcases h with ⟨rfl, rfl, rfl, rfl⟩ | ⟨x, rfl, hl, hm, hz, hcell, hwf⟩
  · exact ⟨[], rfl, fun h => absurd h (by simp), by decide⟩
  · refine ⟨zs.take len, by simp; omega, fun hn => ?_, by omega⟩
    have hlen : 0 < len := by simp at hn; omega
    obtain ⟨b, off, spot⟩ := x
    have hc := hcell 0 (by omega)
    have hspot : spot = none := by simpa [Addr.add] using World.cell?_spot hc
    subst hspot
    refine ⟨b, off, rfl, by simpa [Addr.add] using cell_lt hc, fun j hj => ?_⟩
    have hj' : j < zs.length ∧ j < len := by simp at hj; omega
    have := hcell j hj'.1
    have e : Addr.add ⟨b, off, none⟩ j = ⟨b, off + j, none⟩ := by unfold Addr.add; split <;> simp_all
    rw [e] at this
    have hi : ix (zs.take len) j = zs.getD j 0 := by simp [ix, hj'.2]
    have hmem : zs.getD j 0 ∈ zs := by
      rw [List.getD_eq_getElem?_getD, List.getElem?_eq_getElem hj'.1]; exact List.getElem_mem _
    have hw := hwf _ hmem
    rw [hi]
    refine ⟨this, ?_⟩
    simp only [Lit.wf, Bool.and_eq_true, decide_eq_true_eq] at hw
    have e1 : IntKind.u8.min = 0 := by rfl
    have e2 : IntKind.u8.max = 255 := by rfl
    rw [e1, e2] at hw
    exact hw

theorem big_any (A : Option Addr) (n c : Nat) (w : World) :
    Calls Tryz.prog 4 #[.slice A n c] w fun e w' => e = .returned (.bool (decide ((4096 : Int) < (n : Int)))) ∧ w = w' := by
  go_enter Tryz.func4, Tryz.ntmps4
  go_wp2
  go_ret
  exact ⟨ret_bool (by simp), rfl⟩
theorem U8s.on {w w' : World} {A : Option Addr} {zs : List Int} (h : U8s w w.heap.size A zs) (hb : Below w.heap.size w w') : U8s w' w'.heap.size A zs := fun hn => by
  obtain ⟨b, off, e, hb', hc⟩ := h hn
  exact ⟨b, off, e, Nat.lt_of_lt_of_le hb' hb.size, fun j hj => ⟨(hb.cell hb').trans (hc j hj).1, (hc j hj).2⟩⟩
end Go.Proofs.YtdpokfjempdchaaGreatDoor
