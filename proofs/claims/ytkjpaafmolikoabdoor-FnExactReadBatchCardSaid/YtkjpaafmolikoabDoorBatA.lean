/- Lists of deeds: as texts, and in memory; the laws' comparison of two that are alike. -/
import Derived.Test.YtkjpaafmolikoabDoorMarkD
import Derived.Test.YtkjpaafmolikoabDoorApp
import Derived.StillTailTactics
namespace Go.Proofs.YtkjpaafmolikoabDoor
open Go.RowKit

/-- What a text is read as: a list of deeds, and whether it is one. -/
def batB (s : List UInt8) : Bool := decide ((spl 59 s).length ≤ 8) && (spl 59 s).all fun t => (specReadD t).ok
def readB (s : List UInt8) : List RD × Bool := if s = [] then ([], true) else if batB s = true then ((spl 59 s).map specReadD, true) else ([], false)
def rdx (ds : List RD) (j : Nat) : RD := ds[j]?.getD zeroD
theorem rdx_eq (ds : List RD) (j : Nat) (h : j < ds.length) : rdx ds j = ds[j] := by simp [rdx, h]
/-- The slice value '.slice A ds.length c' reads as these deeds. -/
def Deeds (w : World) (B : Nat) (A : Option Addr) (ds : List RD) : Prop :=
  0 < ds.length → ∃ b off, A = some ⟨b, off, none⟩ ∧ b < B ∧ ∀ j, j < ds.length → ∃ Ar cr, w.cell? ⟨b, off + j * 3, none⟩ = some (.int .i64 (rdx ds j).k) ∧ w.cell? ⟨b, off + j * 3 + 1, none⟩ = some (.string (rdx ds j).n) ∧ w.cell? ⟨b, off + j * 3 + 2, none⟩ = some (.slice Ar (rdx ds j).z.length cr) ∧ Ints w B Ar (rdx ds j).z ∧ (rdx ds j).z.length ≤ 6
theorem Deeds.below {w w' : World} {B : Nat} {A : Option Addr} {ds : List RD} (h : Deeds w B A ds) (hb : Below B w w') : Deeds w' B A ds := fun hn => by
  obtain ⟨b, off, e, hlt, hc⟩ := h hn
  refine ⟨b, off, e, hlt, fun j hj => ?_⟩
  obtain ⟨Ar, cr, h1, h2, h3, h4, h5⟩ := hc j hj
  exact ⟨Ar, cr, (hb.cell hlt).trans h1, (hb.cell hlt).trans h2, (hb.cell hlt).trans h3, h4.below hb, h5⟩
theorem Deeds.more {w : World} {B B' : Nat} {A : Option Addr} {ds : List RD} (h : Deeds w B A ds) (hB : B ≤ B') : Deeds w B' A ds := fun hn => by
  obtain ⟨b, off, e, hlt, hc⟩ := h hn
  refine ⟨b, off, e, Nat.lt_of_lt_of_le hlt hB, fun j hj => ?_⟩
  obtain ⟨Ar, cr, h1, h2, h3, h4, h5⟩ := hc j hj
  exact ⟨Ar, cr, h1, h2, h3, h4.more hB, h5⟩
theorem Deeds.on {w w' : World} {A : Option Addr} {ds : List RD} (h : Deeds w w.heap.size A ds) (hb : Below w.heap.size w w') : Deeds w' w'.heap.size A ds := (h.below hb).more hb.size
set_option maxRecDepth 100000 in
set_option maxHeartbeats 2000000 in
theorem eqDeedS_same (A A' : Option Addr) (c c' : Nat) (ds : List RD) (w : World) (hB : Deeds w w.heap.size A ds) (hB' : Deeds w w.heap.size A' ds) (hl : ds.length ≤ 1099511627776) :
    Calls Tryd.prog 34 #[.slice A ds.length c, .slice A' ds.length c'] w fun e w' => e = .returned (.bool true) ∧ Below w.heap.size w w' := by
  have hb : ((ds.length : Int) != (ds.length : Int)) = false := by simp
  go_enter Tryd.func34, Tryd.ntmps34
  go_wp2
  go_loopw [5] (fun i wr => ∃ k : Nat, k ≤ ds.length ∧ i = .int .i64 k ∧ Below w.heap.size w wr) (fun i _ => ds.length - (intOf i).toNat)
  case atStart => exact ⟨0, Nat.zero_le _, rfl, Below.refl _ _⟩
  case round =>
    obtain ⟨k, hk, rfl, hW⟩ := hrel
    have hBr := hB.on hW
    have hBr' := hB'.on hW
    clear hB hB' hb
    by_cases hlt : k < ds.length
    · obtain ⟨b, off, rfl, _, hc⟩ := hBr (by omega)
      obtain ⟨b', off', rfl, _, hc'⟩ := hBr' (by omega)
      obtain ⟨Ar, cr, h1, h2, h3, h4, h5⟩ := hc k hlt
      obtain ⟨Ar', cr', h1', h2', h3', h4', _⟩ := hc' k hlt
      clear hc hc'
      go_wp2_with fail
      go_still_tail 8, (by kernel_rfl)
      change wpList _ _ _ _ _ wr.drew
      have hW2 : Below w.heap.size w wr.drew := bel_drewN hW 1
      have i3 : Ints wr.drew wr.drew.heap.size Ar (rdx ds k).z := h4
      have i3' : Ints wr.drew wr.drew.heap.size Ar' (rdx ds k).z := h4'
      clear h1 h2 h3 h1' h2' h3' h4 h4' hW hBr hBr'
      generalize wr.drew = wd at *
      go_wp2_with fail
      refine (eqDeed_same (rdx ds k).k (rdx ds k).n Ar Ar' cr cr' (rdx ds k).z wd i3 i3' (by omega)).mono ?_
      rintro e w1 ⟨rfl, hb1⟩
      have hW3 : Below w.heap.size w w1 := hW2.trans (hb1.mono hW2.size)
      go_wp2
      go_roundw
      case rel => exact ⟨k + 1, by omega, by go_num, hW3⟩
      case measure => simp [intOf]; omega
    · have hd : decide (k < ds.length) = false := by simpa using hlt
      go_wp2
      go_ret
      exact ⟨rfl, hW⟩

/-- A block that reads as a function of the place. -/
def arr (m : Nat) (f : Nat → Value) : Array Value := ((List.range m).map f).toArray
theorem arr_get {m q : Nat} (f : Nat → Value) (h : q < m) : (arr m f)[q]? = some (f q) := by simp [arr, h]
theorem arr_set (m p : Nat) (f : Nat → Value) (v : Value) : (arr m f).setIfInBounds p v = arr m (fun q => if q = p then v else f q) := by
  apply Array.ext_getElem?
  intro q
  unfold arr
  rw [Array.getElem?_setIfInBounds]
  by_cases hq : p = q
  · subst hq
    by_cases hm : p < m
    · simp [hm]
    · simp [hm]
  · have hq' : ¬ q = p := fun e => hq e.symm
    rw [if_neg hq]
    by_cases hm : q < m
    · simp [hm, hq']
    · simp [hm]
theorem arr_congr {m : Nat} {f g : Nat → Value} (h : ∀ q, q < m → f q = g q) : arr m f = arr m g := by
  unfold arr
  congr 1
  exact List.map_congr_left fun q hq => h q (List.mem_range.1 hq)
end Go.Proofs.YtkjpaafmolikoabDoor
