/- One side of an op read: the program's readSide; for texts of at most 2^30 bytes; it reads variables of the library's, which lie as its text lays them. -/
import Derived.Test.YtdpokfjempdchaaGreatDoorJK2
import Derived.Test.YtdpokfjempdchaaGreatDoorCndI
import Derived.Test.YtdpokfjempdchaaGreatDoorRead4
import Derived.Test.YtdpokfjempdchaaGreatDoorShelfD
namespace Go.Proofs.YtdpokfjempdchaaGreatDoor
open Go.RowKit

def sideAns (o : Option (Int × Bool)) : Value := match o with | some (n, b) => .tuple #[.int .i64 n, .bool b, .bool true] | none => .tuple #[.int .i64 0, .bool false, .bool false]
theorem readI_cut (s : List UInt8) : readI s = (parseI (Lib.trimPrefix s [36])).map fun n => (n, Lib.hasPrefix s [36]) := by
  cases s with
  | nil => simp [readI, Lib.trimPrefix, Lib.hasPrefix]
  | cons a r =>
    by_cases h : a = 36
    · subst h
      simp [readI, Lib.trimPrefix, Lib.hasPrefix]
    · have e : readI (a :: r) = (parseI (a :: r)).map fun n => (n, false) := by
        unfold readI
        split
        · rename_i h2
          injection h2 with h2 _
          exact absurd h2 h
        · rfl
      have h' : ¬ 36 = a := fun e => h e.symm
      have hp : Lib.hasPrefix (a :: r) [36] = false := by
        show ((36 == a) && List.isPrefixOf [] r) = false
        rw [beq_eq_false_iff_ne.2 h']; rfl
      have ht : Lib.trimPrefix (a :: r) [36] = a :: r := by unfold Lib.trimPrefix; rw [hp]; rfl
      rw [e, hp, ht]
theorem trim_len (s : List UInt8) : (Lib.trimPrefix s [36]).length ≤ s.length := by
  cases s with
  | nil => simp [Lib.trimPrefix, Lib.hasPrefix]
  | cons a r =>
    unfold Lib.trimPrefix
    split <;> simp
set_option maxRecDepth 100000 in
set_option maxHeartbeats 2000000 in
theorem readSide_any (s : ByteArray) (w : World) (hs : s.size ≤ 1073741824) (hL : LaidAll w) :
    Calls Tryz.prog 48 #[.string s] w fun e w' => e = .returned (sideAns (readI (bl s))) ∧ Below w.heap.size w w' := by
  obtain ⟨R, hR⟩ : ∃ R, sideAns (readI (bl s)) = R := ⟨_, rfl⟩
  have HQ := Lib.hid (show R = sideAns ((parseI (Lib.trimPrefix (bl s) [36])).map fun n => (n, Lib.hasPrefix (bl s) [36])) by rw [← hR, readI_cut])
  rw [hR]
  clear hR
  have HC := Lib.hid (Tryz.strings_CutPrefix s ⟨#[36]⟩ w)
  obtain ⟨D, hD⟩ : ∃ D, mkB (Lib.trimPrefix (bl s) [36]) = D := ⟨_, rfl⟩
  have hds : D.size ≤ 1099511627776 := by
    rw [← hD, ← bl_length, bl_mkB]
    have := trim_len (bl s)
    rw [bl_length] at this
    omega
  have HDB := Lib.hid (show bl D = Lib.trimPrefix (bl s) [36] by rw [← hD, bl_mkB])
  have HDE := Lib.hid (show (⟨(Lib.trimPrefix s.data.toList (ByteArray.data ⟨#[36]⟩).toList).toArray⟩ : ByteArray) = D from hD)
  obtain ⟨b, hb⟩ : ∃ b, Lib.hasPrefix (bl s) [36] = b := ⟨_, rfl⟩
  have HB := Lib.hid hb
  have HBE := Lib.hid (show Lib.hasPrefix s.data.toList (ByteArray.data ⟨#[36]⟩).toList = b from hb)
  clear hD hb
  go_enter Tryz.func48, Tryz.ntmps48
  go_wp2_with fail
  refine HC.out.mono ?_
  rintro e w1 ⟨rfl, hw1⟩
  subst hw1
  rw [HDE.out, HBE.out]
  cases hp : parseI (bl D) with
  | none =>
    have HD2 := Lib.hid (show R = sideAns none by rw [HQ.out, ← HDB.out, hp]; rfl)
    have HP := Lib.hid hp
    clear hp
    go_wp2_with fail
    refine (parse_err D _ hds HP.out hL).mono ?_
    rintro e w2 ⟨n2, N2, rfl, hb2⟩
    go_wp2
    refine bodyPost_ret (v := .tuple #[.int .i64 0, .bool false, .bool false]) (by simp [results, Tryz.f48, go_sem, *]) rfl ?_
    exact ⟨by rw [HD2.out]; rfl, hb2⟩
  | some n =>
    have HD2 := Lib.hid (show R = sideAns (some (n, b)) by rw [HQ.out, ← HDB.out, hp, HB.out]; rfl)
    have HP := Lib.hid hp
    clear hp
    go_wp2_with fail
    refine (parse_ok D n _ hds HP.out).mono ?_
    rintro e w2 ⟨rfl, hb2⟩
    go_wp2
    refine bodyPost_ret (v := .tuple #[.int .i64 n, .bool b, .bool true]) (by simp [results, Tryz.f48, go_sem, *]) rfl ?_
    exact ⟨by rw [HD2.out]; rfl, hb2⟩
end Go.Proofs.YtdpokfjempdchaaGreatDoor
