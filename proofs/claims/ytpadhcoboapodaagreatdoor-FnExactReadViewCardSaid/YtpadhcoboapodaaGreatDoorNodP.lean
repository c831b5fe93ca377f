/- Numbers read of words: the program's readNumbers; it reads variables of the library's, which lie as its text lays them. -/
import Derived.Test.YtpadhcoboapodaaGreatDoorJV6
import Derived.Test.YtpadhcoboapodaaGreatDoorJV2
namespace Go.Proofs.YtpadhcoboapodaaGreatDoor
open Go.RowKit

/-- What readNumbers answers. -/
def NumsAns (o : Option (List Int)) (w : World) (e : Ending) (w' : World) : Prop :=
  match o with
  | some z => ∃ g, e = .returned (.tuple #[.slice (some ⟨g, 0, none⟩) z.length z.length, .bool true]) ∧ w.heap.size ≤ g ∧ Blk w' g 2 (i64s z) ∧ Below w.heap.size w w'
  | none => e = .returned (.tuple #[.slice none 0 0, .bool false]) ∧ Below w.heap.size w w'
def numOf (t : ByteArray) : Int := (parseI (bl t)).getD 0
theorem numsI_all {ws : List ByteArray} (h : ∀ j, j < ws.length → parseI (bl (sx ws j)) = some (numOf (sx ws j))) : numsI (ws.map bl) = some (ws.map numOf) :=
  mapM_map parseI bl numOf ws fun t ht => by
    obtain ⟨j, hj, rfl⟩ := List.mem_iff_getElem.1 ht
    rw [← sx_eq ws j hj]
    exact h j hj
theorem ix_numOf {ws : List ByteArray} {k : Nat} (h : k < ws.length) : ix (ws.map numOf) k = numOf (sx ws k) := by
  rw [ix_eq _ _ (by simpa using h), sx_eq ws k h]
  simp
theorem Strs.on {w w' : World} {A : Option Addr} {ts : List ByteArray} (h : Strs w w.heap.size A ts) (hb : Below w.heap.size w w') : Strs w' w'.heap.size A ts := fun hn => by
  obtain ⟨b, off, e, hl, hc⟩ := h hn
  exact ⟨b, off, e, Nat.lt_of_lt_of_le hl hb.size, fun j hj => (hb.cell (p := ⟨b, off + j, none⟩) hl).trans (hc j hj)⟩
set_option maxRecDepth 100000 in
set_option maxHeartbeats 1500000 in
theorem readNumbers_any (A : Option Addr) (c : Nat) (ws : List ByteArray) (w : World) (hS : Strs w w.heap.size A ws) (hz : ∀ j, j < ws.length → (sx ws j).size ≤ 1073741824) (hl : ws.length ≤ 1073741825) (hL : LaidAll w) :
    Calls Tryz.prog 48 #[.slice A ws.length c] w (NumsAns (numsI (ws.map bl)) w) := by
  obtain ⟨zs, hzs⟩ : ∃ zs, ws.map numOf = zs := ⟨_, rfl⟩
  have hlen : zs.length = ws.length := by rw [← hzs, List.length_map]
  have HIX := Lib.hid (show ∀ k, k < ws.length → ix zs k = numOf (sx ws k) from fun k h => by rw [← hzs]; exact ix_numOf h)
  have HALL := Lib.hid (show (∀ j, j < ws.length → parseI (bl (sx ws j)) = some (numOf (sx ws j))) → numsI (ws.map bl) = some zs from fun h => by rw [← hzs]; exact numsI_all h)
  have HNO := Lib.hid (show ∀ k, k < ws.length → parseI (bl (sx ws k)) = none → numsI (ws.map bl) = none from fun k h hx => mapM_stop _ _ k (by simpa using h) (by rw [word_at ws h (by simpa using h)]; exact hx))
  have hmk := fun wx => run_make_row' (P := Tryz.prog) 31 2 (.int .i64 0) 8 Tryz.underlying31 info_i64 rfl .i64 .i64 ws.length (by omega) (by omega) wx
  have HMC := Lib.hid (show madeCells #[Value.int .i64 0] ws.length = i64s (copied zs 0) by rw [← hlen]; exact made_copied zs)
  have HZ := Lib.hid hz
  clear hzs hz
  go_enter Tryz.func48, Tryz.ntmps48
  go_wp2
  go_loopw [14] (fun i wr => ∃ k : Nat, k ≤ ws.length ∧ i = .int .i64 k ∧ (∀ j, j < k → parseI (bl (sx ws j)) = some (numOf (sx ws j))) ∧ Blk wr w.heap.size 2 (i64s (copied zs k)) ∧ Below w.heap.size w wr)
    (fun i _ => ws.length - (intOf i).toNat)
  case atStart => exact ⟨0, Nat.zero_le _, rfl, (fun j hj => absurd hj (by omega)), by rw [HMC.out]; exact Blk.new _ _ _, (Below.refl _ _).alloc (Nat.le_refl _) _⟩
  case round =>
    obtain ⟨k, hk, rfl, hp, hB, hbel⟩ := hrel
    have HP := Lib.hid hp
    have hLr := hL.on hbel
    clear hmk hp
    by_cases hlt : k < ws.length
    · obtain ⟨b, off, rfl, hb, hc⟩ := hS (by omega)
      have hck : wr.cell? ⟨b, off + k, none⟩ = some (.string (sx ws k)) := (hbel.cell (p := ⟨b, off + k, none⟩) hb).trans (hc k hlt)
      have hsz : (sx ws k).size ≤ 1099511627776 := by have := HZ.out k hlt; omega
      clear hc
      cases hx : parseI (bl (sx ws k)) with
      | none =>
        have HN := Lib.hid (HNO.out k hlt hx)
        have HX := Lib.hid hx
        clear hx
        go_wp2_with (go_at_call 61; refine (parse_err _ _ hsz HX.out hLr).mono ?_; rintro e w2 ⟨n2, N2, rfl, hb2⟩)
        go_ret2
        rw [HN.out]
        exact ⟨rfl, bel_step hbel hb2⟩
      | some x =>
        have HN := Lib.hid (show ∀ j, j < k + 1 → parseI (bl (sx ws j)) = some (numOf (sx ws j)) from fun j hj => by
          by_cases e : j = k
          · subst e; unfold numOf; rw [hx]; rfl
          · exact HP.out j (by omega))
        have HXE := Lib.hid (show x = ix zs k by rw [HIX.out k hlt]; unfold numOf; rw [hx]; rfl)
        have HX := Lib.hid hx
        clear hx
        go_wp2_with fail
        refine (parse_ok _ x _ hsz HX.out).mono ?_
        rintro e w2 ⟨rfl, hb2⟩
        have hB2 := hB.on hb2
        have hd : w2.cell? ⟨w.heap.size, k, none⟩ = some (.int .i64 (ix (copied zs k) k)) := by rw [hB2.cell k, i64s_get _ _ (by rw [copied_length _ _ (by omega)]; omega)]
        have hfz := hB2.frozen k
        have HB2 := Lib.hid (show Blk (w2.setCell ⟨w.heap.size, k, none⟩ (.int .i64 x)) w.heap.size 2 (i64s (copied zs (k + 1))) by
          have := hB2.set_ k (.int .i64 x)
          rw [HXE.out, copied_step zs k (by omega)] at this
          rw [HXE.out]; exact this)
        have hW2 := (bel_step hbel hb2).setCell (p := ⟨w.heap.size, k, none⟩) (Nat.le_refl _) (.int .i64 x)
        clear hB hbel hB2 hb2 hck
        go_wp2
        go_roundw
        case rel => exact ⟨k + 1, by omega, by go_num, HN.out, HB2.out, hW2⟩
        case measure => simp [intOf]; omega
    · obtain rfl : k = ws.length := by omega
      have HN := Lib.hid (HALL.out HP.out)
      rw [show copied zs ws.length = zs by rw [← hlen, copied_all]] at hB
      go_wp2
      go_ret2
      rw [HN.out]
      refine ⟨w.heap.size, ?_, Nat.le_refl _, hB, hbel⟩
      rw [hlen]
      rfl
end Go.Proofs.YtpadhcoboapodaaGreatDoor
