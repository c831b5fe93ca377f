/- Contracts of the model's sums: l3Plus, Plus, l3Minus, Minus, l3Change, Change, IsSet, l1Min, Least: a bag of the call's own that reads as told; nothing that lay has turned. -/
import Derived.Test.YtedbjjhkjkpnkaaJC
import Derived.Test.YtedbjjhkjkpnkaaBagI2
namespace Go.Proofs.Ytedbjjhkjkpnkaa
open Go.RowKit

theorem plus_take {a b : List (List Int × Int)} {k : Nat} (h : k < b.length) : plusL a (b.take (k + 1)) = withL (plusL a (b.take k)) (rx b k) (nx b k) := by
  rw [List.take_succ_eq_append_getElem h]
  unfold plusL
  rw [List.foldl_append]
  simp [rx, nx, h]
set_option maxRecDepth 100000 in
set_option maxHeartbeats 4000000 in
theorem l3Plus_any (A A' : Option Addr) (c c' : Nat) (a b : List (List Int × Int)) (w : World) (hA : Bag w w.heap.size A a) (hB : Bag w w.heap.size A' b) (hl : a.length ≤ 1000000) (hl' : b.length ≤ 1000000) :
    Calls Try.prog 80 #[.slice A a.length c, .slice A' b.length c'] w (OwnBag w.heap.size (plusL a b) w) := by
  have HLa := Lib.hid (rows_mem.1 hA.le)
  have HLb := Lib.hid (rows_mem.1 hB.le)
  go_enter Try.func80, Try.ntmps80
  go_wp2_with fail
  refine (l2Copy_any A c a w hA (by omega)).mono ?_
  rintro e w1 ⟨v, es, rfl, hO, ⟨g, hg⟩, he, hb⟩
  obtain ⟨cap, rfl, hOB⟩ := hO.ob hg
  have HE0 := Lib.hid he
  clear he hg hO
  go_wp2
  go_loopw [5, 6] (fun v s wr => ∃ (k g cap : Nat) (es : List Ent), k ≤ b.length ∧ s = .int .i64 k ∧ v = .slice (some ⟨g, 0, none⟩) es.length cap ∧ OB wr w.heap.size g cap es ∧ es.map Ent.pair = plusL a (b.take k) ∧ Below w.heap.size w wr) (fun _ s _ => b.length - (intOf s).toNat)
  case atStart => exact ⟨0, g, cap, es, Nat.zero_le _, rfl, rfl, hOB, HE0.out, hb⟩
  case round =>
    clear hOB hb HE0
    obtain ⟨k, g, cap, es, hk, rfl, rfl, hO, he, hW⟩ := hrel
    have HE := Lib.hid he
    have hel : es.length ≤ 2000000 := by
      have h1 := congrArg List.length HE.out
      have h2 := plus_length (b.take k) a
      rw [List.length_map] at h1
      rw [List.length_take] at h2
      omega
    have HES := Lib.hid (show ∀ e ∈ es, e.r.length ≤ 1099511627776 from fun e hm => by
      have : e.pair ∈ plusL a (b.take k) := by rw [← HE.out]; exact List.mem_map_of_mem hm
      exact plus_rows HLa.out (fun p hp => HLb.out p (List.mem_of_mem_take hp)) _ this)
    clear he
    by_cases hlt : k < b.length
    · obtain ⟨bb, off, rfl, hbl, hc⟩ := hB (by omega)
      obtain ⟨Ar, cr, c1, c2, c3, h4⟩ := hc k hlt
      have h1 : wr.cell? ⟨bb, off + k * 2, none⟩ = some (.slice Ar (rx b k).length cr) := (hW.cell hbl).trans c1
      have h2 : wr.cell? ⟨bb, off + k * 2 + 1, none⟩ = some (.int .i64 (nx b k)) := (hW.cell hbl).trans c2
      have h3 := c3.on hW
      clear hc c1 c2 c3
      have HC := Lib.hid (And.intro h1 h2)
      have hk0 : (0 : Int) ≤ (k : Int) := Int.natCast_nonneg _
      have hk1 : (k : Int) < (b.length : Int) := by omega
      have hsz : w.heap.size ≤ wr.heap.size := hW.size
      go_wp2_with fail
      go_region_held3 (fun w' => w'.cell? ⟨bb, off + k * 2, none⟩ = some (.slice Ar (rx b k).length cr) ∧ w'.cell? ⟨bb, off + k * 2 + 1, none⟩ = some (.int .i64 (nx b k)))
        (first | go_keep | exact ⟨(hb1.cell hbl).trans HC.out.1, (hb1.cell hbl).trans HC.out.2⟩)
        (first | (go_at_call 101; refine (l2With_any w.heap.size g cap es Ar cr (rx b k) (nx b k) _ (by exact hsz) (by exact hO) (by exact h3) (by omega) h4 HES.out).mono ?_; rintro e w2 ⟨g1, cap1, es1, rfl, hO1, he1, hb1⟩))
      have HE1 := Lib.hid (show es1.map Ent.pair = plusL a (b.take (k + 1)) by rw [he1, HE.out, plus_take hlt])
      have hW1 : Below w.heap.size w w2 := (bel_drewN hW 1).trans hb1
      clear he1 hO hW hb1 h1 h2 h3 HC
      go_wp2
      go_roundw
      case rel => exact ⟨k + 1, g1, cap1, es1, by omega, by go_num, rfl, hO1, HE1.out, hW1⟩
      case measure => simp [intOf]; omega
    · have hd : decide (k < b.length) = false := by simpa using hlt
      go_wp2
      go_ret
      exact ⟨g, cap, es, rfl, hO, by rw [HE.out, List.take_of_length_le (by omega)], hW⟩
/-- Two bags in order: their sum; else the empty bag. -/
def plusB (a b : List (List Int × Int)) : List (List Int × Int) := if (bagOkB a && bagOkB b) = true then plusL a b else []
end Go.Proofs.Ytedbjjhkjkpnkaa
