/- Contracts of the list's 'turned' with turnedRound and of the program's Minus: a bag that reads as told; nothing that lay has turned. -/
import Derived.Test.YtedbjjhkjkpnkaaSgn3
namespace Go.Proofs.Ytedbjjhkjkpnkaa
open Go.RowKit

theorem make_list (n : Nat) (hn : n ≤ 1099511627776) (w : World) : (Instr.makeSlice 88 (.int .i64 0) (.int .i64 (n : Int))).run Try.prog w = .ok (.slice (some ⟨w.heap.size, 0, none⟩) 0 n) (w.alloc (.cells (madeCells #[.slice none 0 0, .int .i64 0] (n * 2)) 63)) := by
  obtain ⟨i, hi, hz, hs, hby⟩ := info_parts info_count
  have := run_make (P := Try.prog) w 88 63 i (.agg #[.slice none 0 0, .int .i64 0]) Try.underlying88 hi hz .i64 .i64 (0 : Int) (n : Int) (by omega) (by omega) (by rw [hby]; omega) (by omega)
  rw [hs] at this
  simpa [Value.cells] using this
set_option maxRecDepth 100000 in
set_option maxHeartbeats 4000000 in
theorem turned_any (A : Option Addr) (c : Nat) (bag : List (List Int × Int)) (w : World) (hB : Bag w w.heap.size A bag) (hl : bag.length ≤ 1000000) (hn : ∀ p ∈ bag, -1000000 ≤ p.2 ∧ p.2 ≤ 1000000) :
    Calls Try.prog 102 #[.slice A bag.length c, .func (.func 103) #[] #[]] w fun e w' => ∃ v es, e = .returned v ∧ ABag w' w.heap.size v es ∧ es.map Ent.pair = minusL bag ∧ Below w.heap.size w w' := by
  obtain ⟨i0, hi0, hz0, hz1, hz2⟩ := info_parts info_count
  have HN := Lib.hid hn
  clear hn
  have hmk := make_list bag.length (by omega)
  have hO0 := ABag.nil (room_counts bag.length (by omega) w w.heap.size (Nat.le_refl _)).1
  have b1 := (Below.refl w.heap.size w).alloc (Nat.le_refl _) (.cells (madeCells #[.slice none 0 0, .int .i64 0] (bag.length * 2)) 63)
  go_enter Try.func102, Try.ntmps102
  go_wp2
  go_loopw [5, 13] (fun v i wr => ∃ (k : Nat) (es : List Ent), k ≤ bag.length ∧ i = .int .i64 k ∧ ABag wr w.heap.size v es ∧ es.map Ent.pair = minusL (bag.take k) ∧ Below w.heap.size w wr) (fun _ i _ => bag.length - (intOf i).toNat)
  case atStart => exact ⟨0, [], Nat.zero_le _, rfl, hO0, rfl, b1⟩
  case round =>
    obtain ⟨k, es, hk, rfl, hO, he, hW⟩ := hrel
    clear hmk hO0 b1
    have HE := Lib.hid he
    have hel : es.length = k := by have := congrArg List.length HE.out; simp [minusL] at this; omega
    have HEL := Lib.hid hel
    clear he hel
    by_cases hlt : k < bag.length
    · obtain ⟨b, off, rfl, hblt, hc⟩ := hB.below hW (by omega)
      obtain ⟨Ar, cap, h1, h2, h3, h4⟩ := hc k hlt
      clear hc
      have hlor : w.heap.size ≤ wr.heap.size := hW.size
      have bc := (Below.refl wr.heap.size wr).alloc (Nat.le_refl _) (.cells #[.slice Ar (rx bag k).length cap, .int .i64 (nx bag k)] 63)
      have hbd : -1000000 ≤ nx bag k ∧ nx bag k ≤ 1000000 := by
        have := HN.out bag[k] (List.getElem_mem hlt)
        rwa [show nx bag k = bag[k].2 by simp [nx, hlt]]
      go_wp2_with fail
      go_at_call 103
      refine (turnedRound_any Ar (rx bag k).length cap (nx bag k) _ hbd).mono ?_
      rintro e w1 ⟨rfl, hb1⟩
      have hb01 := bel_step bc hb1
      have hO1 := hO.below hb01 hlor
      have hW1 := hW.trans (hb01.mono hlor)
      have h31 := h3.below (hb01.mono hlor)
      have hlo1 : w.heap.size ≤ w1.heap.size := hW1.size
      clear h1 h2 h3 bc hb1 hb01 hO hW
      go_wp2_with (at_builtin; refine wpList_append_any _ rfl (.tmp 17) (.tmp 21) 88 rfl w.heap.size 63 i0 _ 2 32 Try.underlying88 hi0 hz0 hz1 hz2 rfl (by decide) _ _ (entCells es) rfl (hO1.1.alloc _) _ (some ⟨w1.heap.size, 0, none⟩) 1 1 [.slice Ar (rx bag k).length cap, .int .i64 (-nx bag k)] rfl (reads_new2 w1 _ _ _) (by simp [Value.oneCell']) (by simp only [maxLen]; have := HEL.out; omega) (by have := HEL.out; omega) (by rw [World.size_alloc]; omega) ?_; intro v6 w6 hown6 hg6 hat6)
      have b8 := (Below.refl w1.heap.size w1).alloc (Nat.le_refl _) (.cells #[.slice Ar (rx bag k).length cap, .int .i64 (-nx bag k)] 63)
      have hO6 := (hO1.below b8 hlo1).grow (fs := [⟨rx bag k, -nx bag k, Ar, cap, 0⟩]) (by rw [World.size_alloc]; omega) hg6 (by simp) (by rw [entCells_append]; rfl) hown6 (fun e he => by obtain rfl := List.mem_singleton.1 he; exact ⟨h31.below (b8.mono hlo1), h4⟩)
      have hW6 : Below w.heap.size w w6 := (hW1.alloc hlo1 _).grown hg6 (by rw [World.size_alloc]; omega) (fun r e => (hO1.1.lt r e).1)
      have HP := Lib.hid (show (es ++ [(⟨rx bag k, -nx bag k, Ar, cap, 0⟩ : Ent)]).map Ent.pair = minusL (bag.take (k + 1)) by rw [List.map_append, HE.out, minus_take hlt]; rfl)
      clear b8 hown6 hg6 hat6 hO1 hW1 h31
      go_wp2
      go_roundw
      case rel => exact ⟨k + 1, _, by omega, by go_num, hO6, HP.out, hW6⟩
      case measure => simp [intOf]; omega
    · have hd : decide (k < bag.length) = false := by simpa using hlt
      go_wp2
      go_ret
      exact ⟨_, es, rfl, hO, by rw [HE.out, List.take_of_length_le (by omega)], hW⟩
set_option maxRecDepth 100000 in
set_option maxHeartbeats 4000000 in
theorem implMinus_any (A : Option Addr) (c : Nat) (a : List (List Int × Int)) (w : World) (hA : Bag w w.heap.size A a) (hl : a.length ≤ 1099511627776) :
    Calls Try.prog 83 #[.slice A a.length c] w (OwnB (minusB a) w) := by
  go_enter Try.func83, Try.ntmps83
  go_wp2_with fail
  refine (implBagOk_any A c a w hA hl).mono ?_
  rintro e w1 ⟨rfl, hb1⟩
  have hA1 := hA.on hb1
  have hs1 := hb1.size
  clear hA
  cases hoa : bagOkB a with
  | false =>
    have HM := Lib.hid (show minusB a = [] by simp [minusB, hoa])
    clear hoa
    go_wp2
    go_ret
    exact ⟨_, [], rfl, empty_at w1 _ hs1, by rw [HM.out]; rfl, hb1.alloc hs1 _⟩
  | true =>
    have HM := Lib.hid (show minusB a = minusL a by simp [minusB, hoa])
    have hla := (bagOk_fit hoa).2
    have HN := Lib.hid (bagOk_fit hoa).1.2.2
    have b2 := (Below.refl w1.heap.size w1).alloc (Nat.le_refl _) (.cells #[] 63)
    have BE := Blk.new w1 63 #[]
    have hse : w1.heap.size ≤ (w1.alloc (.cells #[] 63)).heap.size := b2.size
    clear hoa
    go_wp2_with fail
    generalize w1.alloc (.cells #[] 63) = w2 at *
    refine (turned_any A c a w2 (hA1.on b2) (by omega) HN.out).mono ?_
    rintro e w3 ⟨v3, es3, rfl, hO3, he3, hb3⟩
    obtain ⟨A3, cap3, rfl⟩ := hO3.form
    have hT : Bag w3 w3.heap.size A3 (minusL a) := by rw [← he3]; exact hO3.bag hb3.size
    have hel : es3.length = (minusL a).length := by rw [← he3, List.length_map]
    have hml : (minusL a).length ≤ 1099511627776 := by rw [minus_length]; omega
    rw [hel]
    have BE3 := BE.below hb3 BE.lt
    have hW3 : Below w.heap.size w w3 := (bel_step hb1 b2).trans (hb3.mono (by omega))
    have hs3 : w.heap.size ≤ w3.heap.size := hW3.size
    clear hel he3 hO3 hb3 BE b2 hA1
    generalize minusL a = m at *
    go_wp2_with fail
    refine (appendCopies_fresh w1.heap.size A3 cap3 m w3 BE3 hT hml).mono ?_
    rintro e w4 ⟨v4, es4, rfl, hO4, he4, hg4, _⟩
    have HE4 := Lib.hid he4
    clear he4
    go_wp2
    go_ret
    exact ⟨_, es4, rfl, hO4.lower hs1, by rw [HE4.out, HM.out], hW3.grown hg4 hs3 (fun g e => by cases e; exact hs1)⟩
end Go.Proofs.Ytedbjjhkjkpnkaa
