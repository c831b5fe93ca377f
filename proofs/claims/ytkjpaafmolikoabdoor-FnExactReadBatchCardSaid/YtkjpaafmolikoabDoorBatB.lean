/- The model's ReadBatch: a list of deeds, or none; nothing that lay has turned. For texts of at most 2^20 bytes. -/
import Derived.Test.YtkjpaafmolikoabDoorBatC
namespace Go.Proofs.YtkjpaafmolikoabDoor
open Go.RowKit

def deCs (es : List DE) : List Value := (List.range (3 * es.length)).map (dcell es)
theorem deCs_push (es : List DE) (e : DE) : deCs es ++ [.int .i64 e.k, .string e.n, .slice e.A e.z.length e.c] = deCs (es ++ [e]) := by
  unfold deCs
  apply List.ext_getElem?
  intro q
  have hl : ((List.range (3 * es.length)).map (dcell es)).length = 3 * es.length := by simp
  have hpush := dcell_push es e q
  by_cases h : q < 3 * es.length
  · rw [List.getElem?_append_left (by rw [hl]; exact h)]
    rw [if_neg (by omega), if_neg (by omega), if_neg (by omega)] at hpush
    simp only [List.getElem?_map, List.length_append, List.length_cons, List.length_nil]
    rw [List.getElem?_range h, List.getElem?_range (by omega)]
    simp [hpush]
  · rw [List.getElem?_append_right (by rw [hl]; omega), hl]
    simp only [List.getElem?_map, List.length_append, List.length_cons, List.length_nil]
    by_cases h2 : q < 3 * (es.length + 1)
    · rw [List.getElem?_range (by omega)]
      obtain e0 | e1 | e2 : q = es.length * 3 ∨ q = es.length * 3 + 1 ∨ q = es.length * 3 + 2 := by omega
      · rw [if_neg (by omega), if_neg (by omega), if_pos e0] at hpush
        rw [show q - 3 * es.length = 0 by omega]
        simp [← hpush]
      · rw [if_neg (by omega), if_pos e1] at hpush
        rw [show q - 3 * es.length = 1 by omega]
        simp [← hpush]
      · rw [if_pos e2] at hpush
        rw [show q - 3 * es.length = 2 by omega]
        simp [← hpush]
    · rw [List.getElem?_eq_none (by simp; omega), List.getElem?_eq_none (by simp; omega)]; rfl
theorem reads_new3 (w : World) (t : TypeId) (u0 u1 u2 : Value) : Reads (w.alloc (.cells #[u0, u1, u2] t)) (w.heap.size + 1) 3 (some ⟨w.heap.size, 0, none⟩) 1 [u0, u1, u2] := by
  refine ⟨rfl, fun _ => ⟨_, rfl, Nat.lt_succ_self _, fun j u hu => ?_⟩⟩
  have hB := Blk.new w t #[u0, u1, u2]
  have ea : Addr.add ⟨w.heap.size, 0, none⟩ j = ⟨w.heap.size, 0 + j, none⟩ := by unfold Addr.add; split <;> simp_all
  rw [ea, Nat.zero_add, hB.cell j, ← hu]
  simp
theorem row_own_ne {w : World} {b g : Nat} {e t : TypeId} {sz n : Nat} {v : Value} {xs : List Value} {A : Option Addr} {zs : List Int} (h : w.ownsRow b e sz v n xs) (hR : Row w t A zs g) (hne : t ≠ e) : 0 < zs.length → some g ≠ v.ownBlock := fun hn he => by
  obtain ⟨_, cur, hc, _⟩ := hR hn
  rcases h.2 with ⟨rfl, _⟩ | ⟨g', cap, cur', rfl, _, hh, _⟩
  · cases he
  · have e' : g = g' := by simpa [Value.ownBlock] using he
    subst e'
    have hc' : w.heap[g]? = some (.cells cur t (0, 0)) := hc
    rw [hc'] at hh
    have := Option.some.inj hh
    injection this with _ ht _
    exact hne ht
/-- The answer of the model's reader of batches. -/
def BatAns (p : List RD × Bool) (w : World) (e : Ending) (w' : World) : Prop :=
  ∃ A c, e = .returned (.tuple #[.slice A p.1.length c, .bool p.2]) ∧ Deeds w' w'.heap.size A p.1 ∧ Below w.heap.size w w'
theorem batAns_none {w w' : World} {b : Bool} {e : Ending} {A : Option Addr} (he : e = .returned (.tuple #[.slice A 0 0, .bool b])) (hb : Below w.heap.size w w') : BatAns ([], b) w e w' :=
  ⟨A, 0, he, fun h => absurd h (by simp), hb⟩
theorem deeds_of_own {w : World} {b : Nat} {v : Value} {es : List DE} {ds : List RD} (h : w.ownsRow b 39 3 v es.length (deCs es)) (hr : ∀ e ∈ es, Row w 2 e.A e.z e.g) (h6 : ∀ e ∈ es, e.z.length ≤ 6) (hd : es.map DE.d = ds) : ∃ A c, v = .slice A es.length c ∧ Deeds w w.heap.size A ds := by
  have hl : es.length = ds.length := by rw [← hd, List.length_map]
  rcases h.2 with ⟨rfl, h0⟩ | ⟨g, cap, cur, rfl, hg, hh, hnc, _, hs, ht⟩
  · rw [h0]; exact ⟨none, 0, rfl, fun hn => absurd hn (by omega)⟩
  · refine ⟨_, cap, rfl, fun hn => ⟨g, 0, rfl, Blk.lt (t := 39) (cs := cur) hh, fun j hj => ?_⟩⟩
    have hj' : j < es.length := by omega
    have hx : rdx ds j = (dex es j).d := by rw [rdx_eq ds j hj, dex_eq es j hj']; simp [← hd]
    have hm := dex_mem es j hj'
    have hcell : ∀ q, q < 3 * es.length → w.cell? ⟨g, q, none⟩ = some (dcell es q) := fun q hq => by
      rw [Blk.cell (t := 39) (cs := cur) hh q]
      have h1 : (deCs es)[q]? = some (dcell es q) := by simp [deCs, hq]
      rw [← ht, List.getElem?_take] at h1
      split at h1
      · rw [← Array.getElem?_toList]; exact h1
      · cases h1
    refine ⟨(dex es j).A, (dex es j).c, ?_, ?_, ?_, ?_, ?_⟩
    · rw [Nat.zero_add, hcell _ (by omega), dcell_0, hx]; rfl
    · rw [Nat.zero_add, hcell _ (by omega), dcell_1, hx]; rfl
    · rw [Nat.zero_add, hcell _ (by omega), dcell_2, hx]; rfl
    · rw [hx]; exact (hr _ hm).ints
    · rw [hx]; exact h6 _ hm
set_option maxRecDepth 100000 in
set_option maxHeartbeats 8000000 in
theorem specReadBatch_any (s : ByteArray) (w : World) (hs : s.size ≤ 1048576) :
    Calls Tryd.prog 32 #[.string s] w (BatAns (readB (bl s)) w) := by
  obtain ⟨P, hP⟩ : ∃ P, readB (bl s) = P := ⟨_, rfl⟩
  have HP := Lib.hid hP
  rw [hP]
  clear hP
  obtain ⟨i0, hi0, hz0, hz1, hz2⟩ := info_parts info_deed
  have hB0 : Below w.heap.size w (w.alloc (.cells #[] 39)) := (Below.refl _ _).alloc (Nat.le_refl _) _
  by_cases h0 : bl s = []
  · obtain rfl : s = ⟨#[]⟩ := bl_eta s [] h0
    have HZ := Lib.hid (show P = ([], true) by rw [← HP.out]; rfl)
    clear h0 HP
    go_enter Tryd.func32, Tryd.ntmps32
    go_wp2
    go_ret2
    rw [HZ.out]
    exact batAns_none rfl hB0
  have hemp : s.toList.isEmpty = false := by
    rw [toList_bl]
    cases hx : bl s with
    | nil => exact absurd hx h0
    | cons _ _ => rfl
  have H0 := Lib.hid h0
  have hE0 : (w.alloc (.cells #[] 39)).ownsRow w.heap.size 39 3 (.slice (some ⟨w.heap.size, 0, none⟩) 0 0) 0 [] := World.ownsRow_made w #[] 0 (Nat.le_refl _) (Nat.zero_le _) rfl
  clear h0
  go_enter Tryd.func32, Tryd.ntmps32
  go_wp2_with fail
  refine (l1Split_any s 59 _ (by omega)).mono ?_
  rintro e w1 ⟨v1, ts, rfl, hts, hown1, hb1⟩
  obtain ⟨A1, cap1, rfl⟩ := own_form hown1
  have HTS := Lib.hid hts
  have hE1 := hE0.kept (grown_of_below hb1) (by simp [Value.ownBlock])
  have hb01 : Below w.heap.size w w1 := hB0.trans (hb1.mono hB0.size)
  have hlen : ts.length ≤ 1048577 := by
    have h1 := spl_length 59 (bl s)
    have h2 : (bl s).count 59 ≤ (bl s).length := List.count_le_length
    rw [← hts, List.length_map] at h1
    rw [bl_length] at h2
    omega
  have hown1' : w1.ownsRow w.heap.size 9 1 (.slice A1 ts.length cap1) ts.length (strl ts) := by
    rcases hown1 with ⟨h1, h2⟩
    refine ⟨h1, ?_⟩
    rcases h2 with h2 | ⟨g, cap, cur, h3, h4, h5⟩
    · exact .inl h2
    · exact .inr ⟨g, cap, cur, h3, by simp at h4; omega, h5⟩
  clear hts hown1 hE0 hB0 hb1
  go_wp2
  go_loopw [4, 6] (fun v i wr => ∃ es : List DE, es.length ≤ ts.length ∧ es.length ≤ 8 ∧ i = .int .i64 es.length ∧ (∀ j, j < es.length → (dex es j).d = specReadD (bl (sx ts j))) ∧ (∀ e ∈ es, e.z.length ≤ 6) ∧ wr.ownsRow w.heap.size 39 3 v es.length (deCs es) ∧ (∀ e ∈ es, Row wr 2 e.A e.z e.g) ∧ wr.ownsRow w.heap.size 9 1 (.slice A1 ts.length cap1) ts.length (strl ts) ∧ Below w.heap.size w wr) (fun _ i _ => ts.length - (intOf i).toNat)
  case atStart => exact ⟨[], Nat.zero_le _, Nat.zero_le _, rfl, fun j hj => absurd hj (by simp), fun e he => by simp at he, hE1, fun e he => by simp at he, hown1', hb01⟩
  case round =>
    obtain ⟨es, hk, hk8, rfl, hd, hz, hown, hrows, hstr, hbel⟩ := hrel
    have HD := Lib.hid hd
    have HZ6 := Lib.hid hz
    have HRW := Lib.hid hrows
    clear hd hz hrows hE1 hown1' hb01
    obtain ⟨Ao, co, hov⟩ := own_form hown
    subst hov
    by_cases hlt : es.length < ts.length
    · have hszz : (sx ts es.length).size ≤ 1048576 := by have := word_le HTS.out hlt; omega
      obtain ⟨b, off, rfl, hb, hc⟩ := strs_at hstr (by omega)
      have hck := hc es.length hlt
      clear hc
      have HIR := Lib.hid (specReadDeed_any (sx ts es.length) wr hszz)
      obtain ⟨p, hp⟩ : ∃ p, specReadD (bl (sx ts es.length)) = p := ⟨_, rfl⟩
      have hz6 : p.z.length ≤ 6 := by rw [← hp]; exact specReadD_len _
      rw [hp] at HIR
      have HPP := Lib.hid hp
      have HMEM := Lib.hid (show bl (sx ts es.length) ∈ spl 59 (bl s) by rw [← HTS.out, sx_eq ts _ hlt]; exact List.mem_map_of_mem (List.getElem_mem hlt))
      clear hp
      obtain ⟨K, N, Z, ok⟩ := p
      cases ok with
      | false =>
        have HF := Lib.hid (show P = ([], false) by rw [← HP.out]; exact readB_no H0.out (batB_bad HMEM.out (by rw [HPP.out])))
        go_wp2_with fail
        refine HIR.out.mono ?_
        rintro e w2 ⟨A, c, g, rfl, hg, hR, hb2⟩
        dsimp only
        have hW2 := bel_step hbel hb2
        have hW3 : Below w.heap.size w (w2.alloc (.cells #[.int .i64 K, .string N, .slice A Z.length c] 39)) := hW2.alloc hW2.size _
        go_wp2
        go_ret2
        rw [HF.out]
        exact batAns_none rfl (hW3.alloc hW3.size _)
      | true =>
        by_cases h8 : es.length = 8
        · have HF := Lib.hid (show P = ([], false) by
            rw [← HP.out]
            refine readB_no H0.out ?_
            unfold batB
            have : (spl 59 (bl s)).length = ts.length := by rw [← HTS.out, List.length_map]
            rw [decide_eq_false (by omega)]; rfl)
          have h8b : ((es.length : Int) == 8) = true := by simp; omega
          clear h8
          go_wp2_with fail
          refine HIR.out.mono ?_
          rintro e w2 ⟨A, c, g, rfl, hg, hR, hb2⟩
          dsimp only
          have hW2 := bel_step hbel hb2
          have hW3 : Below w.heap.size w (w2.alloc (.cells #[.int .i64 K, .string N, .slice A Z.length c] 39)) := hW2.alloc hW2.size _
          go_wp2
          go_ret2
          rw [HF.out]
          exact batAns_none rfl (hW3.alloc hW3.size _)
        · have h8b : ((es.length : Int) == 8) = false := by rw [beq_eq_false_iff_ne]; omega
          go_wp2_with fail
          refine HIR.out.mono ?_
          rintro e w2 ⟨A, c, g, rfl, hg, hR, hb2⟩
          dsimp only at hR hz6 ⊢
          have hW2 := bel_step hbel hb2
          have D := Blk.new w2 39 #[.int .i64 K, .string N, .slice A Z.length c]
          obtain ⟨d0, d1, d2⟩ := D.c3
          have bV := (Below.refl w2.heap.size w2).alloc (Nat.le_refl _) (.cells #[.int .i64 K, .string N, .slice A Z.length c] 39)
          have hb3 := bel_step hb2 bV
          have hW3 := bel_step hW2 bV
          have hown3 := hown.kept (grown_bel hb3 none) (Classical.em _)
          have hstr3 := hstr.kept (grown_bel hb3 none) (Classical.em _)
          have hR3 := hR.on bV
          have HRW3 := Lib.hid (show ∀ e ∈ es, Row (w2.alloc (.cells #[.int .i64 K, .string N, .slice A Z.length c] 39)) 2 e.A e.z e.g from fun e he => (HRW.out e he).on hb3)
          have bV2 := (Below.refl (w2.alloc (.cells #[.int .i64 K, .string N, .slice A Z.length c] 39)).heap.size (w2.alloc (.cells #[.int .i64 K, .string N, .slice A Z.length c] 39))).alloc (Nat.le_refl _) (.cells #[.int .i64 K, .string N, .slice A Z.length c] 39)
          have hW4 := bel_step hW3 bV2
          have hown4 := hown3.kept (grown_bel bV2 none) (Classical.em _)
          have hstr4 := hstr3.kept (grown_bel bV2 none) (Classical.em _)
          have hR4 := hR3.on bV2
          have HRW4 := Lib.hid (show ∀ e ∈ es, Row ((w2.alloc (.cells #[.int .i64 K, .string N, .slice A Z.length c] 39)).alloc (.cells #[.int .i64 K, .string N, .slice A Z.length c] 39)) 2 e.A e.z e.g from fun e he => (HRW3.out e he).on bV2)
          have hRd : Reads ((w2.alloc (.cells #[.int .i64 K, .string N, .slice A Z.length c] 39)).alloc (.cells #[.int .i64 K, .string N, .slice A Z.length c] 39)) (w2.heap.size + 1 + 1) 3 (some ⟨w2.heap.size + 1, 0, none⟩) 1 [.int .i64 K, .string N, .slice A Z.length c] := by
            have hh := reads_new3 (w2.alloc (.cells #[.int .i64 K, .string N, .slice A Z.length c] 39)) 39 (.int .i64 K) (.string N) (.slice A Z.length c)
            rwa [World.size_alloc] at hh
          have hs4 : w.heap.size ≤ ((w2.alloc (.cells #[.int .i64 K, .string N, .slice A Z.length c] 39)).alloc (.cells #[.int .i64 K, .string N, .slice A Z.length c] 39)).heap.size := hW4.size
          clear hown hstr hR hb2 hW2 D bV hb3 hW3 hown3 hstr3 hR3 HRW3 bV2
          go_wp2_with (at_builtin; refine wpList_append_any _ rfl (.tmp 37) (.tmp 39) 47 rfl w.heap.size 39 i0 _ 3 48 Tryd.underlying47 hi0 hz0 hz1 hz2 rfl (by decide) _ _ (deCs es) rfl hown4 _ (some ⟨w2.heap.size + 1, 0, none⟩) 1 1 [.int .i64 K, .string N, .slice A Z.length c] rfl hRd (by simp [Value.oneCell']) (by simp only [maxLen]; omega) (by omega) hs4 ?_; intro v6 w6 hown6 hg6 hat6)
          have hW6 : Below w.heap.size w w6 := hW4.grown hg6 hs4 (fun x hx => (hown4.lt x hx).1)
          have hstr6 := hstr4.kept hg6 (own_ne hstr4 hown4 (by decide))
          have hR6 := hR4.kept hg6 (row_own_ne hown4 hR4 (by decide))
          have HRW6 := Lib.hid (show ∀ e ∈ es, Row w6 2 e.A e.z e.g from fun e he => (HRW4.out e he).kept hg6 (row_own_ne hown4 (HRW4.out e he) (by decide)))
          rw [deCs_push es ⟨K, N, Z, A, c, g⟩] at hown6
          go_roundw
          case rel =>
            refine ⟨es ++ [⟨K, N, Z, A, c, g⟩], by simp; omega, by simp; omega, by simp, fun j hj => ?_, fun e he => ?_, by simpa using hown6, fun e he => ?_, hstr6, hW6⟩
            · rw [dex_push]
              by_cases e : j = es.length
              · subst e
                rw [if_pos rfl, HPP.out]; rfl
              · rw [if_neg e]; exact HD.out j (by simp at hj; omega)
            · rcases List.mem_append.1 he with he | he
              · exact HZ6.out e he
              · obtain rfl : e = ⟨K, N, Z, A, c, g⟩ := by simpa using he
                exact hz6
            · rcases List.mem_append.1 he with he | he
              · exact HRW6.out e he
              · obtain rfl : e = ⟨K, N, Z, A, c, g⟩ := by simpa using he
                exact hR6
          case measure => simp [intOf]; omega
    · have hn : es.length = ts.length := by omega
      have hmap : es.map DE.d = (spl 59 (bl s)).map specReadD := by
        rw [← HTS.out]
        apply List.ext_getElem
        · simp [hn]
        · intro j h1 h2
          have h3 : j < es.length := by simpa using h1
          have h4 : j < ts.length := by omega
          have := HD.out j h3
          rw [dex_eq es j h3, sx_eq ts j h4] at this
          simpa using this
      have hall : batB (bl s) = true := by
        unfold batB
        have hsl : (spl 59 (bl s)).length = ts.length := by rw [← HTS.out, List.length_map]
        rw [decide_eq_true (by omega), Bool.true_and, List.all_eq_true]
        intro t ht
        have hm := List.mem_map_of_mem (f := specReadD) ht
        rw [← hmap] at hm
        obtain ⟨e, _, he⟩ := List.mem_map.1 hm
        rw [← he]; rfl
      have HF := Lib.hid (show P = (es.map DE.d, true) by rw [← HP.out, readB_yes H0.out hall, hmap])
      obtain ⟨A2, c2, hv2, hDs⟩ := deeds_of_own hown HRW.out HZ6.out rfl
      cases hv2
      have HDs := Lib.hid hDs
      have hdec2 : decide (es.length < ts.length) = false := by simp; omega
      have hdec : decide ((es.length : Int) < (ts.length : Int)) = false := by simp; omega
      clear hn hmap hall hDs hown hstr
      go_wp2
      go_ret2
      rw [HF.out]
      exact ⟨Ao, co, by rw [List.length_map]; rfl, HDs.out, hbel⟩
end Go.Proofs.YtkjpaafmolikoabDoor
