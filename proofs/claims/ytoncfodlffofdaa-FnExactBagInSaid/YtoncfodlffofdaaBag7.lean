/- The contract of the model's l2With: in an own bag, n more of a row; what lay below has not turned. For bags and rows of at most 2^40. -/
import Derived.Test.YtoncfodlffofdaaBag6
namespace Go.Proofs.Ytoncfodlffofdaa
open Go.RowKit

/-- What it leaves: an own bag that reads as told. -/
def OwnBag (lo : Nat) (bag : List (List Int × Int)) (w : World) (e : Ending) (w' : World) : Prop :=
  ∃ g cap es, e = .returned (.slice (some ⟨g, 0, none⟩) es.length cap) ∧ OB w' lo g cap es ∧ es.map Ent.pair = bag ∧ Below lo w w'

set_option maxRecDepth 100000 in
set_option maxHeartbeats 4000000 in
theorem l2With_any (lo g cap : Nat) (es : List Ent) (A' : Option Addr) (c' : Nat) (row : List Int) (n : Int) (w : World) (hlo : lo ≤ w.heap.size) (hO : OB w lo g cap es) (hI : Ints w w.heap.size A' row) (hl : es.length ≤ 549755813888) (hr : row.length ≤ 1099511627776) (hle : ∀ e ∈ es, e.r.length ≤ 1099511627776) :
    Calls Try.prog 102 #[.slice (some ⟨g, 0, none⟩) es.length cap, .slice A' row.length c', .int .i64 n] w (OwnBag lo (withL (es.map Ent.pair) row n) w) := by
  obtain ⟨i0, hi0, hz0, hz1, hz2⟩ := info_parts info_count
  have hB := OBag.bag hO hle
  have hlen : (es.map Ent.pair).length = es.length := List.length_map _
  have HLen := Lib.hid hlen
  have HLE := Lib.hid hle
  clear hlen hle
  go_enter Try.func102, Try.ntmps102
  go_wp2
  go_loopw [7] (fun i wr => ∃ k : Nat, k ≤ es.length ∧ i = .int .i64 k ∧ placeL (es.map Ent.pair) row = k + placeL ((es.map Ent.pair).drop k) row ∧ ∃ n, wr = w.drewN n) (fun i _ => es.length - (intOf i).toNat)
  case atStart => exact ⟨0, Nat.zero_le _, rfl, by simp, 0, rfl⟩
  case round =>
    obtain ⟨k, hk, rfl, hp, hW⟩ := hrel
    have hOr : OB wr lo g cap es := by obtain ⟨m, rfl⟩ := hW; exact hO
    have hIr : Ints wr wr.heap.size A' row := by obtain ⟨m, rfl⟩ := hW; exact hI
    have hBr : Bag wr wr.heap.size (some ⟨g, 0, none⟩) (es.map Ent.pair) := by obtain ⟨m, rfl⟩ := hW; exact hB
    have HP := Lib.hid hp
    have HW := Lib.hid hW
    clear hp hW hO hI hB
    by_cases hlt : k < es.length
    · obtain ⟨b, off, hbb, _, hc⟩ := hBr (by have := HLen.out; omega)
      obtain ⟨rfl, rfl⟩ : g = b ∧ 0 = off := by simpa using hbb
      obtain ⟨Ar, cr, h1, h2, h3, h4⟩ := hc k (by have := HLen.out; omega)
      clear hc hbb hBr
      simp only [Nat.zero_add] at h1 h2
      go_wp2_with fail
      refine (specRowLess_any Ar A' cr c' (rx (es.map Ent.pair) k) row wr _ _ h3 hIr h4 hr).mono ?_
      rintro e w1 ⟨rfl, n1, hw1⟩
      have hO1 : OB w1 lo g cap es := by rw [hw1]; exact hOr
      have hI1 : Ints w1 w1.heap.size A' row := by rw [hw1]; exact hIr
      have h31 : Ints w1 w1.heap.size Ar (rx (es.map Ent.pair) k) := by rw [hw1]; exact h3
      have h21 : w1.cell? ⟨g, k * 2 + 1, none⟩ = some (.int .i64 (nx (es.map Ent.pair) k)) := by rw [hw1]; exact h2
      have HW1 := Lib.hid (show ∃ n, w1 = w.drewN n by rw [hw1]; exact drew_more HW.out n1)
      have h11 : w1.cell? ⟨g, k * 2, none⟩ = some (.slice Ar (rx (es.map Ent.pair) k).length cr) := by rw [hw1]; exact h1
      clear hw1 h1 h2 h3 hOr hIr HW
      cases hls : lessB (rx (es.map Ent.pair) k) row with
      | true =>
        have HL := Lib.hid hls
        clear hls
        go_wp2
        go_roundw
        case rel => exact ⟨k + 1, by omega, by go_num, by rw [HP.out, place_yes (by have := HLen.out; omega) HL.out]; omega, HW1.out⟩
        case measure => simp [intOf]; omega
      | false =>
        have hpk : placeL (es.map Ent.pair) row = k := by rw [HP.out, place_no (by have := HLen.out; omega) hls]; rfl
        have HK := Lib.hid hpk
        clear hls hpk
        go_wp2_with fail
        refine (l1Same_any Ar A' cr c' (rx (es.map Ent.pair) k) row w1 _ _ h31 hI1 h4 hr).mono ?_
        rintro e wd ⟨rfl, n2, hw2⟩
        have hOd : OB wd lo g cap es := by rw [hw2]; exact hO1
        have hId : Ints wd wd.heap.size A' row := by rw [hw2]; exact hI1
        have h2d : wd.cell? ⟨g, k * 2 + 1, none⟩ = some (.int .i64 (nx (es.map Ent.pair) k)) := by rw [hw2]; exact h21
        have hbd : Below lo w wd := by obtain ⟨m, hm⟩ := HW1.out; rw [hw2, hm]; exact bel_drewN (bel_drewN (Below.refl _ _) m) n2
        have hlod : lo ≤ wd.heap.size := Nat.le_trans hlo hbd.size
        clear hw2 hO1 hI1 h31 h21 h11 HW1
        have hkl : k < (es.map Ent.pair).length := by have := HLen.out; omega
        by_cases he : rx (es.map Ent.pair) k = row
        · rw [decide_eq_true he]
          have HE := Lib.hid he
          clear he
          have hOs := hOd.setN hlt (addW (nx (es.map Ent.pair) k) n)
          obtain ⟨cur, hBk, _⟩ := hOd.blk
          have hfz := hBk.frozen (k * 2 + 1)
          have hps := pair_setN hlt (addW (nx (es.map Ent.pair) k) n)
          have HPS := Lib.hid hps
          clear hBk hps
          have hbs : Below lo w (wd.setCell ⟨g, k * 2 + 1, none⟩ (.int .i64 (addW (nx (es.map Ent.pair) k) n))) := hbd.setCell (p := ⟨g, k * 2 + 1, none⟩) hOd.lt.1 _
          have hcs : (wd.setCell ⟨g, k * 2 + 1, none⟩ (.int .i64 (addW (nx (es.map Ent.pair) k) n))).cell? ⟨g, k * 2 + 1, none⟩ = some (.int .i64 (addW (nx (es.map Ent.pair) k) n)) := World.cell?_setCell_same' _ _ _ (by rw [h2d]; rfl)
          have hadd : IntKind.i64.wrap (nx (es.map Ent.pair) k + n) = addW (nx (es.map Ent.pair) k) n := rfl
          by_cases h0 : addW (nx (es.map Ent.pair) k) n = 0
          · obtain ⟨k1, hk1⟩ : ∃ k1 : Nat, k1 = k + 1 := ⟨_, rfl⟩
            have hwr : IntKind.i64.wrap ((k : Int) + 1) = (k1 : Int) := by rw [IntKind.wrap_i64]; omega
            have hec := hOd.parts.choose_spec.2.2.1
            have hk1n : (k1 : Int) ≤ (es.length : Int) := by omega
            have hk1z : (0 : Int) ≤ (k1 : Int) := by omega
            have hec' : (es.length : Int) ≤ (cap : Int) := by omega
            have hkz : (0 : Int) ≤ (k : Int) := by omega
            have hkc : (k : Int) ≤ (cap : Int) := by omega
            have hk1c : (k1 : Int) ≤ (cap : Int) := by omega
            have HK1 := Lib.hid hk1
            have H0 := Lib.hid h0
            have hz : (addW (nx (es.map Ent.pair) k) n == 0) = true := by simpa using h0
            have hT := hOs.take (k := k) (by rw [List.length_set]; omega)
            have hRd := hOs.readsFrom (k := k1) (by rw [List.length_set]; omega)
            rw [List.length_set] at hRd
            clear h0 hk1
            go_wp2_with fail
            have hsub : ((es.set k { es[k] with n := addW (nx (es.map Ent.pair) k) n }).take k ++ (es.set k { es[k] with n := addW (nx (es.map Ent.pair) k) n }).drop k1).Sublist (es.set k { es[k] with n := addW (nx (es.map Ent.pair) k) n }) := by
              have h1 : ((es.set k { es[k] with n := addW (nx (es.map Ent.pair) k) n }).drop k1).Sublist ((es.set k { es[k] with n := addW (nx (es.map Ent.pair) k) n }).drop k) := List.drop_sublist_drop_left _ (by have := HK1.out; omega)
              have h2 := (List.Sublist.refl ((es.set k { es[k] with n := addW (nx (es.map Ent.pair) k) n }).take k)).append h1
              rwa [List.take_append_drop] at h2
            have hpair : ((es.set k { es[k] with n := addW (nx (es.map Ent.pair) k) n }).take k ++ (es.set k { es[k] with n := addW (nx (es.map Ent.pair) k) n }).drop k1).map Ent.pair = withL (es.map Ent.pair) row n := by
              rw [withL_gone HK.out hkl HE.out H0.out, HK1.out, List.map_append, List.map_take, List.map_drop, HPS.out]
              have hkk : k ≤ (es.map Ent.pair).length := by omega
              rw [List.take_append_of_le_length (by rw [List.length_take]; omega), List.take_take, Nat.min_self, List.drop_append, List.drop_of_length_le (by rw [List.length_take]; omega), List.length_take, Nat.min_eq_left hkk, show k + 1 - k = 1 by omega]
              rfl
            have hfl : (es.set k { es[k] with n := addW (nx (es.map Ent.pair) k) n }).length = es.length := List.length_set
            have HSub := Lib.hid hsub
            have HPair := Lib.hid hpair
            have HFl := Lib.hid hfl
            clear hsub hpair hfl HPS hcs h2d hfz
            generalize es.set k { es[k] with n := addW (nx (es.map Ent.pair) k) n } = fs at *
            have hlos : lo ≤ (wd.setCell ⟨g, k * 2 + 1, none⟩ (.int .i64 (addW (nx (es.map Ent.pair) k) n))).heap.size := Nat.le_trans hlo hbs.size
            generalize wd.setCell ⟨g, k * 2 + 1, none⟩ (.int .i64 (addW (nx (es.map Ent.pair) k) n)) = ws at *
            have hgs := hOs.lt
            go_region_held3 (fun _ => True) (exact trivial)
              (first | (refine step_append_any _ rfl (.tmp 56) (.tmp 60) 24 (by rfl) lo 34 i0 _ 2 32 Try.underlying24 hi0 hz0 hz1 hz2 rfl (by omega) _ _ (entCells (fs.take k)) (by rfl) (by exact hT) _ _ (es.length - k1) _ (entCells (fs.drop k1)) (by rfl) (by exact hRd) (entCells_one _) (by simp only [maxLen]; omega) (by omega) (by exact hlos) ?_; intro v6 w6 hown6 hg6 hat6))
            all_goals
              have hO6 : OBag w6 lo v6 (fs.take k ++ fs.drop k1) := OBag.regrow (w := ws.drew) hOs HSub.out hg6 (by rw [entCells_append, List.length_append, List.length_take, List.length_drop, HFl.out, Nat.min_eq_left hk]; exact hown6) hat6
              have hb6 : Below lo w w6 := (bel_drewN hbs 1).grown hg6 (by exact hlos) (fun r e => by have : g = r := Option.some.inj e; omega)
              obtain ⟨g6, hg6'⟩ : ∃ g6, v6.ownBlock = some g6 := by
                rcases hat6 with h | h
                · exact ⟨g, h⟩
                · exact ⟨_, h⟩
              obtain ⟨cap6, hv6, hOB⟩ := hO6.ob hg6'
              have HV := Lib.hid hv6
              clear hv6 hg6' hg6 hat6 hown6 hO6 hT hRd
              go_wp2
              all_goals
                go_ret
                exact ⟨g6, cap6, _, (by rw [HV.out]; rfl), hOB, HPair.out, hb6⟩
          · have hz : (addW (nx (es.map Ent.pair) k) n == 0) = false := by simpa using h0
            have H0 := Lib.hid h0
            clear h0
            go_wp2
            go_ret
            refine ⟨g, cap, _, (by show Ending.returned (.slice (some ⟨g, 0, none⟩) es.length cap) = _; rw [List.length_set]), hOs, ?_, hbs⟩
            rw [HPS.out, withL_same HK.out hkl HE.out H0.out, HE.out]
        · rw [decide_eq_false he]
          have HE := Lib.hid (show ¬ (k < (es.map Ent.pair).length ∧ rx (es.map Ent.pair) k = row) from fun h => he h.2)
          clear he
          by_cases h0 : n = 0
          · have hz : (n == 0) = true := by simpa using h0
            have H0 := Lib.hid h0
            clear h0
            go_wp2
            go_ret
            exact ⟨g, cap, es, rfl, hOd, (withL_none HK.out HE.out H0.out).symm, hbd⟩
          · have hz : (n == 0) = false := by simpa using h0
            have H0 := Lib.hid h0
            clear h0
            obtain ⟨_, _, _, hec, _⟩ := hOd.parts
            have hck : ¬ cap = k := by omega
            have hRk := hOd.readsFrom (k := k) hk
            rw [if_neg hck] at hRk
            clear h2d
            have hki0 : (0 : Int) ≤ (k : Int) := Int.natCast_nonneg _
            have hki1 : (k : Int) ≤ (es.length : Int) := by omega
            have hki2 : (k : Int) ≤ (cap : Int) := by omega
            have hEk : es.length - k + k = es.length := by omega
            have hE := empty_counts wd
            have hRk1 := (hRk.more (B' := wd.heap.size) (by have := hOd.lt; omega)).alloc (Nat.le_refl _) (.cells #[] 34)
            go_wp2_with (at_builtin; refine wpList_append_any _ rfl (.tmp 66) (.tmp 69) 24 rfl wd.heap.size 34 i0 _ 2 32 Try.underlying24 hi0 hz0 hz1 hz2 rfl (by decide) _ _ _ rfl hE _ _ _ _ (entCells (es.drop k)) rfl hRk1 (entCells_one _) (by simp only [maxLen]; omega) (by omega) (by simp) ?_; intro v8 w8 hown8 hg8 hat8)
            simp only [Nat.zero_add, List.nil_append] at hown8
            have hb8 : Below wd.heap.size wd w8 := ((Below.refl wd.heap.size wd).alloc (Nat.le_refl _) _).grown hg8 (by simp) (fun r e => by have : wd.heap.size = r := Option.some.inj e; omega)
            have hO8 : OB w8 lo g cap es := OBag.on hOd hb8
            have hI8 := hId.on hb8
            have hin8 := OBag.inside hOd
            have hbd8 : Below lo w w8 := hbd.trans (hb8.mono hlod)
            have hgd := hOd.lt
            obtain ⟨A8, c8, rfl⟩ := own_form hown8
            have hs8 := hb8.size
            clear hg8 hat8 hRk1 hRk hE hOd hId hbd hb8
            go_region_held3 (fun _ => True) (exact trivial)
              (first | (refine step_append_any _ rfl (.tmp 79) (.tmp 80) 24 (by rfl) lo 34 i0 _ 2 32 Try.underlying24 hi0 hz0 hz1 hz2 rfl (by omega) _ _ _ (by rfl) hownA _ A8 (es.length - k) c8 (entCells (es.drop k)) (by rfl) (Reads.of_own hown8A) (entCells_one _) (by simp only [maxLen]; omega) (by omega) (by omega) ?_; intro v6 w6 hown6 hg6 hat6) | (refine step_append_any _ rfl (.tmp 73) (.tmp 78) 24 (by rfl) lo 34 i0 _ 2 32 Try.underlying24 hi0 hz0 hz1 hz2 rfl (by omega) _ _ (entCells (es.take k)) (by rfl) ((OB.take hO9 hk).alloc _) _ (some ⟨w9.heap.size, 0, none⟩) 1 1 [.slice A9 row.length cap9, .int .i64 n] (by rfl) (reads_new2 w9 _ _ _) (by simp [Value.oneCell']) (by simp only [maxLen]; omega) (by omega) (by rw [World.size_alloc]; omega) ?_; intro va wa hownA hgA hatA; have hsA : w9.heap.size + 1 ≤ wa.heap.size := (by have := hgA.size; rw [World.size_alloc] at this; exact this); have hown8A := (hown89.alloc (.cells #[.slice A9 row.length cap9, .int .i64 n] 34)).kept hgA (.inr (fun e => by have h1 := (hown89.lt g e).1; omega)); have hbdA : Below lo w wa := (hbd9.alloc (by omega) _).grown hgA (by rw [World.size_alloc]; omega) (fun r e => by have : g = r := Option.some.inj e; omega)) | (go_at_call 129; refine (l1Row_row A' c' row _ (by exact hI8) hr).mono ?_; rintro e w9 ⟨A9, cap9, g9, rfl, hg9, hR9, hb9⟩; have hs9 : w8.heap.size ≤ w9.heap.size := hb9.size; have hO9 : OB w9 lo g cap es := OBag.on (OBag.drewN hO8 1) hb9; have hown89 : w9.ownsRow wd.heap.size 34 2 (.slice A8 (es.length - k) c8) (es.length - k) (entCells (es.drop k)) := own_keepB hown8 (fun r e => hb9.block r (hown8.lt r e).2); have hbd9 : Below lo w w9 := (bel_drewN hbd8 1).trans (hb9.mono (show lo ≤ w8.heap.size by omega))))
            have hin9 : ∀ e ∈ es, 0 < e.r.length → e.g < w8.heap.size := fun e he hn => by have := hin8.2 e he hn; omega
            obtain ⟨g6, cap6, hv6, hO6⟩ := OB.insert hO9 hk hR9 hg9 (show g < w8.heap.size by omega) hin9 hgA hatA hg6 hat6 hown6
            have hb6 : Below lo w w6 := hbdA.grown hg6 (by omega) (fun r e => (hownA.lt r e).1)
            have HV := Lib.hid hv6
            clear hv6 hgA hatA hg6 hat6 hown6 hownA hO9 hR9 hbdA hown8A hown89 hb9 hO8 hown8 hI8 hbd8 hbd9 hin8 hin9 hg9
            go_wp2
            go_ret
            exact ⟨g6, cap6, _, (by rw [HV.out]; rfl), hO6, by rw [withL_new HK.out HE.out H0.out]; simp [Ent.pair], hb6⟩
    · have hd : decide (k < es.length) = false := by simpa using hlt
      have hpk : placeL (es.map Ent.pair) row = k := by rw [HP.out, place_end (by have := HLen.out; omega)]; rfl
      have HK := Lib.hid hpk
      have HE := Lib.hid (show ¬ (k < (es.map Ent.pair).length ∧ rx (es.map Ent.pair) k = row) from fun h => by have := HLen.out; have := h.1; omega)
      have hbd : Below lo w wr := by obtain ⟨m, hm⟩ := HW.out; rw [hm]; exact bel_drewN (Below.refl _ _) m
      have hlod : lo ≤ wr.heap.size := Nat.le_trans hlo hbd.size
      have hOd := hOr
      have hId := hIr
      clear hpk hOr hIr HW
      obtain ⟨wd, hwd⟩ : ∃ wd, wd = wr := ⟨_, rfl⟩
      subst hwd
      by_cases h0 : n = 0
      · have hz : (n == 0) = true := by simpa using h0
        have H0 := Lib.hid h0
        clear h0
        go_wp2
        go_ret
        exact ⟨g, cap, es, rfl, hOd, (withL_none HK.out HE.out H0.out).symm, hbd⟩
      · have hz : (n == 0) = false := by simpa using h0
        have H0 := Lib.hid h0
        clear h0
        obtain ⟨_, _, _, hec, _⟩ := hOd.parts
        have hRk := hOd.readsFrom (k := k) hk
        by_cases hck : cap = k
        · rw [if_pos hck] at hRk
          have hck' : k = cap := hck.symm
          clear hck hlt
          subst hck'
          clear hec
          have hki0 : (0 : Int) ≤ (k : Int) := Int.natCast_nonneg _
          have hki1 : (k : Int) ≤ (es.length : Int) := by omega
          have hki2 : (k : Int) ≤ (k : Int) := by omega
          have hEk : es.length - k + k = es.length := by omega
          have hE := empty_counts wd
          have hRk1 := (hRk.more (B' := wd.heap.size) (by have := hOd.lt; omega)).alloc (Nat.le_refl _) (.cells #[] 34)
          go_wp2_with (at_builtin; refine wpList_append_any _ rfl (.tmp 66) (.tmp 69) 24 rfl wd.heap.size 34 i0 _ 2 32 Try.underlying24 hi0 hz0 hz1 hz2 rfl (by decide) _ _ _ rfl hE _ _ _ _ (entCells (es.drop k)) rfl hRk1 (entCells_one _) (by simp only [maxLen]; omega) (by omega) (by simp) ?_; intro v8 w8 hown8 hg8 hat8)
          simp only [Nat.zero_add, List.nil_append] at hown8
          have hb8 : Below wd.heap.size wd w8 := ((Below.refl wd.heap.size wd).alloc (Nat.le_refl _) _).grown hg8 (by simp) (fun r e => by have : wd.heap.size = r := Option.some.inj e; omega)
          have hO8 : OB w8 lo g k es := OBag.on hOd hb8
          have hI8 := hId.on hb8
          have hin8 := OBag.inside hOd
          have hbd8 : Below lo w w8 := hbd.trans (hb8.mono hlod)
          have hgd := hOd.lt
          obtain ⟨A8, c8, rfl⟩ := own_form hown8
          have hs8 := hb8.size
          clear hg8 hat8 hRk1 hRk hE hOd hId hbd hb8
          go_region_held3 (fun _ => True) (exact trivial)
            (first | (refine step_append_any _ rfl (.tmp 79) (.tmp 80) 24 (by rfl) lo 34 i0 _ 2 32 Try.underlying24 hi0 hz0 hz1 hz2 rfl (by omega) _ _ _ (by rfl) hownA _ A8 (es.length - k) c8 (entCells (es.drop k)) (by rfl) (Reads.of_own hown8A) (entCells_one _) (by simp only [maxLen]; omega) (by omega) (by omega) ?_; intro v6 w6 hown6 hg6 hat6) | (refine step_append_any _ rfl (.tmp 73) (.tmp 78) 24 (by rfl) lo 34 i0 _ 2 32 Try.underlying24 hi0 hz0 hz1 hz2 rfl (by omega) _ _ (entCells (es.take k)) (by rfl) ((OB.take hO9 hk).alloc _) _ (some ⟨w9.heap.size, 0, none⟩) 1 1 [.slice A9 row.length cap9, .int .i64 n] (by rfl) (reads_new2 w9 _ _ _) (by simp [Value.oneCell']) (by simp only [maxLen]; omega) (by omega) (by rw [World.size_alloc]; omega) ?_; intro va wa hownA hgA hatA; have hsA : w9.heap.size + 1 ≤ wa.heap.size := (by have := hgA.size; rw [World.size_alloc] at this; exact this); have hown8A := (hown89.alloc (.cells #[.slice A9 row.length cap9, .int .i64 n] 34)).kept hgA (.inr (fun e => by have h1 := (hown89.lt g e).1; omega)); have hbdA : Below lo w wa := (hbd9.alloc (by omega) _).grown hgA (by rw [World.size_alloc]; omega) (fun r e => by have : g = r := Option.some.inj e; omega)) | (go_at_call 129; refine (l1Row_row A' c' row _ (by exact hI8) hr).mono ?_; rintro e w9 ⟨A9, cap9, g9, rfl, hg9, hR9, hb9⟩; have hs9 : w8.heap.size ≤ w9.heap.size := hb9.size; have hO9 : OB w9 lo g k es := OBag.on (OBag.drewN hO8 1) hb9; have hown89 : w9.ownsRow wd.heap.size 34 2 (.slice A8 (es.length - k) c8) (es.length - k) (entCells (es.drop k)) := own_keepB hown8 (fun r e => hb9.block r (hown8.lt r e).2); have hbd9 : Below lo w w9 := (bel_drewN hbd8 1).trans (hb9.mono (show lo ≤ w8.heap.size by omega))))
          have hin9 : ∀ e ∈ es, 0 < e.r.length → e.g < w8.heap.size := fun e he hn => by have := hin8.2 e he hn; omega
          obtain ⟨g6, cap6, hv6, hO6⟩ := OB.insert hO9 hk hR9 hg9 (show g < w8.heap.size by omega) hin9 hgA hatA hg6 hat6 hown6
          have hb6 : Below lo w w6 := hbdA.grown hg6 (by omega) (fun r e => (hownA.lt r e).1)
          have HV := Lib.hid hv6
          clear hv6 hgA hatA hg6 hat6 hown6 hownA hO9 hR9 hbdA hown8A hown89 hb9 hO8 hown8 hI8 hbd8 hbd9 hin8 hin9 hg9
          go_wp2
          go_ret
          exact ⟨g6, cap6, _, (by rw [HV.out]; rfl), hO6, by rw [withL_new HK.out HE.out H0.out]; simp [Ent.pair], hb6⟩
        · rw [if_neg hck] at hRk
          have hki0 : (0 : Int) ≤ (k : Int) := Int.natCast_nonneg _
          have hki1 : (k : Int) ≤ (es.length : Int) := by omega
          have hki2 : (k : Int) ≤ (cap : Int) := by omega
          have hEk : es.length - k + k = es.length := by omega
          have hE := empty_counts wd
          have hRk1 := (hRk.more (B' := wd.heap.size) (by have := hOd.lt; omega)).alloc (Nat.le_refl _) (.cells #[] 34)
          go_wp2_with (at_builtin; refine wpList_append_any _ rfl (.tmp 66) (.tmp 69) 24 rfl wd.heap.size 34 i0 _ 2 32 Try.underlying24 hi0 hz0 hz1 hz2 rfl (by decide) _ _ _ rfl hE _ _ _ _ (entCells (es.drop k)) rfl hRk1 (entCells_one _) (by simp only [maxLen]; omega) (by omega) (by simp) ?_; intro v8 w8 hown8 hg8 hat8)
          simp only [Nat.zero_add, List.nil_append] at hown8
          have hb8 : Below wd.heap.size wd w8 := ((Below.refl wd.heap.size wd).alloc (Nat.le_refl _) _).grown hg8 (by simp) (fun r e => by have : wd.heap.size = r := Option.some.inj e; omega)
          have hO8 : OB w8 lo g cap es := OBag.on hOd hb8
          have hI8 := hId.on hb8
          have hin8 := OBag.inside hOd
          have hbd8 : Below lo w w8 := hbd.trans (hb8.mono hlod)
          have hgd := hOd.lt
          obtain ⟨A8, c8, rfl⟩ := own_form hown8
          have hs8 := hb8.size
          clear hg8 hat8 hRk1 hRk hE hOd hId hbd hb8
          go_region_held3 (fun _ => True) (exact trivial)
            (first | (refine step_append_any _ rfl (.tmp 79) (.tmp 80) 24 (by rfl) lo 34 i0 _ 2 32 Try.underlying24 hi0 hz0 hz1 hz2 rfl (by omega) _ _ _ (by rfl) hownA _ A8 (es.length - k) c8 (entCells (es.drop k)) (by rfl) (Reads.of_own hown8A) (entCells_one _) (by simp only [maxLen]; omega) (by omega) (by omega) ?_; intro v6 w6 hown6 hg6 hat6) | (refine step_append_any _ rfl (.tmp 73) (.tmp 78) 24 (by rfl) lo 34 i0 _ 2 32 Try.underlying24 hi0 hz0 hz1 hz2 rfl (by omega) _ _ (entCells (es.take k)) (by rfl) ((OB.take hO9 hk).alloc _) _ (some ⟨w9.heap.size, 0, none⟩) 1 1 [.slice A9 row.length cap9, .int .i64 n] (by rfl) (reads_new2 w9 _ _ _) (by simp [Value.oneCell']) (by simp only [maxLen]; omega) (by omega) (by rw [World.size_alloc]; omega) ?_; intro va wa hownA hgA hatA; have hsA : w9.heap.size + 1 ≤ wa.heap.size := (by have := hgA.size; rw [World.size_alloc] at this; exact this); have hown8A := (hown89.alloc (.cells #[.slice A9 row.length cap9, .int .i64 n] 34)).kept hgA (.inr (fun e => by have h1 := (hown89.lt g e).1; omega)); have hbdA : Below lo w wa := (hbd9.alloc (by omega) _).grown hgA (by rw [World.size_alloc]; omega) (fun r e => by have : g = r := Option.some.inj e; omega)) | (go_at_call 129; refine (l1Row_row A' c' row _ (by exact hI8) hr).mono ?_; rintro e w9 ⟨A9, cap9, g9, rfl, hg9, hR9, hb9⟩; have hs9 : w8.heap.size ≤ w9.heap.size := hb9.size; have hO9 : OB w9 lo g cap es := OBag.on (OBag.drewN hO8 1) hb9; have hown89 : w9.ownsRow wd.heap.size 34 2 (.slice A8 (es.length - k) c8) (es.length - k) (entCells (es.drop k)) := own_keepB hown8 (fun r e => hb9.block r (hown8.lt r e).2); have hbd9 : Below lo w w9 := (bel_drewN hbd8 1).trans (hb9.mono (show lo ≤ w8.heap.size by omega))))
          have hin9 : ∀ e ∈ es, 0 < e.r.length → e.g < w8.heap.size := fun e he hn => by have := hin8.2 e he hn; omega
          obtain ⟨g6, cap6, hv6, hO6⟩ := OB.insert hO9 hk hR9 hg9 (show g < w8.heap.size by omega) hin9 hgA hatA hg6 hat6 hown6
          have hb6 : Below lo w w6 := hbdA.grown hg6 (by omega) (fun r e => (hownA.lt r e).1)
          have HV := Lib.hid hv6
          clear hv6 hgA hatA hg6 hat6 hown6 hownA hO9 hR9 hbdA hown8A hown89 hb9 hO8 hown8 hI8 hbd8 hbd9 hin8 hin9 hg9
          go_wp2
          go_ret
          exact ⟨g6, cap6, _, (by rw [HV.out]; rfl), hO6, by rw [withL_new HK.out HE.out H0.out]; simp [Ent.pair], hb6⟩
end Go.Proofs.Ytoncfodlffofdaa
