/- Texts joined: Bag7, BagCopy, BagOf1, TabThy2, TabI2, Tab6: contracts and plain facts; each says its own below. -/
import Derived.Test.YtcfnbpofbcendabJB
import Derived.Test.YtcfnbpofbcendabJC
/- The contract of the model's l2With: in an own bag, n more of a row; what lay below has not turned. For bags and rows of at most 2^40. -/
namespace Go.Proofs.Ytcfnbpofbcendab
open Go.RowKit

/-- What it leaves: an own bag that reads as told. -/
def OwnBag (lo : Nat) (bag : List (List Int × Int)) (w : World) (e : Ending) (w' : World) : Prop :=
  ∃ g cap es, e = .returned (.slice (some ⟨g, 0, none⟩) es.length cap) ∧ OB w' lo g cap es ∧ es.map Ent.pair = bag ∧ Below lo w w'

set_option maxRecDepth 100000 in
set_option maxHeartbeats 4000000 in
theorem l2With_any (lo g cap : Nat) (es : List Ent) (A' : Option Addr) (c' : Nat) (row : List Int) (n : Int) (w : World) (hlo : lo ≤ w.heap.size) (hO : OB w lo g cap es) (hI : Ints w w.heap.size A' row) (hl : es.length ≤ 549755813888) (hr : row.length ≤ 1099511627776) (hle : ∀ e ∈ es, e.r.length ≤ 1099511627776) :
    Calls Try.prog 29 #[.slice (some ⟨g, 0, none⟩) es.length cap, .slice A' row.length c', .int .i64 n] w (OwnBag lo (withL (es.map Ent.pair) row n) w) := by
  obtain ⟨i0, hi0, hz0, hz1, hz2⟩ := info_parts info_count
  have hB := OBag.bag hO hle
  have hlen : (es.map Ent.pair).length = es.length := List.length_map _
  have HLen := Lib.hid hlen
  have HLE := Lib.hid hle
  clear hlen hle
  go_enter Try.func29, Try.ntmps29
  go_wp2
  go_loopw [7] (fun i wr => ∃ k : Nat, k ≤ es.length ∧ i = .int .i64 k ∧ placeL (es.map Ent.pair) row = k + placeL ((es.map Ent.pair).drop k) row ∧ ∃ n, wr = w.drewN n) (fun i _ => es.length - (intOf i).toNat)
  case atStart => exact ⟨0, Nat.zero_le _, rfl, by simp, 0, rfl⟩
  case round =>
    obtain ⟨k, hk, rfl, hp, hW⟩ := hrel
    have hOr : OB wr lo g cap es := by obtain ⟨m, rfl⟩ := hW; exact hO
    have hIr : Ints wr wr.heap.size A' row := by obtain ⟨m, rfl⟩ := hW; exact hI
    have hBr : Bag wr wr.heap.size (some ⟨g, 0, none⟩) (es.map Ent.pair) := by obtain ⟨m, rfl⟩ := hW; exact hB
    have HP := Lib.hid hp
    have HW := Lib.hid hW
    clear hp hW hO hI hB
    by_cases hlt : k < es.length
    · obtain ⟨b, off, hbb, _, hc⟩ := hBr (by have := HLen.out; omega)
      obtain ⟨rfl, rfl⟩ : g = b ∧ 0 = off := by simpa using hbb
      obtain ⟨Ar, cr, h1, h2, h3, h4⟩ := hc k (by have := HLen.out; omega)
      clear hc hbb hBr
      simp only [Nat.zero_add] at h1 h2
      go_wp2_with fail
      refine (specRowLess_any Ar A' cr c' (rx (es.map Ent.pair) k) row wr _ _ h3 hIr h4 hr).mono ?_
      rintro e w1 ⟨rfl, n1, hw1⟩
      have hO1 : OB w1 lo g cap es := by rw [hw1]; exact hOr
      have hI1 : Ints w1 w1.heap.size A' row := by rw [hw1]; exact hIr
      have h31 : Ints w1 w1.heap.size Ar (rx (es.map Ent.pair) k) := by rw [hw1]; exact h3
      have h21 : w1.cell? ⟨g, k * 2 + 1, none⟩ = some (.int .i64 (nx (es.map Ent.pair) k)) := by rw [hw1]; exact h2
      have HW1 := Lib.hid (show ∃ n, w1 = w.drewN n by rw [hw1]; exact drew_more HW.out n1)
      have h11 : w1.cell? ⟨g, k * 2, none⟩ = some (.slice Ar (rx (es.map Ent.pair) k).length cr) := by rw [hw1]; exact h1
      clear hw1 h1 h2 h3 hOr hIr HW
      cases hls : lessB (rx (es.map Ent.pair) k) row with
      | true =>
        have HL := Lib.hid hls
        clear hls
        go_wp2
        go_roundw
        case rel => exact ⟨k + 1, by omega, by go_num, by rw [HP.out, place_yes (by have := HLen.out; omega) HL.out]; omega, HW1.out⟩
        case measure => simp [intOf]; omega
      | false =>
        have hpk : placeL (es.map Ent.pair) row = k := by rw [HP.out, place_no (by have := HLen.out; omega) hls]; rfl
        have HK := Lib.hid hpk
        clear hls hpk
        go_wp2_with fail
        refine (l1Same_any Ar A' cr c' (rx (es.map Ent.pair) k) row w1 _ _ h31 hI1 h4 hr).mono ?_
        rintro e wd ⟨rfl, n2, hw2⟩
        have hOd : OB wd lo g cap es := by rw [hw2]; exact hO1
        have hId : Ints wd wd.heap.size A' row := by rw [hw2]; exact hI1
        have h2d : wd.cell? ⟨g, k * 2 + 1, none⟩ = some (.int .i64 (nx (es.map Ent.pair) k)) := by rw [hw2]; exact h21
        have hbd : Below lo w wd := by obtain ⟨m, hm⟩ := HW1.out; rw [hw2, hm]; exact bel_drewN (bel_drewN (Below.refl _ _) m) n2
        have hlod : lo ≤ wd.heap.size := Nat.le_trans hlo hbd.size
        clear hw2 hO1 hI1 h31 h21 h11 HW1
        have hkl : k < (es.map Ent.pair).length := by have := HLen.out; omega
        by_cases he : rx (es.map Ent.pair) k = row
        · rw [decide_eq_true he]
          have HE := Lib.hid he
          clear he
          have hOs := hOd.setN hlt (addW (nx (es.map Ent.pair) k) n)
          obtain ⟨cur, hBk, _⟩ := hOd.blk
          have hfz := hBk.frozen (k * 2 + 1)
          have hps := pair_setN hlt (addW (nx (es.map Ent.pair) k) n)
          have HPS := Lib.hid hps
          clear hBk hps
          have hbs : Below lo w (wd.setCell ⟨g, k * 2 + 1, none⟩ (.int .i64 (addW (nx (es.map Ent.pair) k) n))) := hbd.setCell (p := ⟨g, k * 2 + 1, none⟩) hOd.lt.1 _
          have hcs : (wd.setCell ⟨g, k * 2 + 1, none⟩ (.int .i64 (addW (nx (es.map Ent.pair) k) n))).cell? ⟨g, k * 2 + 1, none⟩ = some (.int .i64 (addW (nx (es.map Ent.pair) k) n)) := World.cell?_setCell_same' _ _ _ (by rw [h2d]; rfl)
          have hadd : IntKind.i64.wrap (nx (es.map Ent.pair) k + n) = addW (nx (es.map Ent.pair) k) n := rfl
          by_cases h0 : addW (nx (es.map Ent.pair) k) n = 0
          · obtain ⟨k1, hk1⟩ : ∃ k1 : Nat, k1 = k + 1 := ⟨_, rfl⟩
            have hwr : IntKind.i64.wrap ((k : Int) + 1) = (k1 : Int) := by rw [IntKind.wrap_i64]; omega
            have hec := hOd.parts.choose_spec.2.2.1
            have hk1n : (k1 : Int) ≤ (es.length : Int) := by omega
            have hk1z : (0 : Int) ≤ (k1 : Int) := by omega
            have hec' : (es.length : Int) ≤ (cap : Int) := by omega
            have hkz : (0 : Int) ≤ (k : Int) := by omega
            have hkc : (k : Int) ≤ (cap : Int) := by omega
            have hk1c : (k1 : Int) ≤ (cap : Int) := by omega
            have HK1 := Lib.hid hk1
            have H0 := Lib.hid h0
            have hz : (addW (nx (es.map Ent.pair) k) n == 0) = true := by simpa using h0
            have hT := hOs.take (k := k) (by rw [List.length_set]; omega)
            have hRd := hOs.readsFrom (k := k1) (by rw [List.length_set]; omega)
            rw [List.length_set] at hRd
            clear h0 hk1
            go_wp2_with fail
            have hsub : ((es.set k { es[k] with n := addW (nx (es.map Ent.pair) k) n }).take k ++ (es.set k { es[k] with n := addW (nx (es.map Ent.pair) k) n }).drop k1).Sublist (es.set k { es[k] with n := addW (nx (es.map Ent.pair) k) n }) := by
              have h1 : ((es.set k { es[k] with n := addW (nx (es.map Ent.pair) k) n }).drop k1).Sublist ((es.set k { es[k] with n := addW (nx (es.map Ent.pair) k) n }).drop k) := List.drop_sublist_drop_left _ (by have := HK1.out; omega)
              have h2 := (List.Sublist.refl ((es.set k { es[k] with n := addW (nx (es.map Ent.pair) k) n }).take k)).append h1
              rwa [List.take_append_drop] at h2
            have hpair : ((es.set k { es[k] with n := addW (nx (es.map Ent.pair) k) n }).take k ++ (es.set k { es[k] with n := addW (nx (es.map Ent.pair) k) n }).drop k1).map Ent.pair = withL (es.map Ent.pair) row n := by
              rw [withL_gone HK.out hkl HE.out H0.out, HK1.out, List.map_append, List.map_take, List.map_drop, HPS.out]
              have hkk : k ≤ (es.map Ent.pair).length := by omega
              rw [List.take_append_of_le_length (by rw [List.length_take]; omega), List.take_take, Nat.min_self, List.drop_append, List.drop_of_length_le (by rw [List.length_take]; omega), List.length_take, Nat.min_eq_left hkk, show k + 1 - k = 1 by omega]
              rfl
            have hfl : (es.set k { es[k] with n := addW (nx (es.map Ent.pair) k) n }).length = es.length := List.length_set
            have HSub := Lib.hid hsub
            have HPair := Lib.hid hpair
            have HFl := Lib.hid hfl
            clear hsub hpair hfl HPS hcs h2d hfz
            generalize es.set k { es[k] with n := addW (nx (es.map Ent.pair) k) n } = fs at *
            have hlos : lo ≤ (wd.setCell ⟨g, k * 2 + 1, none⟩ (.int .i64 (addW (nx (es.map Ent.pair) k) n))).heap.size := Nat.le_trans hlo hbs.size
            generalize wd.setCell ⟨g, k * 2 + 1, none⟩ (.int .i64 (addW (nx (es.map Ent.pair) k) n)) = ws at *
            have hgs := hOs.lt
            go_region_held3 (fun _ => True) (exact trivial)
              (first | (refine step_append_any _ rfl (.tmp 56) (.tmp 60) 24 (by rfl) lo 33 i0 _ 2 32 Try.underlying24 hi0 hz0 hz1 hz2 rfl (by omega) _ _ (entCells (fs.take k)) (by rfl) (by exact hT) _ _ (es.length - k1) _ (entCells (fs.drop k1)) (by rfl) (by exact hRd) (entCells_one _) (by simp only [maxLen]; omega) (by omega) (by exact hlos) ?_; intro v6 w6 hown6 hg6 hat6))
            all_goals
              have hO6 : OBag w6 lo v6 (fs.take k ++ fs.drop k1) := OBag.regrow (w := ws.drew) hOs HSub.out hg6 (by rw [entCells_append, List.length_append, List.length_take, List.length_drop, HFl.out, Nat.min_eq_left hk]; exact hown6) hat6
              have hb6 : Below lo w w6 := (bel_drewN hbs 1).grown hg6 (by exact hlos) (fun r e => by have : g = r := Option.some.inj e; omega)
              obtain ⟨g6, hg6'⟩ : ∃ g6, v6.ownBlock = some g6 := by
                rcases hat6 with h | h
                · exact ⟨g, h⟩
                · exact ⟨_, h⟩
              obtain ⟨cap6, hv6, hOB⟩ := hO6.ob hg6'
              have HV := Lib.hid hv6
              clear hv6 hg6' hg6 hat6 hown6 hO6 hT hRd
              go_wp2
              all_goals
                go_ret
                exact ⟨g6, cap6, _, (by rw [HV.out]; rfl), hOB, HPair.out, hb6⟩
          · have hz : (addW (nx (es.map Ent.pair) k) n == 0) = false := by simpa using h0
            have H0 := Lib.hid h0
            clear h0
            go_wp2
            go_ret
            refine ⟨g, cap, _, (by show Ending.returned (.slice (some ⟨g, 0, none⟩) es.length cap) = _; rw [List.length_set]), hOs, ?_, hbs⟩
            rw [HPS.out, withL_same HK.out hkl HE.out H0.out, HE.out]
        · rw [decide_eq_false he]
          have HE := Lib.hid (show ¬ (k < (es.map Ent.pair).length ∧ rx (es.map Ent.pair) k = row) from fun h => he h.2)
          clear he
          by_cases h0 : n = 0
          · have hz : (n == 0) = true := by simpa using h0
            have H0 := Lib.hid h0
            clear h0
            go_wp2
            go_ret
            exact ⟨g, cap, es, rfl, hOd, (withL_none HK.out HE.out H0.out).symm, hbd⟩
          · have hz : (n == 0) = false := by simpa using h0
            have H0 := Lib.hid h0
            clear h0
            obtain ⟨_, _, _, hec, _⟩ := hOd.parts
            have hck : ¬ cap = k := by omega
            have hRk := hOd.readsFrom (k := k) hk
            rw [if_neg hck] at hRk
            clear h2d
            have hki0 : (0 : Int) ≤ (k : Int) := Int.natCast_nonneg _
            have hki1 : (k : Int) ≤ (es.length : Int) := by omega
            have hki2 : (k : Int) ≤ (cap : Int) := by omega
            have hEk : es.length - k + k = es.length := by omega
            have hE := empty_counts wd
            have hRk1 := (hRk.more (B' := wd.heap.size) (by have := hOd.lt; omega)).alloc (Nat.le_refl _) (.cells #[] 33)
            go_wp2_with (at_builtin; refine wpList_append_any _ rfl (.tmp 66) (.tmp 69) 24 rfl wd.heap.size 33 i0 _ 2 32 Try.underlying24 hi0 hz0 hz1 hz2 rfl (by decide) _ _ _ rfl hE _ _ _ _ (entCells (es.drop k)) rfl hRk1 (entCells_one _) (by simp only [maxLen]; omega) (by omega) (by simp) ?_; intro v8 w8 hown8 hg8 hat8)
            simp only [Nat.zero_add, List.nil_append] at hown8
            have hb8 : Below wd.heap.size wd w8 := ((Below.refl wd.heap.size wd).alloc (Nat.le_refl _) _).grown hg8 (by simp) (fun r e => by have : wd.heap.size = r := Option.some.inj e; omega)
            have hO8 : OB w8 lo g cap es := OBag.on hOd hb8
            have hI8 := hId.on hb8
            have hin8 := OBag.inside hOd
            have hbd8 : Below lo w w8 := hbd.trans (hb8.mono hlod)
            have hgd := hOd.lt
            obtain ⟨A8, c8, rfl⟩ := own_form hown8
            have hs8 := hb8.size
            clear hg8 hat8 hRk1 hRk hE hOd hId hbd hb8
            go_region_held3 (fun _ => True) (exact trivial)
              (first | (refine step_append_any _ rfl (.tmp 79) (.tmp 80) 24 (by rfl) lo 33 i0 _ 2 32 Try.underlying24 hi0 hz0 hz1 hz2 rfl (by omega) _ _ _ (by rfl) hownA _ A8 (es.length - k) c8 (entCells (es.drop k)) (by rfl) (Reads.of_own hown8A) (entCells_one _) (by simp only [maxLen]; omega) (by omega) (by omega) ?_; intro v6 w6 hown6 hg6 hat6) | (refine step_append_any _ rfl (.tmp 73) (.tmp 78) 24 (by rfl) lo 33 i0 _ 2 32 Try.underlying24 hi0 hz0 hz1 hz2 rfl (by omega) _ _ (entCells (es.take k)) (by rfl) ((OB.take hO9 hk).alloc _) _ (some ⟨w9.heap.size, 0, none⟩) 1 1 [.slice A9 row.length cap9, .int .i64 n] (by rfl) (reads_new2 w9 _ _ _) (by simp [Value.oneCell']) (by simp only [maxLen]; omega) (by omega) (by rw [World.size_alloc]; omega) ?_; intro va wa hownA hgA hatA; have hsA : w9.heap.size + 1 ≤ wa.heap.size := (by have := hgA.size; rw [World.size_alloc] at this; exact this); have hown8A := (hown89.alloc (.cells #[.slice A9 row.length cap9, .int .i64 n] 33)).kept hgA (.inr (fun e => by have h1 := (hown89.lt g e).1; omega)); have hbdA : Below lo w wa := (hbd9.alloc (by omega) _).grown hgA (by rw [World.size_alloc]; omega) (fun r e => by have : g = r := Option.some.inj e; omega)) | (go_at_call 42; refine (l1Row_row A' c' row _ (by exact hI8) hr).mono ?_; rintro e w9 ⟨A9, cap9, g9, rfl, hg9, hR9, hb9⟩; have hs9 : w8.heap.size ≤ w9.heap.size := hb9.size; have hO9 : OB w9 lo g cap es := OBag.on (OBag.drewN hO8 1) hb9; have hown89 : w9.ownsRow wd.heap.size 33 2 (.slice A8 (es.length - k) c8) (es.length - k) (entCells (es.drop k)) := own_keepB hown8 (fun r e => hb9.block r (hown8.lt r e).2); have hbd9 : Below lo w w9 := (bel_drewN hbd8 1).trans (hb9.mono (show lo ≤ w8.heap.size by omega))))
            have hin9 : ∀ e ∈ es, 0 < e.r.length → e.g < w8.heap.size := fun e he hn => by have := hin8.2 e he hn; omega
            obtain ⟨g6, cap6, hv6, hO6⟩ := OB.insert hO9 hk hR9 hg9 (show g < w8.heap.size by omega) hin9 hgA hatA hg6 hat6 hown6
            have hb6 : Below lo w w6 := hbdA.grown hg6 (by omega) (fun r e => (hownA.lt r e).1)
            have HV := Lib.hid hv6
            clear hv6 hgA hatA hg6 hat6 hown6 hownA hO9 hR9 hbdA hown8A hown89 hb9 hO8 hown8 hI8 hbd8 hbd9 hin8 hin9 hg9
            go_wp2
            go_ret
            exact ⟨g6, cap6, _, (by rw [HV.out]; rfl), hO6, by rw [withL_new HK.out HE.out H0.out]; simp [Ent.pair], hb6⟩
    · have hd : decide (k < es.length) = false := by simpa using hlt
      have hpk : placeL (es.map Ent.pair) row = k := by rw [HP.out, place_end (by have := HLen.out; omega)]; rfl
      have HK := Lib.hid hpk
      have HE := Lib.hid (show ¬ (k < (es.map Ent.pair).length ∧ rx (es.map Ent.pair) k = row) from fun h => by have := HLen.out; have := h.1; omega)
      have hbd : Below lo w wr := by obtain ⟨m, hm⟩ := HW.out; rw [hm]; exact bel_drewN (Below.refl _ _) m
      have hlod : lo ≤ wr.heap.size := Nat.le_trans hlo hbd.size
      have hOd := hOr
      have hId := hIr
      clear hpk hOr hIr HW
      obtain ⟨wd, hwd⟩ : ∃ wd, wd = wr := ⟨_, rfl⟩
      subst hwd
      by_cases h0 : n = 0
      · have hz : (n == 0) = true := by simpa using h0
        have H0 := Lib.hid h0
        clear h0
        go_wp2
        go_ret
        exact ⟨g, cap, es, rfl, hOd, (withL_none HK.out HE.out H0.out).symm, hbd⟩
      · have hz : (n == 0) = false := by simpa using h0
        have H0 := Lib.hid h0
        clear h0
        obtain ⟨_, _, _, hec, _⟩ := hOd.parts
        have hRk := hOd.readsFrom (k := k) hk
        by_cases hck : cap = k
        · rw [if_pos hck] at hRk
          have hck' : k = cap := hck.symm
          clear hck hlt
          subst hck'
          clear hec
          have hki0 : (0 : Int) ≤ (k : Int) := Int.natCast_nonneg _
          have hki1 : (k : Int) ≤ (es.length : Int) := by omega
          have hki2 : (k : Int) ≤ (k : Int) := by omega
          have hEk : es.length - k + k = es.length := by omega
          have hE := empty_counts wd
          have hRk1 := (hRk.more (B' := wd.heap.size) (by have := hOd.lt; omega)).alloc (Nat.le_refl _) (.cells #[] 33)
          go_wp2_with (at_builtin; refine wpList_append_any _ rfl (.tmp 66) (.tmp 69) 24 rfl wd.heap.size 33 i0 _ 2 32 Try.underlying24 hi0 hz0 hz1 hz2 rfl (by decide) _ _ _ rfl hE _ _ _ _ (entCells (es.drop k)) rfl hRk1 (entCells_one _) (by simp only [maxLen]; omega) (by omega) (by simp) ?_; intro v8 w8 hown8 hg8 hat8)
          simp only [Nat.zero_add, List.nil_append] at hown8
          have hb8 : Below wd.heap.size wd w8 := ((Below.refl wd.heap.size wd).alloc (Nat.le_refl _) _).grown hg8 (by simp) (fun r e => by have : wd.heap.size = r := Option.some.inj e; omega)
          have hO8 : OB w8 lo g k es := OBag.on hOd hb8
          have hI8 := hId.on hb8
          have hin8 := OBag.inside hOd
          have hbd8 : Below lo w w8 := hbd.trans (hb8.mono hlod)
          have hgd := hOd.lt
          obtain ⟨A8, c8, rfl⟩ := own_form hown8
          have hs8 := hb8.size
          clear hg8 hat8 hRk1 hRk hE hOd hId hbd hb8
          go_region_held3 (fun _ => True) (exact trivial)
            (first | (refine step_append_any _ rfl (.tmp 79) (.tmp 80) 24 (by rfl) lo 33 i0 _ 2 32 Try.underlying24 hi0 hz0 hz1 hz2 rfl (by omega) _ _ _ (by rfl) hownA _ A8 (es.length - k) c8 (entCells (es.drop k)) (by rfl) (Reads.of_own hown8A) (entCells_one _) (by simp only [maxLen]; omega) (by omega) (by omega) ?_; intro v6 w6 hown6 hg6 hat6) | (refine step_append_any _ rfl (.tmp 73) (.tmp 78) 24 (by rfl) lo 33 i0 _ 2 32 Try.underlying24 hi0 hz0 hz1 hz2 rfl (by omega) _ _ (entCells (es.take k)) (by rfl) ((OB.take hO9 hk).alloc _) _ (some ⟨w9.heap.size, 0, none⟩) 1 1 [.slice A9 row.length cap9, .int .i64 n] (by rfl) (reads_new2 w9 _ _ _) (by simp [Value.oneCell']) (by simp only [maxLen]; omega) (by omega) (by rw [World.size_alloc]; omega) ?_; intro va wa hownA hgA hatA; have hsA : w9.heap.size + 1 ≤ wa.heap.size := (by have := hgA.size; rw [World.size_alloc] at this; exact this); have hown8A := (hown89.alloc (.cells #[.slice A9 row.length cap9, .int .i64 n] 33)).kept hgA (.inr (fun e => by have h1 := (hown89.lt g e).1; omega)); have hbdA : Below lo w wa := (hbd9.alloc (by omega) _).grown hgA (by rw [World.size_alloc]; omega) (fun r e => by have : g = r := Option.some.inj e; omega)) | (go_at_call 42; refine (l1Row_row A' c' row _ (by exact hI8) hr).mono ?_; rintro e w9 ⟨A9, cap9, g9, rfl, hg9, hR9, hb9⟩; have hs9 : w8.heap.size ≤ w9.heap.size := hb9.size; have hO9 : OB w9 lo g k es := OBag.on (OBag.drewN hO8 1) hb9; have hown89 : w9.ownsRow wd.heap.size 33 2 (.slice A8 (es.length - k) c8) (es.length - k) (entCells (es.drop k)) := own_keepB hown8 (fun r e => hb9.block r (hown8.lt r e).2); have hbd9 : Below lo w w9 := (bel_drewN hbd8 1).trans (hb9.mono (show lo ≤ w8.heap.size by omega))))
          have hin9 : ∀ e ∈ es, 0 < e.r.length → e.g < w8.heap.size := fun e he hn => by have := hin8.2 e he hn; omega
          obtain ⟨g6, cap6, hv6, hO6⟩ := OB.insert hO9 hk hR9 hg9 (show g < w8.heap.size by omega) hin9 hgA hatA hg6 hat6 hown6
          have hb6 : Below lo w w6 := hbdA.grown hg6 (by omega) (fun r e => (hownA.lt r e).1)
          have HV := Lib.hid hv6
          clear hv6 hgA hatA hg6 hat6 hown6 hownA hO9 hR9 hbdA hown8A hown89 hb9 hO8 hown8 hI8 hbd8 hbd9 hin8 hin9 hg9
          go_wp2
          go_ret
          exact ⟨g6, cap6, _, (by rw [HV.out]; rfl), hO6, by rw [withL_new HK.out HE.out H0.out]; simp [Ent.pair], hb6⟩
        · rw [if_neg hck] at hRk
          have hki0 : (0 : Int) ≤ (k : Int) := Int.natCast_nonneg _
          have hki1 : (k : Int) ≤ (es.length : Int) := by omega
          have hki2 : (k : Int) ≤ (cap : Int) := by omega
          have hEk : es.length - k + k = es.length := by omega
          have hE := empty_counts wd
          have hRk1 := (hRk.more (B' := wd.heap.size) (by have := hOd.lt; omega)).alloc (Nat.le_refl _) (.cells #[] 33)
          go_wp2_with (at_builtin; refine wpList_append_any _ rfl (.tmp 66) (.tmp 69) 24 rfl wd.heap.size 33 i0 _ 2 32 Try.underlying24 hi0 hz0 hz1 hz2 rfl (by decide) _ _ _ rfl hE _ _ _ _ (entCells (es.drop k)) rfl hRk1 (entCells_one _) (by simp only [maxLen]; omega) (by omega) (by simp) ?_; intro v8 w8 hown8 hg8 hat8)
          simp only [Nat.zero_add, List.nil_append] at hown8
          have hb8 : Below wd.heap.size wd w8 := ((Below.refl wd.heap.size wd).alloc (Nat.le_refl _) _).grown hg8 (by simp) (fun r e => by have : wd.heap.size = r := Option.some.inj e; omega)
          have hO8 : OB w8 lo g cap es := OBag.on hOd hb8
          have hI8 := hId.on hb8
          have hin8 := OBag.inside hOd
          have hbd8 : Below lo w w8 := hbd.trans (hb8.mono hlod)
          have hgd := hOd.lt
          obtain ⟨A8, c8, rfl⟩ := own_form hown8
          have hs8 := hb8.size
          clear hg8 hat8 hRk1 hRk hE hOd hId hbd hb8
          go_region_held3 (fun _ => True) (exact trivial)
            (first | (refine step_append_any _ rfl (.tmp 79) (.tmp 80) 24 (by rfl) lo 33 i0 _ 2 32 Try.underlying24 hi0 hz0 hz1 hz2 rfl (by omega) _ _ _ (by rfl) hownA _ A8 (es.length - k) c8 (entCells (es.drop k)) (by rfl) (Reads.of_own hown8A) (entCells_one _) (by simp only [maxLen]; omega) (by omega) (by omega) ?_; intro v6 w6 hown6 hg6 hat6) | (refine step_append_any _ rfl (.tmp 73) (.tmp 78) 24 (by rfl) lo 33 i0 _ 2 32 Try.underlying24 hi0 hz0 hz1 hz2 rfl (by omega) _ _ (entCells (es.take k)) (by rfl) ((OB.take hO9 hk).alloc _) _ (some ⟨w9.heap.size, 0, none⟩) 1 1 [.slice A9 row.length cap9, .int .i64 n] (by rfl) (reads_new2 w9 _ _ _) (by simp [Value.oneCell']) (by simp only [maxLen]; omega) (by omega) (by rw [World.size_alloc]; omega) ?_; intro va wa hownA hgA hatA; have hsA : w9.heap.size + 1 ≤ wa.heap.size := (by have := hgA.size; rw [World.size_alloc] at this; exact this); have hown8A := (hown89.alloc (.cells #[.slice A9 row.length cap9, .int .i64 n] 33)).kept hgA (.inr (fun e => by have h1 := (hown89.lt g e).1; omega)); have hbdA : Below lo w wa := (hbd9.alloc (by omega) _).grown hgA (by rw [World.size_alloc]; omega) (fun r e => by have : g = r := Option.some.inj e; omega)) | (go_at_call 42; refine (l1Row_row A' c' row _ (by exact hI8) hr).mono ?_; rintro e w9 ⟨A9, cap9, g9, rfl, hg9, hR9, hb9⟩; have hs9 : w8.heap.size ≤ w9.heap.size := hb9.size; have hO9 : OB w9 lo g cap es := OBag.on (OBag.drewN hO8 1) hb9; have hown89 : w9.ownsRow wd.heap.size 33 2 (.slice A8 (es.length - k) c8) (es.length - k) (entCells (es.drop k)) := own_keepB hown8 (fun r e => hb9.block r (hown8.lt r e).2); have hbd9 : Below lo w w9 := (bel_drewN hbd8 1).trans (hb9.mono (show lo ≤ w8.heap.size by omega))))
          have hin9 : ∀ e ∈ es, 0 < e.r.length → e.g < w8.heap.size := fun e he hn => by have := hin8.2 e he hn; omega
          obtain ⟨g6, cap6, hv6, hO6⟩ := OB.insert hO9 hk hR9 hg9 (show g < w8.heap.size by omega) hin9 hgA hatA hg6 hat6 hown6
          have hb6 : Below lo w w6 := hbdA.grown hg6 (by omega) (fun r e => (hownA.lt r e).1)
          have HV := Lib.hid hv6
          clear hv6 hgA hatA hg6 hat6 hown6 hownA hO9 hR9 hbdA hown8A hown89 hb9 hO8 hown8 hI8 hbd8 hbd9 hin8 hin9 hg9
          go_wp2
          go_ret
          exact ⟨g6, cap6, _, (by rw [HV.out]; rfl), hO6, by rw [withL_new HK.out HE.out H0.out]; simp [Ent.pair], hb6⟩
end Go.Proofs.Ytcfnbpofbcendab

/- Contracts of the copying of bags: the model's l2Copy, the program's appendCopies: a bag of the call's own that reads as told; nothing that lay below has turned. For bags and rows of at most 2^40. -/
namespace Go.Proofs.Ytcfnbpofbcendab
open Go.RowKit

end Go.Proofs.Ytcfnbpofbcendab

/- The contract of the model's BagOf: each row once more, one after the other, in an own bag; and plain facts: in whatever order they come the bag is the same. For slices and rows of at most 2^20. -/
namespace Go.Proofs.Ytcfnbpofbcendab
open Go.RowKit

theorem snoc_ind {P : List (List Int) → Prop} (h0 : P []) (h1 : ∀ l x, P l → P (l ++ [x])) (l : List (List Int)) : P l := by
  have key : ∀ m : List (List Int), P m.reverse := by
    intro m
    induction m with
    | nil => exact h0
    | cons x m ih => rw [List.reverse_cons]; exact h1 _ _ ih
  have := key l.reverse
  rwa [List.reverse_reverse] at this
/-- The bag of rows that came one after the other. -/
def bagOfL (rows : List (List Int)) : List (List Int × Int) := rows.foldl (fun b r => withL b r 1) []
theorem bagOf_snoc (rows : List (List Int)) (r : List Int) : bagOfL (rows ++ [r]) = withL (bagOfL rows) r 1 := by simp [bagOfL]
theorem bagOf_take {rows : List (List Int)} {k : Nat} (h : k < rows.length) : bagOfL (rows.take (k + 1)) = withL (bagOfL (rows.take k)) (rr rows k) 1 := by
  rw [List.take_succ_eq_append_getElem h, bagOf_snoc, rr_eq h]
/-- How often a row is in the list. -/
def occ (rows : List (List Int)) (s : List Int) : Int := (rows.count s : Nat)
theorem occ_bd (rows : List (List Int)) (s : List Int) : 0 ≤ occ rows s ∧ occ rows s ≤ rows.length := by
  unfold occ; have := List.count_le_length (a := s) (l := rows); omega
theorem bagOf_facts : ∀ rows : List (List Int), rows.length ≤ 1099511627776 → SB (bagOfL rows) ∧ NZ (bagOfL rows) ∧ ∀ s, timesL (bagOfL rows) s = occ rows s := by
  refine snoc_ind ?_ ?_
  · intro _; exact ⟨List.Pairwise.nil, (fun p hp => by cases hp), fun s => rfl⟩
  · intro rows r ih hl
    rw [List.length_append, List.length_singleton] at hl
    obtain ⟨h1, h2, h3⟩ := ih (by omega)
    have e0 : addW 0 1 = 1 := by rw [addW_small (by omega) (by omega) (by omega) (by omega)]; rfl
    rw [bagOf_snoc, withL_ins]
    refine ⟨ins_sb h1, ins_nz h2, fun s => ?_⟩
    rw [ins_times e0 h1, h3, h3]
    have hb := occ_bd rows r
    unfold occ at *
    rw [List.count_append, List.count_singleton]
    by_cases e : s = r
    · subst e
      rw [if_pos rfl, addW_small (by omega) (by omega) (by omega) (by omega)]
      simp
    · rw [if_neg e]
      have : (r == s) = false := by simpa using Ne.symm e
      rw [this]; simp
theorem bagOf_perm {r1 r2 : List (List Int)} (h : r1.Perm r2) (hl : r1.length ≤ 1099511627776) : bagOfL r1 = bagOfL r2 := by
  obtain ⟨a1, a2, a3⟩ := bagOf_facts r1 hl
  obtain ⟨b1, b2, b3⟩ := bagOf_facts r2 (by rw [← h.length_eq]; exact hl)
  refine canon a1 b1 a2 b2 fun s => ?_
  rw [a3, b3]
  unfold occ
  rw [h.count_eq]
theorem bagOf_length (rows : List (List Int)) : (bagOfL rows).length ≤ rows.length := by
  refine snoc_ind (P := fun rows => (bagOfL rows).length ≤ rows.length) ?_ ?_ rows
  · simp [bagOfL]
  · intro rows r ih
    rw [bagOf_snoc, List.length_append, List.length_singleton]
    have := withL_length (bag := bagOfL rows) (row := r) (n := 1)
    omega
theorem bagOf_rows {rows : List (List Int)} {m : Nat} (h : ∀ r ∈ rows, r.length ≤ m) : ∀ p ∈ bagOfL rows, p.1.length ≤ m := by
  refine snoc_ind (P := fun rows => (∀ r ∈ rows, r.length ≤ m) → ∀ p ∈ bagOfL rows, p.1.length ≤ m) ?_ ?_ rows h
  · intro _ p hp; cases hp
  · intro rows r ih h p hp
    rw [bagOf_snoc, withL_ins] at hp
    rcases ins_mem hp with hp | hp
    · exact ih (fun q hq => h q (List.mem_append.2 (.inl hq))) p hp
    · rw [hp]; exact h r (by simp)

end Go.Proofs.Ytcfnbpofbcendab

/- Plain facts for stage 4: where a key stands among rising keys, as it is searched by halves; how many are not more; the bag of a part cut out. No program is spoken of. -/
namespace Go.Proofs.Ytcfnbpofbcendab
open Go.RowKit

theorem sk_lt {rows : List (List Int)} (h : SK rows) {i j : Nat} (hij : i < j) (hj : j < rows.length) : ky (rr rows i) < ky (rr rows j) := by
  rw [rr_eq hj, rr_eq (by omega : i < rows.length)]
  exact List.pairwise_iff_getElem.1 h i j (by omega) hj hij
theorem plc_of {rows : List (List Int)} {k : Int} : ∀ {i : Nat}, i ≤ rows.length → (∀ j, j < i → ky (rr rows j) < k) → (i < rows.length → k ≤ ky (rr rows i)) → plcK rows k = i := by
  induction rows with
  | nil => intro i hi _ _; simp at hi; simp [plcK, hi]
  | cons r rs ih =>
    intro i hi h1 h2
    cases i with
    | zero =>
      have := h2 (by simp)
      simp only [rr, List.getElem?_cons_zero, Option.getD_some] at this
      simp only [plcK]; rw [if_neg (by omega)]
    | succ i =>
      have h0 := h1 0 (by omega)
      simp only [rr, List.getElem?_cons_zero, Option.getD_some] at h0
      simp only [plcK]
      rw [if_pos h0, ih (i := i) (by simpa using hi) (fun j hj => by simpa [rr] using h1 (j + 1) (by omega)) (fun hlt => by simpa [rr] using h2 (by simpa using hlt))]
/-- A row of that key stands where it belongs. -/
def fndB (rows : List (List Int)) (k : Int) : Bool := decide (plcK rows k < rows.length) && decide (ky (rr rows (plcK rows k)) = k)
theorem idx_fnd {rows : List (List Int)} (h : SK rows) (k : Int) : decide (idxK rows k < rows.length) = fndB rows k ∧ (fndB rows k = true → idxK rows k = plcK rows k) := by
  have hp := plc_le rows k
  have hnone : (∀ j, j < rows.length → ky (rr rows j) ≠ k) → fndB rows k = false := by
    intro hn
    unfold fndB
    by_cases hlt : plcK rows k < rows.length
    · rw [decide_eq_false (hn _ hlt), Bool.and_false]
    · rw [decide_eq_false hlt]; rfl
  by_cases hi : idxK rows k < rows.length
  · obtain ⟨r, h1, h2, h3, h4⟩ := idx_split hi
    have hr : rr rows (idxK rows k) = r := by
      have := congrArg List.head? h1
      rw [List.head?_drop] at this
      simp only [List.head?_cons] at this
      unfold rr; rw [this]; rfl
    have hpl : plcK rows k = idxK rows k := plc_of (by omega) (fun j hj => by have := sk_lt h hj hi; rw [hr, h2] at this; exact this) (fun _ => by rw [hr, h2]; exact Int.le_refl _)
    have hf : fndB rows k = true := by
      unfold fndB
      rw [hpl, decide_eq_true hi, hr, decide_eq_true h2]; rfl
    exact ⟨by rw [decide_eq_true hi, hf], fun _ => hpl.symm⟩
  · have hn := idx_none.1 (show idxK rows k = rows.length by have := idx_le rows k; omega)
    have hf := hnone fun j hj => hn _ (by rw [rr_eq hj]; exact List.getElem_mem hj)
    exact ⟨by rw [decide_eq_false hi, hf], fun e => by rw [hf] at e; cases e⟩
/-- How many have a key that is not more. -/
def upK : List (List Int) → Int → Nat
  | [], _ => 0
  | r :: rs, k => if ky r ≤ k then upK rs k + 1 else 0
theorem up_le : ∀ (rows : List (List Int)) (k : Int), upK rows k ≤ rows.length
  | [], _ => Nat.le_refl _
  | r :: rs, k => by
    have := up_le rs k
    simp only [upK, List.length_cons]; split <;> omega
theorem up_zero {rows : List (List Int)} {k : Int} (h : ∀ r ∈ rows, k < ky r) : upK rows k = 0 := by
  cases rows with
  | nil => rfl
  | cons r rs =>
    have := h r (by simp)
    simp only [upK]; rw [if_neg (by omega)]
theorem up_plc {rows : List (List Int)} {k : Int} : SK rows → upK rows k = plcK rows k + (if fndB rows k = true then 1 else 0) := by
  induction rows with
  | nil => intro _; simp [upK, plcK, fndB]
  | cons r rs ih =>
    intro h
    obtain ⟨ha, hb⟩ := List.pairwise_cons.1 h
    have ih' := ih hb
    rcases Int.lt_trichotomy (ky r) k with hlt | heq | hgt
    · have e1 : plcK (r :: rs) k = plcK rs k + 1 := by simp only [plcK]; rw [if_pos hlt]
      have e2 : upK (r :: rs) k = upK rs k + 1 := by simp only [upK]; rw [if_pos (by omega)]
      have e3 : fndB (r :: rs) k = fndB rs k := by
        unfold fndB
        rw [e1]
        have er : rr (r :: rs) (plcK rs k + 1) = rr rs (plcK rs k) := by simp [rr]
        rw [er, List.length_cons]
        by_cases hc : plcK rs k < rs.length
        · rw [decide_eq_true hc, decide_eq_true (by omega)]
        · rw [decide_eq_false hc, decide_eq_false (by omega)]
      rw [e1, e2, e3, ih']; omega
    · have e1 : plcK (r :: rs) k = 0 := by simp only [plcK]; rw [if_neg (by omega)]
      have e2 : upK (r :: rs) k = upK rs k + 1 := by simp only [upK]; rw [if_pos (by omega)]
      have e3 : fndB (r :: rs) k = true := by
        unfold fndB
        rw [e1]
        simp [rr, heq]
      have e4 : upK rs k = 0 := up_zero fun x hx => by have := ha x hx; omega
      rw [e1, e2, e3, e4]; rfl
    · have e1 : plcK (r :: rs) k = 0 := by simp only [plcK]; rw [if_neg (by omega)]
      have e2 : upK (r :: rs) k = 0 := by simp only [upK]; rw [if_neg (by omega)]
      have e3 : fndB (r :: rs) k = false := by
        unfold fndB
        rw [e1]
        simp [rr]
        omega
      rw [e1, e2, e3]; rfl
/-- The part that is cut out. -/
def cutL (rows : List (List Int)) (f t : Int) : List (List Int) := (rows.take (upK rows t)).drop (min (upK rows f) (upK rows t))
theorem filter_cut {rows : List (List Int)} {f t : Int} : SK rows → (rows.filter fun r => decide (f < ky r) && decide (ky r ≤ t)) = cutL rows f t := by
  induction rows with
  | nil => intro _; simp [cutL, upK]
  | cons r rs ih =>
    intro h
    obtain ⟨ha, hb⟩ := List.pairwise_cons.1 h
    have ih' := ih hb
    unfold cutL at ih' ⊢
    by_cases ht : ky r ≤ t
    · have et : upK (r :: rs) t = upK rs t + 1 := by simp only [upK]; rw [if_pos ht]
      by_cases hf : ky r ≤ f
      · have ef : upK (r :: rs) f = upK rs f + 1 := by simp only [upK]; rw [if_pos hf]
        rw [List.filter_cons, if_neg (by simp; omega), et, ef, Nat.add_min_add_right, List.take_succ_cons, List.drop_succ_cons, ih']
      · have ef : upK (r :: rs) f = 0 := by simp only [upK]; rw [if_neg hf]
        have e0 : upK rs f = 0 := up_zero fun x hx => by have := ha x hx; omega
        rw [List.filter_cons, if_pos (by simp; omega), et, ef, Nat.zero_min, List.take_succ_cons, List.drop_zero, ih', e0, Nat.zero_min, List.drop_zero]
    · have et : upK (r :: rs) t = 0 := by simp only [upK]; rw [if_neg ht]
      rw [et]
      simp only [List.take_zero, List.drop_nil, List.filter_eq_nil_iff]
      intro x hx
      rcases List.mem_cons.1 hx with rfl | hx
      · simp; omega
      · have := ha x hx
        simp; omega
theorem sk_count {rows : List (List Int)} (s : List Int) : SK rows → rows.count s = if s ∈ rows then 1 else 0 := by
  induction rows with
  | nil => intro _; simp
  | cons r rs ih =>
    intro h
    obtain ⟨ha, hb⟩ := List.pairwise_cons.1 h
    rw [List.count_cons, ih hb]
    by_cases e : r = s
    · subst e
      have hn : r ∉ rs := fun hm => by have := ha r hm; omega
      simp [hn]
    · have : (r == s) = false := by simpa using e
      simp [this, Ne.symm e]
/-- The bag of the part, row after row, is the bag of the rows between. -/
theorem bagOf_cut {wd : Int} {rows : List (List Int)} {f t : Int} (h : rowsOkB wd rows = true) : bagOfL (cutL rows f t) = bagIn rows f t := by
  obtain ⟨q1, q2⟩ := bagIn_sb (f := f) (t := t) h
  obtain ⟨⟨h1, h2⟩, h3, h4⟩ := rowsOk_iff.1 h
  rw [← filter_cut h3]
  have hl : (rows.filter fun r => decide (f < ky r) && decide (ky r ≤ t)).length ≤ 1099511627776 := by
    have := List.length_filter_le (fun r => decide (f < ky r) && decide (ky r ≤ t)) rows
    omega
  obtain ⟨p1, p2, p3⟩ := bagOf_facts _ hl
  refine canon p1 q1 p2 q2 fun s => ?_
  rw [p3, bagIn_times]
  unfold occ
  rw [sk_count s (List.Pairwise.sublist List.filter_sublist h3)]
  simp only [List.mem_filter, Bool.and_eq_true, decide_eq_true_eq]
  split <;> rfl
theorem cut_mem {rows : List (List Int)} {f t : Int} {r : List Int} (h : r ∈ cutL rows f t) : r ∈ rows := List.mem_of_mem_take (List.mem_of_mem_drop h)
theorem cut_length (rows : List (List Int)) (f t : Int) : (cutL rows f t).length = upK rows t - min (upK rows f) (upK rows t) := by
  have := up_le rows t
  unfold cutL
  rw [List.length_drop, List.length_take, Nat.min_eq_left this]
end Go.Proofs.Ytcfnbpofbcendab

/- Contracts of cmp.Compare at int64, of the search by halves (slices.BinarySearchFunc, as it is translated), and of the program's placeOfKey and rowsUpTo: what each returns; nothing has turned. -/
namespace Go.Proofs.Ytcfnbpofbcendab
open Go.RowKit

def cmpI (x y : Int) : Int := if x < y then -1 else if y < x then 1 else 0
end Go.Proofs.Ytcfnbpofbcendab

/- The contract of the model's BagIn: a bag of the call's own; nothing that lay has turned. -/
namespace Go.Proofs.Ytcfnbpofbcendab
open Go.RowKit

def bagInB (s : ByteArray) (wd : Int) (rows : List (List Int)) (f t : Int) : List (List Int × Int) := if tabB s wd rows = true then bagIn rows f t else []
theorem bagIn_yes {rows : List (List Int)} {f t : Int} {k : Nat} (h : k < rows.length) (h1 : f < ky (rr rows k)) (h2 : ky (rr rows k) ≤ t) : bagIn (rows.take (k + 1)) f t = bagIn (rows.take k) f t ++ [(rr rows k, 1)] := by
  unfold bagIn
  rw [List.take_succ_eq_append_getElem h, ← rr_eq h, List.filter_append, List.map_append]
  simp [h1, h2]
theorem bagIn_no {rows : List (List Int)} {f t : Int} {k : Nat} (h : k < rows.length) (h1 : ¬ (f < ky (rr rows k) ∧ ky (rr rows k) ≤ t)) : bagIn (rows.take (k + 1)) f t = bagIn (rows.take k) f t := by
  unfold bagIn
  rw [List.take_succ_eq_append_getElem h, ← rr_eq h, List.filter_append, List.map_append]
  have : (decide (f < ky (rr rows k)) && decide (ky (rr rows k) ≤ t)) = false := by
    rw [Bool.and_eq_false_iff, decide_eq_false_iff_not, decide_eq_false_iff_not]
    omega
  simp [this]
end Go.Proofs.Ytcfnbpofbcendab
