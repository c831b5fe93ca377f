/- The contracts of the model's l10Join and Joined: what each two rows make whose numbers at the places are alike, together. For bags of at most 2^40, rows of at most 2^30. -/
import Derived.Test.YtcfnbpofbcendaaJon0
import Derived.Test.YtcfnbpofbcendaaJD
namespace Go.Proofs.Ytcfnbpofbcendaa
open Go.RowKit

theorem rowOk_six {zs : List Int} (h : rowOkB zs = true) : zs.length ≤ 6 := by
  unfold rowOkB at h
  rw [Bool.and_eq_true] at h
  exact of_decide_eq_true h.2
/-- A right bag all of whose rows have a place. -/
def RightAt (a : List (List Int × Int)) (p : Nat) : Prop := a.length ≤ 300 ∧ ∀ j, j < a.length → p < (rx a j).length ∧ (rx a j).length ≤ 6 ∧ -1000000 ≤ nx a j ∧ nx a j ≤ 1000000
theorem pairs_six {a b : List (List Int × Int)} {p q : Int} {pn qn : Nat} (ha : RightAt a pn) (hb : RightAt b qn) : ∀ r ∈ pairsL a b p q, r.1.length ≤ 12 ∧ -1000000000000 ≤ r.2 ∧ r.2 ≤ 1000000000000 := by
  intro r hr
  obtain ⟨x, hx, y, hy, rfl⟩ := pairs_mem hr
  obtain ⟨i, hi, rfl⟩ := List.getElem_of_mem hx
  obtain ⟨k, hk, rfl⟩ := List.getElem_of_mem hy
  have h1 := ha.2 i hi
  have h2 := hb.2 k hk
  rw [bag_ix hi, bag_ix hk]
  refine ⟨by simp only [List.length_append]; omega, ?_⟩
  exact mul_bd (by omega) (by omega) (by omega) (by omega)
theorem pairs_sub {a b : List (List Int × Int)} {p q : Int} {k k2 : Nat} (hk : k < a.length) : ∀ r ∈ pairsL (a.take k) b p q ++ inL (rx a k, nx a k) (b.take k2) p q, r ∈ pairsL a b p q := by
  intro r hr
  have e : pairsL a b p q = pairsL (a.take (k + 1)) b p q ++ pairsL (a.drop (k + 1)) b p q := by
    unfold pairsL; rw [← List.flatMap_append, List.take_append_drop]
  rw [e, pairs_step hk]
  refine List.mem_append.2 (.inl ?_)
  rcases List.mem_append.1 hr with h | h
  · exact List.mem_append.2 (.inl h)
  · refine List.mem_append.2 (.inr ?_)
    unfold inL at h ⊢
    obtain ⟨y, hy, e2⟩ := List.mem_map.1 h
    obtain ⟨h1, h2⟩ := List.mem_filter.1 hy
    exact List.mem_map.2 ⟨y, List.mem_filter.2 ⟨List.mem_of_mem_take h1, h2⟩, e2⟩
theorem pairs_cut {a b : List (List Int × Int)} {p q : Int} {k k2 : Nat} (hk : k < a.length) (ha : a.length ≤ 300) (hb : b.length ≤ 300) : (pairsL (a.take k) b p q ++ inL (rx a k, nx a k) (b.take k2) p q).length ≤ 90300 := by
  rw [List.length_append]
  have h1 := pairs_len (a.take k) b p q
  have h2 := in_len (rx a k, nx a k) (b.take k2) p q
  rw [List.length_take] at h1 h2
  have h3 : min k a.length * b.length ≤ 300 * 300 := Nat.mul_le_mul (by omega) hb
  omega
theorem l2With_m (lo g cap : Nat) (es : List Ent) (A' : Option Addr) (c' : Nat) (row : List Int) (n : Int) (m : Nat) (w : World) (hm : m = row.length) (hlo : lo ≤ w.heap.size) (hO : OB w lo g cap es) (hI : Ints w w.heap.size A' row) (hl : es.length ≤ 549755813888) (hr : row.length ≤ 1099511627776) (hle : ∀ e ∈ es, e.r.length ≤ 1099511627776) :
    Calls Try.prog 54 #[.slice (some ⟨g, 0, none⟩) es.length cap, .slice A' m c', .int .i64 n] w (OwnBag lo (withL (es.map Ent.pair) row n) w) := by
  subst hm; exact l2With_any lo g cap es A' c' row n w hlo hO hI hl hr hle

set_option maxRecDepth 100000 in
set_option maxHeartbeats 8000000 in
theorem l10Join_any (A A' : Option Addr) (c c' : Nat) (a b : List (List Int × Int)) (p q : Int) (w : World) (hA : Bag w w.heap.size A a) (hB : Bag w w.heap.size A' b) (hra : RightAt a p.toNat) (hrb : RightAt b q.toNat) (hp : 0 < a.length → 0 ≤ p) (hq : 0 < b.length → 0 ≤ q) :
    Calls Try.prog 45 #[.slice A a.length c, .slice A' b.length c', .int .i64 p, .int .i64 q] w (OwnBag w.heap.size (togL (pairsL a b p q)) w) := by
  obtain ⟨i0, hi0, hz0, hz1, hz2⟩ := info_parts info_count
  obtain ⟨j0, hj0, jz0, jz1, jz2⟩ := info_parts info_i64
  have b1 := (Below.refl w.heap.size w).alloc (Nat.le_refl _) (.cells #[] 50)
  have hE := OBag.nil (empty_counts w)
  have hla := hra.1
  have hlb := hrb.1
  have HRA := Lib.hid hra
  have HRB := Lib.hid hrb
  have HSIX := Lib.hid (pairs_six (p := p) (q := q) hra hrb)
  clear hra hrb
  go_enter Try.func45, Try.ntmps45
  go_wp2
  go_loopw [9, 10] (fun v s wr => ∃ (k g cap : Nat) (es : List Ent), k ≤ a.length ∧ s = .int .i64 k ∧ v = .slice (some ⟨g, 0, none⟩) es.length cap ∧ OB wr w.heap.size g cap es ∧ es.map Ent.pair = togL (pairsL (a.take k) b p q) ∧ Below w.heap.size w wr) (fun _ s _ => a.length - (intOf s).toNat)
  case atStart => exact ⟨0, w.heap.size, 0, [], Nat.zero_le _, rfl, rfl, hE, rfl, b1⟩
  case round =>
    obtain ⟨k, g, cap, es, hk, rfl, rfl, hO, he, hW⟩ := hrel
    have HE := Lib.hid he
    clear he hE b1
    by_cases hlt : k < a.length
    · go_wp2
      go_loopw [9, 11] (fun v s wq => ∃ (k2 g cap : Nat) (es : List Ent), k2 ≤ b.length ∧ s = .int .i64 k2 ∧ v = .slice (some ⟨g, 0, none⟩) es.length cap ∧ OB wq w.heap.size g cap es ∧ es.map Ent.pair = togL (pairsL (a.take k) b p q ++ inL (rx a k, nx a k) (b.take k2) p q) ∧ Below w.heap.size w wq) (fun _ s _ => b.length - (intOf s).toNat)
      case atStart => exact ⟨0, g, cap, es, Nat.zero_le _, rfl, rfl, hO, by rw [HE.out]; simp [inL], hW⟩
      case round =>
        obtain ⟨k2, g, cap, es, hk2, rfl, rfl, hO, he, hW⟩ := hrel
        have HE := Lib.hid he
        clear he
        by_cases hlt2 : k2 < b.length
        · obtain ⟨p, rfl⟩ : ∃ m : Nat, p = m := ⟨p.toNat, by have := hp (by omega); omega⟩
          obtain ⟨q, rfl⟩ : ∃ m : Nat, q = m := ⟨q.toNat, by have := hq (by omega); omega⟩
          obtain ⟨ba, oa, rfl, hba, hc⟩ := hA (by omega)
          obtain ⟨Ar, ca, c1, c2, h3, h4⟩ := hc k hlt
          clear hc
          obtain ⟨bb, ob, rfl, hbb, hc⟩ := hB (by omega)
          obtain ⟨Br, cb, d1, d2, h5, h6⟩ := hc k2 hlt2
          clear hc
          obtain ⟨hpa, hla6, hna0, hna1⟩ := HRA.out.2 k hlt
          obtain ⟨hqb, hlb6, hnb0, hnb1⟩ := HRB.out.2 k2 hlt2
          rw [Int.toNat_natCast] at hpa hqb
          have hm := mul_bd hna0 hna1 hnb0 hnb1
          have h3r : Ints _ _ Ar (rx a k) := h3.on hW
          have h5r : Ints _ _ Br (rx b k2) := h5.on hW
          obtain ⟨ra, pa, rfl, hra, hca⟩ := h3 (by omega)
          obtain ⟨rb, pb, rfl, hrb, hcb⟩ := h5 (by omega)
          have a1 := (hW.cell (p := ⟨ba, oa + k * 2, none⟩) hba).trans c1
          have a2 := (hW.cell (p := ⟨ba, oa + k * 2 + 1, none⟩) hba).trans c2
          have e1 := (hW.cell (p := ⟨bb, ob + k2 * 2, none⟩) hbb).trans d1
          have e2 := (hW.cell (p := ⟨bb, ob + k2 * 2 + 1, none⟩) hbb).trans d2
          have a3 := (hW.cell (p := ⟨ra, pa + p, none⟩) hra).trans (hca p hpa)
          have e3 := (hW.cell (p := ⟨rb, pb + q, none⟩) hrb).trans (hcb q hqb)
          have hk0 : (0 : Int) ≤ (k : Int) := Int.natCast_nonneg _
          have hk1 : (k : Int) < (a.length : Int) := by omega
          have hk3 : (0 : Int) ≤ (k2 : Int) := Int.natCast_nonneg _
          have hk4 : (k2 : Int) < (b.length : Int) := by omega
          have hp0 : (0 : Int) ≤ (p : Int) := Int.natCast_nonneg _
          have hp1 : (p : Int) < ((rx a k).length : Int) := by omega
          have hq0 : (0 : Int) ≤ (q : Int) := Int.natCast_nonneg _
          have hq1 : (q : Int) < ((rx b k2).length : Int) := by omega
          clear hca hcb h3 h5 hp hq
          have hel : es.length ≤ 90300 := by
            have h1 := congrArg List.length HE.out
            rw [List.length_map] at h1
            have h2 := tog_length (pairsL (a.take k) b p q ++ inL (rx a k, nx a k) (b.take k2) p q)
            have h3 := pairs_cut (p := (p : Int)) (q := (q : Int)) (k2 := k2) hlt hla hlb
            omega
          have HRW := Lib.hid (show ∀ e ∈ es, e.r.length ≤ 1099511627776 from fun e he => by
            have h1 : e.pair ∈ togL (pairsL (a.take k) b p q ++ inL (rx a k, nx a k) (b.take k2) p q) := by rw [← HE.out]; exact List.mem_map_of_mem he
            have h2 := tog_rows (m := 12) (fun r hr => (HSIX.out r (pairs_sub hlt r hr)).1) _ h1
            have h3 : e.r.length ≤ 12 := h2
            omega)
          have hs0 : w.heap.size ≤ wr.heap.size := hW.size
          have hw1 : IntKind.i64.wrap (nx a k * nx b k2) = nx a k * nx b k2 := by rw [IntKind.wrap_i64]; omega
          have hw2 : wrap64 (nx a k * nx b k2) = nx a k * nx b k2 := by rw [wrap64]; omega
          by_cases heq : ix (rx a k) p = ix (rx b k2) q
          · have HQ := Lib.hid (show pairsL (a.take k) b p q ++ inL (rx a k, nx a k) (b.take (k2 + 1)) p q = (pairsL (a.take k) b p q ++ inL (rx a k, nx a k) (b.take k2) p q) ++ [(rx a k ++ rx b k2, nx a k * nx b k2)] by
              rw [in_step hlt2, if_pos (by simpa using heq), List.append_assoc])
            have hbq : (ix (rx a k) p == ix (rx b k2) q) = true := by rw [heq]; simp
            clear heq
            go_wp2_with fail
            try simp only [List.append_eq, List.cons_append, List.nil_append]
            go_quiet (fail)
            have hWb := bel_drewN hW nq
            have hOb : OB (wr.drewN nq) w.heap.size g cap es := hO
            have h3b : Ints (wr.drewN nq) (wr.drewN nq).heap.size (some ⟨ra, pa, none⟩) (rx a k) := h3r
            have h5b : Ints (wr.drewN nq) (wr.drewN nq).heap.size (some ⟨rb, pb, none⟩) (rx b k2) := h5r
            have a1b : (wr.drewN nq).cell? ⟨ba, oa + k * 2, none⟩ = some (.slice (some ⟨ra, pa, none⟩) (rx a k).length ca) := a1
            have a2b : (wr.drewN nq).cell? ⟨ba, oa + k * 2 + 1, none⟩ = some (.int .i64 (nx a k)) := a2
            have e1b : (wr.drewN nq).cell? ⟨bb, ob + k2 * 2, none⟩ = some (.slice (some ⟨rb, pb, none⟩) (rx b k2).length cb) := e1
            have e2b : (wr.drewN nq).cell? ⟨bb, ob + k2 * 2 + 1, none⟩ = some (.int .i64 (nx b k2)) := e2
            have hs0b : w.heap.size ≤ (wr.drewN nq).heap.size := hs0
            clear hW hO h3r h5r a1 a2 a3 e1 e2 e3 hs0 c1 c2 d1 d2 hbq
            generalize wr.drewN nq = wb at *
            have HKS := Lib.hid (show ∀ w', Below w.heap.size wb w' → w'.cell? ⟨ba, oa + k * 2, none⟩ = some (.slice (some ⟨ra, pa, none⟩) (rx a k).length ca) ∧ w'.cell? ⟨ba, oa + k * 2 + 1, none⟩ = some (.int .i64 (nx a k)) ∧ w'.cell? ⟨bb, ob + k2 * 2, none⟩ = some (.slice (some ⟨rb, pb, none⟩) (rx b k2).length cb) ∧ w'.cell? ⟨bb, ob + k2 * 2 + 1, none⟩ = some (.int .i64 (nx b k2)) from fun w' h => ⟨(h.cell (p := ⟨ba, oa + k * 2, none⟩) hba).trans a1b, (h.cell (p := ⟨ba, oa + k * 2 + 1, none⟩) hba).trans a2b, (h.cell (p := ⟨bb, ob + k2 * 2, none⟩) hbb).trans e1b, (h.cell (p := ⟨bb, ob + k2 * 2 + 1, none⟩) hbb).trans e2b⟩)
            go_wp2_with fail
            try simp only [List.append_eq, List.cons_append, List.nil_append]
            go_region_held3 (fun w' => w'.cell? ⟨ba, oa + k * 2, none⟩ = some (.slice (some ⟨ra, pa, none⟩) (rx a k).length ca) ∧ w'.cell? ⟨ba, oa + k * 2 + 1, none⟩ = some (.int .i64 (nx a k)) ∧ w'.cell? ⟨bb, ob + k2 * 2, none⟩ = some (.slice (some ⟨rb, pb, none⟩) (rx b k2).length cb) ∧ w'.cell? ⟨bb, ob + k2 * 2 + 1, none⟩ = some (.int .i64 (nx b k2)))
              (first | go_keep | exact HKS.out _ ((hk7.mono hs0b).trans hb8) | exact HKS.out _ (hk7.mono hs0b) | exact HKS.out _ (hk6.mono hs0b))
              (first
                | (refine step_append_any _ rfl (.tmp 48) (.tmp 53) 32 (by rfl) wb.heap.size 2 j0 (.int .i64 0) 1 8 Try.underlying32 hj0 jz0 jz1 jz2 rfl (by omega) _ _ (i64l (rx a k)) (by rfl) (hown6) _ (some ⟨rb, pb, none⟩) (rx b k2).length cb (i64l (rx b k2)) (by rfl) (reads_ints (h5b.on hk6)) (i64l_one _) (by simp only [maxLen]; omega) (by omega) hk6.size ?_; intro v7 w7 hown7 hgrow7 hat7; have hk7 : Below wb.heap.size wb w7 := hk6.grown hgrow7 hk6.size (fun g e => (hown6.lt g e).1); obtain ⟨A7, c7, g7, rfl, hg7, hR7⟩ := rowAt_of_own (zs := rx a k ++ rx b k2) (by rw [List.length_append, show i64l (rx a k ++ rx b k2) = i64l (rx a k) ++ i64l (rx b k2) by simp [i64l]]; exact hown7))
                | (go_at_call 38; refine (l1Row_any (some ⟨ra, pa, none⟩) ca (rx a k) _ (by exact h3b) h4).mono ?_; rintro e w6 ⟨v6, rfl, hown6, hb6⟩; have hk6 : Below wb.heap.size wb w6 := (bel_drewN (Below.refl _ _) 1).trans hb6)
                | (go_at_call 54; refine (l2With_m w.heap.size g cap es A7 c7 (rx a k ++ rx b k2) (nx a k * nx b k2) ((rx a k).length + (rx b k2).length) _ List.length_append.symm (Nat.le_trans hs0b hk7.size) (OBag.on hOb hk7) (hR7.ints) (by omega) (by rw [List.length_append]; omega) HRW.out).mono ?_; rintro e w8 ⟨g8, cap8, es8, rfl, hO8, he8, hb8⟩; have hk8 : Below w.heap.size w w8 := (hWb.trans (hk7.mono hs0b)).trans hb8))
            have HE8 := Lib.hid (show es8.map Ent.pair = togL (pairsL (a.take k) b p q ++ inL (rx a k, nx a k) (b.take (k2 + 1)) p q) by rw [he8, HQ.out, tog_snoc, HE.out])
            clear hWb hOb h3b h5b a1b a2b e1b e2b hs0b hown6 hb6 hk6 hown7 hgrow7 hat7 hk7 hR7 hg7 he8 hb8 hw1 hw2
            go_wp2
            go_roundw
            case rel => exact ⟨k2 + 1, g8, cap8, es8, by omega, by go_num, rfl, hO8, HE8.out, hk8⟩
            case measure => simp [intOf]; omega
          · have HQ := Lib.hid (show pairsL (a.take k) b p q ++ inL (rx a k, nx a k) (b.take (k2 + 1)) p q = pairsL (a.take k) b p q ++ inL (rx a k, nx a k) (b.take k2) p q by
              rw [in_step hlt2, if_neg (by simpa using heq), List.append_nil])
            have hbq : (ix (rx a k) p == ix (rx b k2) q) = false := by rw [beq_eq_false_iff_ne]; exact heq
            clear heq
            go_wp2_with fail
            try simp only [List.append_eq, List.cons_append, List.nil_append]
            go_quiet (fail)
            have hWb := bel_drewN hW nq
            have hOb : OB (wr.drewN nq) w.heap.size g cap es := hO
            clear hW hO h3r h5r a1 a2 a3 e1 e2 e3 hs0 c1 c2 d1 d2 hbq
            go_wp2
            go_roundw
            case rel => exact ⟨k2 + 1, g, cap, es, by omega, by go_num, rfl, hOb, by rw [HE.out, HQ.out], hWb⟩
            case measure => simp [intOf]; omega
        · have hd : decide (k2 < b.length) = false := by simpa using hlt2
          have HQ := Lib.hid (show pairsL (a.take (k + 1)) b p q = pairsL (a.take k) b p q ++ inL (rx a k, nx a k) (b.take k2) p q by
            rw [pairs_step hlt, List.take_of_length_le (l := b) (by omega)])
          go_wp2
          go_roundw
          case rel => exact ⟨k + 1, g, cap, es, by omega, by go_num, rfl, hO, by rw [HE.out, HQ.out], hW⟩
          case measure => simp [intOf]; omega
    · have hd : decide (k < a.length) = false := by simpa using hlt
      go_wp2
      go_ret
      exact ⟨g, cap, es, rfl, hO, by rw [HE.out, List.take_of_length_le (by omega)], hW⟩

theorem OwnBag.empty {w w' : World} {lo : Nat} (hb : Below lo w w') (hlo : lo ≤ w'.heap.size) : OwnBag lo [] w (.returned (.slice (some ⟨w'.heap.size, 0, none⟩) 0 0)) (w'.alloc (.cells #[] 50)) :=
  ⟨w'.heap.size, 0, [], rfl, (OBag.nil (empty_counts w')).lower hlo, rfl, hb.trans ((Below.refl _ _).alloc hlo _)⟩
theorem right_of {a : List (List Int × Int)} {p : Int} (h : bagOkB a = true) (hp : hasB a [p] = true) : RightAt a p.toNat ∧ (0 < a.length → 0 ≤ p) := by
  have hl : a.length ≤ 300 := by
    unfold bagOkB at h
    rw [Bool.and_eq_true] at h
    exact of_decide_eq_true h.2
  have hok : okFrom none a = true := by
    unfold bagOkB at h
    rw [Bool.and_eq_true] at h
    exact h.1
  have key : ∀ (bs : List (List Int × Int)) (q : Option (List Int)), okFrom q bs = true → ∀ x ∈ bs, x.1.length ≤ 6 ∧ -1000000 ≤ x.2 ∧ x.2 ≤ 1000000 := by
    intro bs
    induction bs with
    | nil => intro _ _ x hx; cases hx
    | cons y bs ih =>
      obtain ⟨r, n⟩ := y
      intro q hq x hx
      replace hq : (rowOkB r && (n != 0) && inB n (-1000000) 1000000 && (match q with | none => true | some t => lessB t r) && okFrom (some r) bs) = true := by cases q <;> exact hq
      rw [Bool.and_eq_true, Bool.and_eq_true, Bool.and_eq_true, Bool.and_eq_true] at hq
      rcases List.mem_cons.1 hx with rfl | hx
      · refine ⟨rowOk_six hq.1.1.1.1, ?_⟩
        have := hq.1.1.2
        simp [inB] at this
        exact this
      · exact ih _ hq.2 x hx
  refine ⟨⟨hl, fun j hj => ?_⟩, fun h0 => ?_⟩
  · have h1 := places_one (has_at hp hj)
    have h2 := key a none hok a[j] (List.getElem_mem hj)
    rw [bag_ix hj] at h2
    exact ⟨by omega, h2.1, h2.2.1, h2.2.2⟩
  · exact (places_one (has_at hp h0)).1
theorem joinB_no {a b : List (List Int × Int)} {p q : Int} (h : joinOk a b p q = false) : joinB a b p q = [] := by unfold joinB; rw [h]; rfl

set_option maxRecDepth 100000 in
set_option maxHeartbeats 4000000 in
theorem specJoined_any (A A' : Option Addr) (c c' : Nat) (a b : List (List Int × Int)) (p q : Int) (w : World) (hA : Bag w w.heap.size A a) (hB : Bag w w.heap.size A' b) (hla : a.length ≤ 1099511627776) (hlb : b.length ≤ 1099511627776) (hra : ∀ j, j < a.length → (rx a j).length ≤ 1073741824) (hrb : ∀ j, j < b.length → (rx b j).length ≤ 1073741824) :
    Calls Try.prog 16 #[.slice A a.length c, .slice A' b.length c', .int .i64 p, .int .i64 q] w (OwnBag w.heap.size (joinB a b p q) w) := by
  have HRA := Lib.hid hra
  have HRB := Lib.hid hrb
  clear hra hrb
  go_enter Try.func16, Try.ntmps16
  go_wp2_with fail
  refine (specBagOk_any A c a w _ hA hla).mono ?_
  rintro e w1 ⟨rfl, n1, rfl⟩
  have hb1 := bel_drewN (Below.refl w.heap.size w) n1
  have hA1 := hA.on hb1
  have hB1 := hB.on hb1
  have hs1 : w.heap.size ≤ (w.drewN n1).heap.size := hb1.size
  clear hA hB
  generalize w.drewN n1 = w1 at *
  cases h1 : bagOkB a with
  | false =>
    have HF := Lib.hid (joinB_no (a := a) (b := b) (p := p) (q := q) (by unfold joinOk; rw [h1]; rfl))
    clear h1
    go_wp2
    go_ret
    rw [HF.out]; exact OwnBag.empty hb1 hs1
  | true =>
    have H1 := Lib.hid h1
    clear h1
    go_wp2_with fail
    refine (specBagOk_any A' c' b w1 _ hB1 hlb).mono ?_
    rintro e w2 ⟨rfl, n2, rfl⟩
    have hb2 := bel_drewN hb1 n2
    have hA2 : Bag (w1.drewN n2) (w1.drewN n2).heap.size A a := hA1
    have hB2 : Bag (w1.drewN n2) (w1.drewN n2).heap.size A' b := hB1
    have hs2 : w.heap.size ≤ (w1.drewN n2).heap.size := hs1
    clear hA1 hB1 hb1 hs1
    generalize w1.drewN n2 = w2 at *
    cases h2 : bagOkB b with
    | false =>
      have HF := Lib.hid (joinB_no (a := a) (b := b) (p := p) (q := q) (by unfold joinOk; rw [H1.out, h2]; rfl))
      clear h2
      go_wp2
      go_ret
      rw [HF.out]; exact OwnBag.empty hb2 hs2
    | true =>
      have H2 := Lib.hid h2
      clear h2
      have b3 := (Below.refl w2.heap.size w2).alloc (Nat.le_refl _) (.cells #[.int .i64 p] 2)
      have hI3 : Ints (w2.alloc (.cells #[.int .i64 p] 2)) (w2.alloc (.cells #[.int .i64 p] 2)).heap.size (some ⟨w2.heap.size, 0, none⟩) [p] := Blk.ints (zs := [p]) (Blk.new w2 2 #[.int .i64 p])
      have hA3 := hA2.on b3
      have hB3 := hB2.on b3
      have hb3 := hb2.trans (b3.mono hs2)
      have hs3 : w.heap.size ≤ (w2.alloc (.cells #[.int .i64 p] 2)).heap.size := hb3.size
      clear hA2 hB2 b3
      go_wp2_with fail
      generalize w2.alloc (.cells #[.int .i64 p] 2) = w3 at *
      refine (l10Has_any A (some ⟨w2.heap.size, 0, none⟩) c 1 a [p] w3 _ _ hA3 hI3 hla (by simp) HRA.out).mono ?_
      rintro e w4 ⟨rfl, rfl⟩
      clear hI3
      cases h3 : hasB a [p] with
      | false =>
        have HF := Lib.hid (joinB_no (a := a) (b := b) (p := p) (q := q) (by unfold joinOk; rw [H1.out, H2.out, h3]; rfl))
        clear h3
        go_wp2
        go_ret
        rw [HF.out]; exact OwnBag.empty hb3 hs3
      | true =>
        have H3 := Lib.hid h3
        clear h3
        have b5 := (Below.refl w3.heap.size w3).alloc (Nat.le_refl _) (.cells #[.int .i64 q] 2)
        have hI5 : Ints (w3.alloc (.cells #[.int .i64 q] 2)) (w3.alloc (.cells #[.int .i64 q] 2)).heap.size (some ⟨w3.heap.size, 0, none⟩) [q] := Blk.ints (zs := [q]) (Blk.new w3 2 #[.int .i64 q])
        have hA5 := hA3.on b5
        have hB5 := hB3.on b5
        have hb5 := hb3.trans (b5.mono hs3)
        have hs5 : w.heap.size ≤ (w3.alloc (.cells #[.int .i64 q] 2)).heap.size := hb5.size
        clear hA3 hB3 b5
        go_wp2_with fail
        generalize w3.alloc (.cells #[.int .i64 q] 2) = w5 at *
        refine (l10Has_any A' (some ⟨w3.heap.size, 0, none⟩) c' 1 b [q] w5 _ _ hB5 hI5 hlb (by simp) HRB.out).mono ?_
        rintro e w6 ⟨rfl, rfl⟩
        clear hI5
        cases h4 : hasB b [q] with
        | false =>
          have HF := Lib.hid (joinB_no (a := a) (b := b) (p := p) (q := q) (by unfold joinOk; rw [H1.out, H2.out, H3.out, h4]; rfl))
          clear h4
          go_wp2
          go_ret
          rw [HF.out]; exact OwnBag.empty hb5 hs5
        | true =>
          obtain ⟨r1, r2⟩ := right_of H1.out H3.out
          obtain ⟨r3, r4⟩ := right_of H2.out h4
          have HJ := Lib.hid (show joinB a b p q = togL (pairsL a b p q) by unfold joinB joinOk; rw [H1.out, H2.out, H3.out, h4]; rfl)
          clear h4
          go_wp2_with fail
          refine (l10Join_any A A' c c' a b p q w5 hA5 hB5 r1 r3 r2 r4).mono ?_
          rintro e w7 ⟨g, cap, es, rfl, hO, he, hb7⟩
          have HE := Lib.hid he
          clear he r1 r2 r3 r4 hA5 hB5
          go_wp2
          go_ret
          exact ⟨g, cap, es, rfl, hO.lower hs5, by rw [HE.out, HJ.out], hb5.trans (hb7.mono hs5)⟩
end Go.Proofs.Ytcfnbpofbcendaa
