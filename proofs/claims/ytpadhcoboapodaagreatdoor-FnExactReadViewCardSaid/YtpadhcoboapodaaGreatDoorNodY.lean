/- laws.markNodeS and laws.heldNodeS over nodes of the call's own: what they return; nothing that lay has turned but the nodes' own blocks. -/
import Derived.Test.YtpadhcoboapodaaGreatDoorNodX
namespace Go.Proofs.YtpadhcoboapodaaGreatDoor
open Go.RowKit

theorem theirs_lt {w : World} {G : Nat} {es : List NV} {x : Nat} (h : NOwn w G es) (hx : theirs G es x) : x < w.heap.size := by
  rcases hx with rfl | ⟨j, hj, ⟨hn, rfl⟩ | ⟨hn, rfl⟩⟩
  · obtain ⟨cur, hB, _⟩ := h.at_
    exact hB.lt
  · exact (h.cs j hj).lt hn
  · exact (h.zs j hj).lt hn
set_option maxRecDepth 100000 in
set_option maxHeartbeats 4000000 in
theorem markNodeS_any (G c m : Nat) (es : List NV) (w : World) (hO : NOwn w G es) (hl : es.length ≤ 1048576) (hf : ∀ j, j < es.length → (nvx es j).d.c.length ≤ 1048576 ∧ (nvx es j).d.z.length ≤ 1048576) (hm1 : 1 ≤ m) (hK : kNd m es es.length ≤ 100000000) :
    Calls Tryz.prog 7 #[.slice (some ⟨G, 0, none⟩) es.length c, .int .i64 m] w fun e w' => e = .returned (.int .i64 ((kNd m es es.length : Nat) : Int)) ∧ NOwn w' G (mkVs m es es.length) ∧ Kept (theirs G es) w w' := by
  have HFT := Lib.hid hf
  have HK := Lib.hid (show ∀ j, j < es.length → kNd m es j + wN (nvx es j) ≤ 100000000 from fun j hj => by rw [← kNd_succ hj]; exact Nat.le_trans (kNd_le (by omega)) hK)
  have o0 : NOwn w G (mkVs m es 0) := by rw [mkVs_zero]; exact hO
  have HM0 := Lib.hid (kNd_zero m es)
  clear hf hK hO
  go_enter Tryz.func7, Tryz.ntmps7
  go_wp2
  go_loopw [1, 5] (fun mm i wr => ∃ j : Nat, j ≤ es.length ∧ i = .int .i64 j ∧ mm = .int .i64 ((kNd m es j : Nat) : Int) ∧ NOwn wr G (mkVs m es j) ∧ Kept (theirs G es) w wr) (fun _ i _ => es.length - (intOf i).toNat)
  case atStart => exact ⟨0, Nat.zero_le _, rfl, by rw [HM0.out], o0, Kept.refl _ _⟩
  case round =>
    clear o0
    obtain ⟨j, hj, rfl, rfl, hO, hW⟩ := hrel
    by_cases hlt : j < es.length
    · obtain ⟨cur, hB, hc⟩ := hO.at_
      rw [mkVs_length] at hc
      have hme : nvx (mkVs m es j) j = nvx es j := by rw [mkVs_at hlt, if_neg (by omega)]
      have hkj := HK.out j hlt
      have hks := kNd_succ (m := m) hlt
      obtain ⟨hfc, hfz⟩ := HFT.out j hlt
      have hC0 := hO.cs j (by rw [mkVs_length]; exact hlt)
      have hZ0 := hO.zs j (by rw [mkVs_length]; exact hlt)
      rw [hme] at hC0 hZ0
      have HOO := Lib.hid (And.intro hO (And.intro hB (And.intro hc hW)))
      have hcell : ∀ r, r < 5 → wr.cell? ⟨G, j * 5 + r, none⟩ = some (nvc (nvx es j) r) := fun r hr => by rw [hB.cell, hc j hlt r hr, hme]
      have x0 := hcell 0 (by omega)
      rw [Nat.add_zero] at x0
      have f0 := hB.frozen (j * 5)
      have hsz : j * 5 + 4 < cur.size := (Array.getElem?_eq_some_iff.1 (hc j hlt 4 (by omega))).1
      unfold wN at hkj hks
      obtain ⟨K, hKK⟩ : ∃ K, kNd m es j = K := ⟨_, rfl⟩
      obtain ⟨K1, hK1⟩ : ∃ K1, K + 1 = K1 := ⟨_, rfl⟩
      obtain ⟨K2, hK2⟩ : ∃ K2, K1 + 1 = K2 := ⟨_, rfl⟩
      have HKK := Lib.hid hKK
      have HK1 := Lib.hid hK1
      have HK2 := Lib.hid hK2
      rw [hKK] at hkj hks ⊢
      have hw1 : IntKind.i64.wrap ((K : Int) + 1) = (K1 : Int) := by rw [IntKind.wrap_i64]; omega
      have hw2 : IntKind.i64.wrap ((K1 : Int) + 1) = (K2 : Int) := by rw [IntKind.wrap_i64]; omega
      have hKm : m ≤ K := by rw [← hKK]; have := kNd_mono (m := m) (es := es) j 0 (by omega); rw [kNd_zero, Nat.zero_add] at this; exact this
      obtain ⟨E, hE⟩ : ∃ E, nvx es j = E := ⟨_, rfl⟩
      have HE := Lib.hid hE
      rw [hE] at hkj hks hfc hfz hC0 hZ0 x0 hcell
      have B1 := hB.set_ (j * 5) (.int .i64 (K : Int))
      have HKS := Lib.hid hks
      have HX := Lib.hid (And.intro hc hcell)
      have HC0 := Lib.hid hC0
      have HZ0 := Lib.hid hZ0
      have HB := Lib.hid hB
      clear hKK hK1 hK2 hO hW hE hme hc hcell hC0 hZ0 hB hks
      go_wp2_with fail
      refine (markText_any K1 (wr.setCell ⟨G, j * 5, none⟩ (.int .i64 (K : Int))) (by have := HK1.out; omega) (by have := HK1.out; omega)).mono ?_
      rintro e w2 ⟨rfl, hb2⟩
      have B2 := B1.on hb2
      have x1 : ∃ u, w2.cell? ⟨G, j * 5 + 1, none⟩ = some u := ⟨_, by rw [B2.cell, Array.getElem?_eq_getElem (by rw [Array.size_setIfInBounds]; omega)]⟩
      obtain ⟨u1, x1⟩ := x1
      have f1 := B2.frozen (j * 5 + 1)
      have B3 := B2.set_ (j * 5 + 1) (.string (mt K1))
      have x2 : (w2.setCell ⟨G, j * 5 + 1, none⟩ (.string (mt K1))).cell? ⟨G, j * 5 + 2, none⟩ = some (.slice E.Ac E.d.c.length E.cc) := by
        rw [B3.cell, Array.getElem?_setIfInBounds, if_neg (by omega), Array.getElem?_setIfInBounds, if_neg (by omega), ← HB.out.cell]
        exact HX.out.2 2 (by omega)
      have hCs : ∃ g4, ((0 < E.d.c.length → g4 = E.gc) ∧ (E.d.c.length = 0 → (w2.setCell ⟨G, j * 5 + 1, none⟩ (.string (mt K1))).heap.size ≤ g4)) ∧ CRow (w2.setCell ⟨G, j * 5 + 1, none⟩ (.string (mt K1))) E.Ac g4 E.d.c := by
        by_cases h0 : 0 < E.d.c.length
        · have hG : E.gc ≠ G := crow_ne HC0.out h0 HB.out (by decide)
          refine ⟨E.gc, ⟨fun _ => rfl, fun h => by omega⟩, ?_⟩
          have c1 := HC0.out.kept (grown_setCell wr G (j * 5) (.int .i64 (K : Int))) (fun _ e => hG (Option.some.inj e))
          exact (c1.on hb2).kept (grown_setCell w2 G (j * 5 + 1) (.string (mt K1))) (fun _ e => hG (Option.some.inj e))
        · exact ⟨(w2.setCell ⟨G, j * 5 + 1, none⟩ (.string (mt K1))).heap.size, ⟨fun h => absurd h h0, fun _ => Nat.le_refl _⟩, fun h => absurd h h0⟩
      obtain ⟨g4, e4, hC4⟩ := hCs
      have HE4 := Lib.hid e4
      have HB2 := Lib.hid hb2
      have B3' := Lib.hid B3
      clear x0 f0 e4 B1 B2 hb2 B3
      go_wp2_with fail
      refine (markCondS_any E.Ac E.cc g4 K2 E.d.c (w2.setCell ⟨G, j * 5 + 1, none⟩ (.string (mt K1))) hC4 (by omega) (by have := HK1.out; have := HK2.out; omega)).mono ?_
      rintro e w4 ⟨rfl, h4, k4⟩
      obtain ⟨K3, hK3⟩ : ∃ K3, K2 + 4 * E.d.c.length = K3 := ⟨_, rfl⟩
      rw [hK3]
      have HK3 := Lib.hid hK3
      have n4 : g4 ≠ G := by
        by_cases h : 0 < E.d.c.length
        · rw [HE4.out.1 h]; exact crow_ne HC0.out h HB.out (by decide)
        · have := HE4.out.2 (by omega)
          have := B3'.out.lt
          omega
      have B4 := B3'.out.grown k4 (fun e => n4 (Option.some.inj e).symm)
      have x3 : w4.cell? ⟨G, j * 5 + 3, none⟩ = some (.slice E.Az E.d.z.length E.cz) := by
        rw [B4.cell, Array.getElem?_setIfInBounds, if_neg (by omega), Array.getElem?_setIfInBounds, if_neg (by omega), ← HB.out.cell]
        exact HX.out.2 3 (by omega)
      have hZs : ∃ g5, ((0 < E.d.z.length → g5 = E.gz) ∧ (E.d.z.length = 0 → w4.heap.size ≤ g5)) ∧ Row w4 2 E.Az E.d.z g5 := by
        by_cases h0 : 0 < E.d.z.length
        · have hG : E.gz ≠ G := row_ne HZ0.out h0 HB.out (by decide)
          refine ⟨E.gz, ⟨fun _ => rfl, fun h => by omega⟩, ?_⟩
          have c1 := HZ0.out.kept (grown_setCell wr G (j * 5) (.int .i64 (K : Int))) (fun _ e => hG (Option.some.inj e))
          have c3 := (c1.on HB2.out).kept (grown_setCell w2 G (j * 5 + 1) (.string (mt K1))) (fun _ e => hG (Option.some.inj e))
          refine c3.kept k4 (fun _ e => ?_)
          have e := Option.some.inj e
          by_cases h1 : 0 < E.d.c.length
          · exact crow_row HC0.out h1 HZ0.out h0 (by rw [e, HE4.out.1 h1])
          · have := HE4.out.2 (by omega)
            have := c3.lt h0
            omega
        · exact ⟨w4.heap.size, ⟨fun h => absurd h h0, fun _ => Nat.le_refl _⟩, fun h => absurd h h0⟩
      obtain ⟨g5, e5, hZ5⟩ := hZs
      have HE5 := Lib.hid e5
      have H4 := Lib.hid (And.intro h4 k4)
      have hK3b : K3 ≤ 100000000 := by have := HK1.out; have := HK2.out; omega
      have B4' := Lib.hid B4
      clear x1 f1 x2 hC4 h4 k4 hK3 e5 B4
      go_wp2_with fail
      refine (markInt64S_any E.Az E.cz g5 E.d.z (K3 : Int) w4 hZ5 (by omega) (by omega) (by omega)).mono ?_
      rintro e w5 ⟨rfl, h5, k5⟩
      obtain ⟨K4, hK4⟩ : ∃ K4, K3 + E.d.z.length = K4 := ⟨_, rfl⟩
      rw [show (K3 : Int) + (E.d.z.length : Int) = (K4 : Int) by omega]
      have n5 : g5 ≠ G := by
        by_cases h : 0 < E.d.z.length
        · rw [HE5.out.1 h]; exact row_ne HZ0.out h HB.out (by decide)
        · have := HE5.out.2 (by omega)
          have := B4'.out.lt
          omega
      have B5 := B4'.out.grown k5 (fun e => n5 (Option.some.inj e).symm)
      have x4 : ∃ u, w5.cell? ⟨G, j * 5 + 4, none⟩ = some u := ⟨_, by rw [B5.cell, Array.getElem?_eq_getElem (by rw [Array.size_setIfInBounds, Array.size_setIfInBounds]; omega)]⟩
      obtain ⟨u4, x4⟩ := x4
      have f4 := B5.frozen (j * 5 + 4)
      have hKe : K2 + 4 * E.d.c.length + E.d.z.length = K4 := by have := HK3.out; omega
      have hw4 : IntKind.i64.wrap ((K4 : Int) + 1) = ((kNd m es (j + 1) : Nat) : Int) := by rw [IntKind.wrap_i64]; have := HK1.out; have := HK2.out; have := HKS.out; omega
      have HN := Lib.hid (show NOwn (w5.setCell ⟨G, j * 5 + 4, none⟩ (.int .i64 (K4 : Int))) G (mkVs m es (j + 1)) ∧ Kept (theirs G es) wr (w5.setCell ⟨G, j * 5 + 4, none⟩ (.int .i64 (K4 : Int))) by
        have e2 : K + 1 + 1 = K2 := by have := HK1.out; have := HK2.out; omega
        have hz := mark_node (m := m) (w2 := w2) (w4 := w4) (w5 := w5) (g4 := g4) (g5 := g5) hlt HOO.out.1 HB.out HX.out.1 (by rw [HKK.out]; exact HB2.out) (by rw [HKK.out, HE.out, e2]; exact H4.out.1) (by rw [HKK.out, HK1.out]; exact H4.out.2) (by rw [HKK.out, HK1.out, HE.out]; exact HE4.out) (by rw [HKK.out, HE.out, e2, HK3.out]; exact h5) k5 (by rw [HE.out]; exact HE5.out)
        rw [HKK.out, HE.out, e2, hKe] at hz
        exact hz)
      clear x3 hZ5 h5 k5 hK4 B5 hKe
      go_wp2
      go_roundw
      case rel => exact ⟨j + 1, by omega, by go_num, rfl, HN.out.1, HOO.out.2.2.2.trans HN.out.2⟩
      case measure => simp [intOf]; omega
    · have hd : decide (j < es.length) = false := by simpa using hlt
      obtain rfl : j = es.length := by omega
      go_wp2
      go_ret
      exact ⟨rfl, hO, hW⟩
end Go.Proofs.YtpadhcoboapodaaGreatDoor
