/- laws.heldNodeS over marked nodes, and plain facts for the law; nothing that lay has turned. -/
import Derived.Test.YtpadhcoboapodaaGreatDoorNodY
import Derived.Test.YtpadhcoboapodaaGreatDoorRv0
import Derived.Deep.RegionHeld3
namespace Go.Proofs.YtpadhcoboapodaaGreatDoor
open Go.RowKit

set_option maxRecDepth 100000 in
set_option maxHeartbeats 4000000 in
theorem heldNodeS_any (A : Option Addr) (c m : Nat) (es : List NV) (w : World) (hN : Nds w w.heap.size A ((mkVs m es es.length).map NV.d)) (hl : es.length ≤ 1048576) (hf : ∀ j, j < es.length → (nvx es j).d.c.length ≤ 1048576 ∧ (nvx es j).d.z.length ≤ 1048576) (hm1 : 1 ≤ m) (hK : kNd m es es.length ≤ 100000000) :
    Calls Tryz.prog 8 #[.slice A es.length c, .int .i64 m] w fun e w' => e = .returned (.int .i64 ((kNd m es es.length : Nat) : Int)) ∧ Below w.heap.size w w' := by
  have HFT := Lib.hid hf
  have HK := Lib.hid (show ∀ j, j < es.length → kNd m es j + wN (nvx es j) ≤ 100000000 from fun j hj => by rw [← kNd_succ hj]; exact Nat.le_trans (kNd_le (by omega)) hK)
  have HM0 := Lib.hid (kNd_zero m es)
  have hvl : ((mkVs m es es.length).map NV.d).length = es.length := by rw [List.length_map, mkVs_length]
  have HVL := Lib.hid hvl
  have HX := Lib.hid (show ∀ j, j < es.length → ndx ((mkVs m es es.length).map NV.d) j = mkD (kNd m es j) (nvx es j).d from fun j hj => by
    have h1 := mkVs_at (m := m) (j := es.length) hj
    rw [if_pos hj] at h1
    rw [ndx_eq _ j (by rw [hvl]; exact hj), List.getElem_map, ← nvx_eq _ j (by rw [mkVs_length]; exact hj), h1]
    rfl)
  generalize (mkVs m es es.length).map NV.d = v at *
  clear hf hK hvl
  go_enter Tryz.func8, Tryz.ntmps8
  go_wp2
  go_loopw [1, 5] (fun mm i wr => ∃ j : Nat, j ≤ es.length ∧ i = .int .i64 j ∧ mm = .int .i64 ((kNd m es j : Nat) : Int) ∧ Below w.heap.size w wr) (fun _ i _ => es.length - (intOf i).toNat)
  case atStart => exact ⟨0, Nat.zero_le _, rfl, by rw [HM0.out], Below.refl _ _⟩
  case round =>
    obtain ⟨j, hj, rfl, rfl, hW⟩ := hrel
    by_cases hlt : j < es.length
    · have hTr := hN.on hW
      obtain ⟨b, off, Ac, cc, Az, cz, rfl, hb, c0, c1, c2, c3, c4, hC, hZ⟩ := hTr.here (show j < v.length by rw [HVL.out]; exact hlt)
      have hx := HX.out j hlt
      have hkj := HK.out j hlt
      have hks := kNd_succ (m := m) hlt
      obtain ⟨hfc, hfz⟩ := HFT.out j hlt
      rw [hx] at c0 c1 c2 c3 c4 hC hZ
      unfold wN at hkj hks
      obtain ⟨K, hKK⟩ : ∃ K, kNd m es j = K := ⟨_, rfl⟩
      have hKm : 1 ≤ K := by
        rw [← hKK]; have := kNd_mono (m := m) (es := es) j 0 (by omega); rw [kNd_zero, Nat.zero_add] at this; omega
      rw [hKK] at hkj hks c0 c1 c2 c3 c4 hC hZ ⊢
      obtain ⟨nc, hnc⟩ : ∃ nc, (nvx es j).d.c.length = nc := ⟨_, rfl⟩
      obtain ⟨nz, hnz⟩ : ∃ nz, (nvx es j).d.z.length = nz := ⟨_, rfl⟩
      unfold mkD at c0 c1 c2 c3 c4 hC hZ
      simp only [mks_length, marks_length] at c0 c1 c2 c3 c4 hC hZ
      rw [hnc] at hkj hks hfc c2 c4 hC hZ
      rw [hnz] at hkj hks hfz c3 c4 hZ
      obtain ⟨K1, hK1⟩ : ∃ K1, K + 1 = K1 := ⟨_, rfl⟩
      obtain ⟨K2, hK2⟩ : ∃ K2, K + 2 = K2 := ⟨_, rfl⟩
      obtain ⟨K3, hK3⟩ : ∃ K3, K2 + 4 * nc = K3 := ⟨_, rfl⟩
      obtain ⟨K4, hK4⟩ : ∃ K4, K3 + nz = K4 := ⟨_, rfl⟩
      obtain ⟨K5, hK5⟩ : ∃ K5, K4 + 1 = K5 := ⟨_, rfl⟩
      have hks5 : kNd m es (j + 1) = K5 := by omega
      have HKS := Lib.hid hks5
      rw [hK1] at c1
      rw [hK2] at hC
      rw [hK2, hK3] at c4 hZ
      rw [hK4] at c4
      have hw1 : IntKind.i64.wrap ((K : Int) + 1) = (K1 : Int) := by rw [IntKind.wrap_i64]; omega
      have hw2 : IntKind.i64.wrap ((K1 : Int) + 1) = (K2 : Int) := by rw [IntKind.wrap_i64]; omega
      have hw5 : IntKind.i64.wrap ((K4 : Int) + 1) = (K5 : Int) := by rw [IntKind.wrap_i64]; omega
      have hbl : b < wr.heap.size := hb
      have HMT := Lib.hid (show ∀ W, Calls Tryz.prog 16 #[.int .i64 (K1 : Int)] W fun e w' => e = .returned (.string (mt K1)) ∧ Below W.heap.size W w' from fun W => markText_any K1 W (by omega) (by omega))
      have HHC := Lib.hid (show ∀ W, Below wr.heap.size wr W → Calls Tryz.prog 19 #[.slice Ac nc cc, .int .i64 (K2 : Int)] W fun e w' => e = .returned (.int .i64 (K3 : Int)) ∧ Below W.heap.size W w' from fun W h => by
        rw [← hK3]; exact heldCondS_any Ac cc K2 nc W (hC.on h) (by omega) (by omega))
      have HHZ := Lib.hid (show ∀ W, Below wr.heap.size wr W → Calls Tryz.prog 20 #[.slice Az nz cz, .int .i64 (K3 : Int)] W fun e w' => e = .returned (.int .i64 (K4 : Int)) ∧ W = w' from fun W h => by
        have := heldInt64S_any Az cz nz W.heap.size (K3 : Int) W (hZ.on h) (by omega) (by omega) (by omega)
        rwa [show (K3 : Int) + (nz : Int) = (K4 : Int) by omega] at this)
      have hn3 : decide ((K3 : Int) < 0) = false := by simp
      have hn4 : decide ((K4 : Int) < 0) = false := by simp
      have hne0 : ((K : Int) != (K : Int)) = false := by simp
      have hne4 : ((K4 : Int) != (K4 : Int)) = false := by simp
      generalize mt K1 = tx at *
      have htx : (tx.toList != tx.toList) = false := by simp
      have HCK := Lib.hid (And.intro c1 (And.intro c2 (And.intro c3 c4)))
      clear hTr hx hkj hks hKK hnc hnz hK1 hK2 hK3 hK4 hK5 hks5 hC hZ hfc hfz hN
      go_wp2_with fail
      go_region_held3 (fun w' => w'.cell? ⟨b, off + j * 5 + 1, none⟩ = some (.string tx))
        (first | go_keep | exact k1)
        (first | (go_at_call 16; refine (HMT.out _).mono ?_; rintro e w3 ⟨rfl, hb3⟩; have hk3 : Below wr.heap.size wr w3 := (bel_drewN (Below.refl _ _) 1).trans hb3; have k1 := (hk3.cell (p := ⟨b, off + j * 5 + 1, none⟩) hbl).trans HCK.out.1))
      have d2 := (hk3.cell (p := ⟨b, off + j * 5 + 2, none⟩) hbl).trans HCK.out.2.1
      have d3 := (hk3.cell (p := ⟨b, off + j * 5 + 3, none⟩) hbl).trans HCK.out.2.2.1
      have d4 := (hk3.cell (p := ⟨b, off + j * 5 + 4, none⟩) hbl).trans HCK.out.2.2.2
      have HD := Lib.hid (And.intro d3 d4)
      have hs3 := hk3.size
      clear c0 c1 c2 c3 c4 k1 hb3
      go_wp2_with fail
      refine (HHC.out w3 hk3).mono ?_
      rintro e w4 ⟨rfl, hb4⟩
      have hk4 := bel_step hk3 hb4
      have f3 := (hb4.cell (p := ⟨b, off + j * 5 + 3, none⟩) (by show b < w3.heap.size; omega)).trans HD.out.1
      have f4 := (hb4.cell (p := ⟨b, off + j * 5 + 4, none⟩) (by show b < w3.heap.size; omega)).trans HD.out.2
      clear d2 d3 d4
      go_wp2_with fail
      refine (HHZ.out w4 hk4).mono ?_
      rintro e w5 ⟨rfl, hww⟩
      cases hww
      have hW4 := bel_step hW hk4
      clear hW hk3 hk4 hb4
      go_wp2
      go_roundw
      case rel => exact ⟨j + 1, by omega, by go_num, by rw [HKS.out], hW4⟩
      case measure => simp [intOf]; omega
    · have hd : decide (j < es.length) = false := by simpa using hlt
      obtain rfl : j = es.length := by omega
      go_wp2
      go_ret
      exact ⟨rfl, hW⟩
end Go.Proofs.YtpadhcoboapodaaGreatDoor
