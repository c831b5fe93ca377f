/- Contracts of the program's keptOf and sumsOf: what is picked of each row, together; what stands at a place, N times, together for each list. In memory of the call's own. For right bags; places of at most 2^30. -/
import Derived.Test.YtcfnbpofbcendabTogJ
import Derived.Test.YtcfnbpofbcendabTogP
import Derived.Test.YtcfnbpofbcendabJon1
namespace Go.Proofs.Ytcfnbpofbcendab
open Go.RowKit

def keptL (b : List (List Int × Int)) (ps : List Int) : List (List Int × Int) := b.map fun x => (pickedL x.1 ps, x.2)
def sumsL (b : List (List Int × Int)) (ps : List Int) (p : Int) : List (List Int × Int) := b.map fun x => (pickedL x.1 ps, x.2 * ix x.1 p.toNat)
/-- A right bag: few counts, short rows, small numbers. -/
def Right (a : List (List Int × Int)) : Prop := a.length ≤ 300 ∧ ∀ j, j < a.length → (rx a j).length ≤ 6 ∧ -1000000 ≤ nx a j ∧ nx a j ≤ 1000000 ∧ ∀ q, q < (rx a j).length → -1000000000 ≤ ix (rx a j) q ∧ ix (rx a j) q ≤ 1000000000
theorem kept_step {b : List (List Int × Int)} {ps : List Int} {k : Nat} (h : k < b.length) : keptL (b.take (k + 1)) ps = keptL (b.take k) ps ++ [(pickedL (rx b k) ps, nx b k)] := by
  unfold keptL; rw [List.take_succ_eq_append_getElem h, List.map_append, bag_ix h]; rfl
theorem sums_step {b : List (List Int × Int)} {ps : List Int} {p : Int} {k : Nat} (h : k < b.length) : sumsL (b.take (k + 1)) ps p = sumsL (b.take k) ps p ++ [(pickedL (rx b k) ps, nx b k * ix (rx b k) p.toNat)] := by
  unfold sumsL; rw [List.take_succ_eq_append_getElem h, List.map_append, bag_ix h]; rfl
theorem mul_bd9 {a b : Int} (h0 : -1000000 ≤ a) (h1 : a ≤ 1000000) (h2 : -1000000000 ≤ b) (h3 : b ≤ 1000000000) : -1000000000000000 ≤ a * b ∧ a * b ≤ 1000000000000000 := by
  have e3 : a.natAbs * b.natAbs ≤ 1000000 * 1000000000 := Nat.mul_le_mul (by omega) (by omega)
  have e4 : (a * b).natAbs = a.natAbs * b.natAbs := Int.natAbs_mul a b
  omega
theorem RowG.of_row {w : World} {g g1 : Nat} {A : Option Addr} {r : List Int} {t : TypeId} (h : Row w t A r g1) (hne : g1 ≠ g) : RowG w w.heap.size g A r := fun hn => by
  obtain ⟨b, off, eA, hb, hc⟩ := h.ints hn
  have e1 : A = some ⟨g1, 0, none⟩ := (h hn).1
  rw [e1] at eA
  have e2 : g1 = b := by have := congrArg (fun x => x.map Addr.block) eA; simpa using this
  exact ⟨b, off, by rw [e1, eA], hb, by omega, hb, hc⟩
theorem picked_as (A A' : Option Addr) (c c' : Nat) (zs ps rs : List Int) (w : World) (hrs : rs = pickedL zs ps) (hI : Ints w w.heap.size A zs) (hI' : Ints w w.heap.size A' ps) (hl : zs.length ≤ 1073741824) (hl' : ps.length ≤ 1073741824) :
    Calls Try.prog 36 #[.slice A zs.length c, .slice A' ps.length c'] w fun e w' => ∃ A1 c1 g1, e = .returned (.slice A1 rs.length c1) ∧ w.heap.size ≤ g1 ∧ Row w' 2 A1 rs g1 ∧ Below w.heap.size w w' := by
  subst hrs
  refine (implPicked_any A A' c c' zs ps w hI hI' hl hl').mono ?_
  rintro e w1 ⟨v, rfl, hown, hb1⟩
  obtain ⟨A1, c1, g1, rfl, h1, h2⟩ := rowAt_of_own hown
  exact ⟨A1, c1, g1, rfl, h1, h2, hb1⟩

set_option maxRecDepth 100000 in
set_option maxHeartbeats 8000000 in
theorem keptOf_any (A A' : Option Addr) (c c' : Nat) (b : List (List Int × Int)) (ps : List Int) (w : World) (hB : Bag w w.heap.size A b) (hI : Ints w w.heap.size A' ps) (hR : Right b) (hp : ps.length ≤ 1073741824) :
    Calls Try.prog 21 #[.slice A b.length c, .slice A' ps.length c'] w fun e w' => ∃ gb cb bs, e = .returned (.slice (some ⟨gb, 0, none⟩) bs.length cb) ∧ OB w' w.heap.size gb cb bs ∧ bs.map Ent.pair = togL (keptL b ps) ∧ Below w.heap.size w w' ∧ DC w' w.heap.size (some gb) bs := by
  obtain ⟨i0, hi0, hz0, hz1, hz2⟩ := info_parts info_count
  have hlb := hR.1
  have HR := Lib.hid hR
  have hmk := make_counts b.length (by omega) w
  have hE := HC.made w b.length (by omega)
  have b1 := (Below.refl w.heap.size w).alloc (Nat.le_refl _) (.cells (madeCells #[.slice none 0 0, .int .i64 0] (b.length * 2)) 33)
  clear hR
  go_enter Try.func21, Try.ntmps21
  go_wp2
  go_loopw [5, 13] (fun v s wr => ∃ (k g cap : Nat) (es : List Ent), k ≤ b.length ∧ s = .int .i64 k ∧ v = .slice (some ⟨g, 0, none⟩) es.length cap ∧ HC wr w.heap.size wr.heap.size g cap es ∧ es.map Ent.pair = keptL (b.take k) ps ∧ Below w.heap.size w wr) (fun _ s _ => b.length - (intOf s).toNat)
  case atStart => exact ⟨0, w.heap.size, b.length, [], Nat.zero_le _, rfl, rfl, hE, rfl, b1⟩
  case round =>
    obtain ⟨k, g, cap, es, hk, rfl, rfl, hC, he, hW⟩ := hrel
    have hel : es.length = k := by have := congrArg List.length he; simp [keptL] at this; omega
    have HE := Lib.hid he
    have HEL := Lib.hid hel
    have hel2 : es.length ≤ 1048576 := by omega
    clear he hel hE b1 hmk
    by_cases hlt : k < b.length
    · obtain ⟨ba, oa, rfl, hba, hc⟩ := hB (by omega)
      obtain ⟨Ar, ca, c1, c2, h3, h4⟩ := hc k hlt
      clear hc
      have hrk : (rx b k).length ≤ 1073741824 := by have := (HR.out.2 k hlt).1; omega
      have a1 := (hW.cell (p := ⟨ba, oa + k * 2, none⟩) hba).trans c1
      have a2 := (hW.cell (p := ⟨ba, oa + k * 2 + 1, none⟩) hba).trans c2
      have hk0 : (0 : Int) ≤ (k : Int) := Int.natCast_nonneg _
      have hk1 : (k : Int) < (b.length : Int) := by omega
      have bc := (Below.refl wr.heap.size wr).alloc (Nat.le_refl _) (.cells #[.slice Ar (rx b k).length ca, .int .i64 (nx b k)] 33)
      have BC := Blk.new wr 33 #[.slice Ar (rx b k).length ca, .int .i64 (nx b k)]
      have g0 := BC.cell 0
      have g1 := BC.cell 1
      simp only [List.getElem?_toArray, List.getElem?_cons_zero, List.getElem?_cons_succ] at g0 g1
      have hGl := BC.lt
      have hCb := hC.onTop bc
      have hWb := hW.trans (bc.mono hW.size)
      have hgG : g ≠ wr.heap.size := by have := hC.lt; omega
      have h3b := h3.on hWb
      have hIb := hI.on hWb
      clear hC hW BC c1 c2 h3
      go_wp2_with fail
      clear a1 a2 bc
      generalize wr.alloc (.cells #[.slice Ar (rx b k).length ca, .int .i64 (nx b k)] 33) = wb at *
      generalize wr.heap.size = G at *
      have hnG : some G ≠ (Value.slice (some ⟨g, 0, none⟩) es.length cap).ownBlock := fun e => hgG (Option.some.inj e).symm
      have HKS := Lib.hid (show ∀ w', Below wb.heap.size wb w' → w'.cell? ⟨G, 0, none⟩ = some (.slice Ar (rx b k).length ca) ∧ w'.cell? ⟨G, 1, none⟩ = some (.int .i64 (nx b k)) from fun w' h => ⟨(h.cell (p := ⟨G, 0, none⟩) hGl).trans g0, (h.cell (p := ⟨G, 1, none⟩) hGl).trans g1⟩)
      obtain ⟨rc, hrc⟩ : ∃ rc, rc = pickedL (rx b k) ps := ⟨_, rfl⟩
      have hrl : rc.length ≤ 1099511627776 := by rw [hrc]; have := pickedL_length (rx b k) ps; omega
      have HRC := Lib.hid hrc
      have HPK := Lib.hid (show Calls Try.prog 36 #[.slice Ar (rx b k).length ca, .slice A' ps.length c'] wb.drew (fun e w' => ∃ A1 c1 g1, e = .returned (.slice A1 rc.length c1) ∧ wb.heap.size ≤ g1 ∧ Row w' 2 A1 rc g1 ∧ Below wb.heap.size wb w') from
        (picked_as Ar A' ca c' (rx b k) ps rc wb.drew hrc (by exact h3b) (by exact hIb) hrk hp).mono fun e w' ⟨A1, c1, g1, h1, h2, h3, h5⟩ => ⟨A1, c1, g1, h1, h2, h3, (bel_drewN (Below.refl _ wb) 1).trans h5⟩)
      have hgl := hCb.lt
      have hsb : w.heap.size ≤ wb.heap.size := hWb.size
      clear hrc h3b hIb
      try simp only [List.append_eq, List.cons_append, List.nil_append]
      go_region_held3 (fun w' => w'.cell? ⟨G, 0, none⟩ = some (.slice Ar (rx b k).length ca) ∧ w'.cell? ⟨G, 1, none⟩ = some (.int .i64 (nx b k)))
        (first | go_keep | exact HKS.out _ hk8 | exact ⟨(far_cell (p := ⟨G, 0, none⟩) hk8 hgrow9 hGl hnG).trans g0, (far_cell (p := ⟨G, 1, none⟩) hk8 hgrow9 hGl hnG).trans g1⟩)
        (first
          | (refine step_append_any _ rfl (.tmp 17) (.tmp 25) 24 (by rfl) w.heap.size 33 i0 _ 2 32 Try.underlying24 hi0 hz0 hz1 hz2 rfl (by omega) _ _ (entCells es) (by rfl) (hC8.1.alloc _) _ (some ⟨w8.heap.size, 0, none⟩) 1 1 [.slice A8 rc.length c8, .int .i64 (nx b k)] (by rfl) (reads_new2 w8 _ _ _) (by simp [Value.oneCell']) (by simp only [maxLen]; omega) (by omega) (by rw [World.size_alloc]; have hs8 : wb.heap.size ≤ w8.heap.size := hk8.size; omega) ?_; intro v9 w9 hown9 hgrow9 hat9)
          | (go_at_call 36; refine HPK.out.mono ?_; rintro e w8 ⟨A8, c8, g8, rfl, hg8, hR8, hk8⟩; have hC8 := hCb.onTop hk8))
      have hs8 : wb.heap.size ≤ w8.heap.size := hk8.size
      obtain ⟨g9, cap9, hv9, hC9, _⟩ := hC8.push (e := ⟨rc, nx b k, A8, c8, 0⟩) hgrow9 hown9 hat9 ⟨RowG.of_row hR8 (by omega), hrl⟩
      have hW9 : Below w.heap.size w w9 := ((hWb.trans (hk8.mono hsb)).alloc (by omega) _).grown hgrow9 (by rw [World.size_alloc]; omega) (fun r e => by have : g = r := Option.some.inj e; omega)
      have HE9 := Lib.hid (show (es ++ [(⟨rc, nx b k, A8, c8, 0⟩ : Ent)]).map Ent.pair = keptL (b.take (k + 1)) ps by rw [List.map_append, HE.out, kept_step hlt, ← HRC.out]; rfl)
      have HV9 := Lib.hid hv9
      have HC9 := Lib.hid hC9
      clear hCb hWb g0 g1 hk8 hC8 hR8 hg8 hown9 hgrow9 hat9 hv9 hC9 hgl hnG
      go_wp2
      go_roundw
      case rel => exact ⟨k + 1, g9, cap9, _, by omega, by go_num, HV9.out, HC9.out, HE9.out, hW9⟩
      case measure => simp [intOf]; omega
    · have hd : decide (k < b.length) = false := by simpa using hlt
      have HEQ := Lib.hid (show es.map Ent.pair = keptL b ps by rw [HE.out, List.take_of_length_le (by omega)])
      have hN : N64 (es.map Ent.pair) := by
        intro r hr
        rw [HEQ.out] at hr
        unfold keptL at hr
        obtain ⟨x, hx, rfl⟩ := List.mem_map.1 hr
        obtain ⟨j, hj, rfl⟩ := List.getElem_of_mem hx
        have := HR.out.2 j hj
        rw [bag_ix hj]
        exact W64_small (by simp only; omega) (by simp only; omega)
      go_wp2_with fail
      refine (together_own w.heap.size g cap es wr hC hN hel2).mono ?_
      rintro e w8 ⟨gb, cb, bs, rfl, hO, hbs, hb8, hD⟩
      have HBE := Lib.hid hbs
      have hs8 : w.heap.size ≤ wr.heap.size := hW.size
      clear hbs hN
      go_wp2
      go_ret
      exact ⟨gb, cb, bs, rfl, hO.lower hs8, by rw [HBE.out, HEQ.out], hW.trans hb8, hD.lower hs8⟩
end Go.Proofs.Ytcfnbpofbcendab
