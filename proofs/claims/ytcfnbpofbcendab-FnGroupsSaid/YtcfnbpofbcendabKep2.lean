/- The contract of the program's sumsOf: what stands at a place, N times, together for each list; nothing where there is no place. -/
import Derived.Test.YtcfnbpofbcendabKep1
namespace Go.Proofs.Ytcfnbpofbcendab
open Go.RowKit

def sumsB (b : List (List Int × Int)) (ps : List Int) (p : Int) : List (List Int × Int) := if p = -1 then [] else togL (sumsL b ps p)
set_option maxRecDepth 100000 in
set_option maxHeartbeats 8000000 in
theorem sumsOf_any (A A' : Option Addr) (c c' : Nat) (b : List (List Int × Int)) (ps : List Int) (p : Int) (w : World) (hB : Bag w w.heap.size A b) (hI : Ints w w.heap.size A' ps) (hR : Right b) (hp : ps.length ≤ 1073741824) (hq : p ≠ -1 → ∀ j, j < b.length → 0 ≤ p ∧ p < ((rx b j).length : Int)) :
    Calls Try.prog 20 #[.slice A b.length c, .slice A' ps.length c', .int .i64 p] w fun e w' => ∃ gb cb bs, e = .returned (.slice (some ⟨gb, 0, none⟩) bs.length cb) ∧ OB w' w.heap.size gb cb bs ∧ bs.map Ent.pair = sumsB b ps p ∧ Below w.heap.size w w' := by
  obtain ⟨i0, hi0, hz0, hz1, hz2⟩ := info_parts info_count
  have hlb := hR.1
  have HR := Lib.hid hR
  have hE := HC.nil w
  have hO := OBag.nil (empty_counts w)
  have b1 := (Below.refl w.heap.size w).alloc (Nat.le_refl _) (.cells #[] 33)
  clear hR
  go_enter Try.func20, Try.ntmps20
  by_cases hp1 : p = -1
  · subst hp1
    go_wp2
    go_ret
    exact ⟨w.heap.size, 0, [], rfl, hO, by simp [sumsB], b1⟩
  have hpb : (p == -1) = false := by simpa using hp1
  have HS := Lib.hid (show sumsB b ps p = togL (sumsL b ps p) by unfold sumsB; rw [if_neg hp1])
  have HQ := Lib.hid (hq hp1)
  clear hp1 hq hO
  go_wp2
  go_loopw [7, 16] (fun v s wr => ∃ (k g cap : Nat) (es : List Ent), k ≤ b.length ∧ s = .int .i64 k ∧ v = .slice (some ⟨g, 0, none⟩) es.length cap ∧ HC wr w.heap.size wr.heap.size g cap es ∧ es.map Ent.pair = sumsL (b.take k) ps p ∧ Below w.heap.size w wr) (fun _ s _ => b.length - (intOf s).toNat)
  case atStart => exact ⟨0, w.heap.size, 0, [], Nat.zero_le _, rfl, rfl, hE, rfl, b1⟩
  case round =>
    obtain ⟨k, g, cap, es, hk, rfl, rfl, hC, he, hW⟩ := hrel
    have hel : es.length = k := by have := congrArg List.length he; simp [sumsL] at this; omega
    have HE := Lib.hid he
    have HEL := Lib.hid hel
    have hel2 : es.length ≤ 1048576 := by omega
    clear he hel hE b1
    by_cases hlt : k < b.length
    · obtain ⟨ba, oa, rfl, hba, hc⟩ := hB (by omega)
      obtain ⟨Ar, ca, c1, c2, h3, h4⟩ := hc k hlt
      clear hc
      obtain ⟨hq0, hq1⟩ := HQ.out k hlt
      obtain ⟨q, rfl⟩ : ∃ m : Nat, p = m := ⟨p.toNat, by omega⟩
      have hqn : q < (rx b k).length := by omega
      obtain ⟨r6, n0, n1, hcx⟩ := HR.out.2 k hlt
      have hcell := hcx q hqn
      have hm9 := mul_bd9 n0 n1 hcell.1 hcell.2
      have hw1 : IntKind.i64.wrap (nx b k * ix (rx b k) q) = nx b k * ix (rx b k) q := by rw [IntKind.wrap_i64]; omega
      have hw2 : wrap64 (nx b k * ix (rx b k) q) = nx b k * ix (rx b k) q := by rw [wrap64]; omega
      clear hcx
      have hrk : (rx b k).length ≤ 1073741824 := by have := (HR.out.2 k hlt).1; omega
      have a1 := (hW.cell (p := ⟨ba, oa + k * 2, none⟩) hba).trans c1
      have a2 := (hW.cell (p := ⟨ba, oa + k * 2 + 1, none⟩) hba).trans c2
      have hk0 : (0 : Int) ≤ (k : Int) := Int.natCast_nonneg _
      have hk1 : (k : Int) < (b.length : Int) := by omega
      have bc := (Below.refl wr.heap.size wr).alloc (Nat.le_refl _) (.cells #[.slice Ar (rx b k).length ca, .int .i64 (nx b k)] 33)
      have BC := Blk.new wr 33 #[.slice Ar (rx b k).length ca, .int .i64 (nx b k)]
      have g0 := BC.cell 0
      have g1 := BC.cell 1
      simp only [List.getElem?_toArray, List.getElem?_cons_zero, List.getElem?_cons_succ] at g0 g1
      have hGl := BC.lt
      have hCb := hC.onTop bc
      have hWb := hW.trans (bc.mono hW.size)
      have hgG : g ≠ wr.heap.size := by have := hC.lt; omega
      obtain ⟨ra, pa, hAe, hra, hca⟩ := h3 (by omega)
      subst hAe
      have a3 := (hWb.cell (p := ⟨ra, pa + q, none⟩) hra).trans (hca q hqn)
      have hra2 : ra < (wr.alloc (.cells #[.slice (some ⟨ra, pa, none⟩) (rx b k).length ca, .int .i64 (nx b k)] 33)).heap.size := Nat.lt_of_lt_of_le hra hWb.size
      have hgra : ra ≠ g := by have := hC.lt; omega
      have h3b := h3.on hWb
      have hIb := hI.on hWb
      clear hC hW BC c1 c2 h3 hca
      go_wp2_with fail
      clear a1 a2 bc
      generalize wr.alloc (.cells #[.slice (some ⟨ra, pa, none⟩) (rx b k).length ca, .int .i64 (nx b k)] 33) = wb at *
      generalize wr.heap.size = G at *
      have hnG : some G ≠ (Value.slice (some ⟨g, 0, none⟩) es.length cap).ownBlock := fun e => hgG (Option.some.inj e).symm
      have hnR : some ra ≠ (Value.slice (some ⟨g, 0, none⟩) es.length cap).ownBlock := fun e => hgra (Option.some.inj e)
      have HKS := Lib.hid (show ∀ w', Below wb.heap.size wb w' → w'.cell? ⟨G, 0, none⟩ = some (.slice (some ⟨ra, pa, none⟩) (rx b k).length ca) ∧ w'.cell? ⟨G, 1, none⟩ = some (.int .i64 (nx b k)) ∧ w'.cell? ⟨ra, pa + q, none⟩ = some (.int .i64 (ix (rx b k) q)) from fun w' h => ⟨(h.cell (p := ⟨G, 0, none⟩) hGl).trans g0, (h.cell (p := ⟨G, 1, none⟩) hGl).trans g1, (h.cell (p := ⟨ra, pa + q, none⟩) hra2).trans a3⟩)
      obtain ⟨rc, hrc⟩ : ∃ rc, rc = pickedL (rx b k) ps := ⟨_, rfl⟩
      have hrl : rc.length ≤ 1099511627776 := by rw [hrc]; have := pickedL_length (rx b k) ps; omega
      have HRC := Lib.hid hrc
      have HPK := Lib.hid (show Calls Try.prog 36 #[.slice (some ⟨ra, pa, none⟩) (rx b k).length ca, .slice A' ps.length c'] wb.drew (fun e w' => ∃ A1 c1 g1, e = .returned (.slice A1 rc.length c1) ∧ wb.heap.size ≤ g1 ∧ Row w' 2 A1 rc g1 ∧ Below wb.heap.size wb w') from
        (picked_as (some ⟨ra, pa, none⟩) A' ca c' (rx b k) ps rc wb.drew hrc (by exact h3b) (by exact hIb) hrk hp).mono fun e w' ⟨A1, c1, g1, h1, h2, h3, h5⟩ => ⟨A1, c1, g1, h1, h2, h3, (bel_drewN (Below.refl _ wb) 1).trans h5⟩)
      have hgl := hCb.lt
      have hsb : w.heap.size ≤ wb.heap.size := hWb.size
      clear hrc h3b hIb
      try simp only [List.append_eq, List.cons_append, List.nil_append]
      go_region_held3 (fun w' => w'.cell? ⟨G, 0, none⟩ = some (.slice (some ⟨ra, pa, none⟩) (rx b k).length ca) ∧ w'.cell? ⟨G, 1, none⟩ = some (.int .i64 (nx b k)) ∧ w'.cell? ⟨ra, pa + q, none⟩ = some (.int .i64 (ix (rx b k) q)))
        (first | go_keep | exact HKS.out _ hk8 | exact ⟨(far_cell (p := ⟨G, 0, none⟩) hk8 hgrow9 hGl hnG).trans g0, (far_cell (p := ⟨G, 1, none⟩) hk8 hgrow9 hGl hnG).trans g1, (far_cell (p := ⟨ra, pa + q, none⟩) hk8 hgrow9 hra2 hnR).trans a3⟩)
        (first
          | (refine step_append_any _ rfl (.tmp 20) (.tmp 34) 24 (by rfl) w.heap.size 33 i0 _ 2 32 Try.underlying24 hi0 hz0 hz1 hz2 rfl (by omega) _ _ (entCells es) (by rfl) (hC8.1.alloc _) _ (some ⟨w8.heap.size, 0, none⟩) 1 1 [.slice A8 rc.length c8, .int .i64 (nx b k * ix (rx b k) q)] (by rfl) (reads_new2 w8 _ _ _) (by simp [Value.oneCell']) (by simp only [maxLen]; omega) (by omega) (by rw [World.size_alloc]; have hs8 : wb.heap.size ≤ w8.heap.size := hk8.size; omega) ?_; intro v9 w9 hown9 hgrow9 hat9)
          | (go_at_call 36; refine HPK.out.mono ?_; rintro e w8 ⟨A8, c8, g8, rfl, hg8, hR8, hk8⟩; have hC8 := hCb.onTop hk8))
      have hs8 : wb.heap.size ≤ w8.heap.size := hk8.size
      obtain ⟨g9, cap9, hv9, hC9, _⟩ := hC8.push (e := ⟨rc, nx b k * ix (rx b k) q, A8, c8, 0⟩) hgrow9 hown9 hat9 ⟨RowG.of_row hR8 (by omega), hrl⟩
      have hW9 : Below w.heap.size w w9 := ((hWb.trans (hk8.mono hsb)).alloc (by omega) _).grown hgrow9 (by rw [World.size_alloc]; omega) (fun r e => by have : g = r := Option.some.inj e; omega)
      have HE9 := Lib.hid (show (es ++ [(⟨rc, nx b k * ix (rx b k) q, A8, c8, 0⟩ : Ent)]).map Ent.pair = sumsL (b.take (k + 1)) ps (q : Int) by rw [List.map_append, HE.out, sums_step hlt, ← HRC.out]; rfl)
      have HV9 := Lib.hid hv9
      have HC9 := Lib.hid hC9
      clear hCb hWb g0 g1 a3 hnR hk8 hC8 hR8 hg8 hown9 hgrow9 hat9 hv9 hC9 hgl hnG
      go_wp2
      go_roundw
      case rel => exact ⟨k + 1, g9, cap9, _, by omega, by go_num, HV9.out, HC9.out, HE9.out, hW9⟩
      case measure => simp [intOf]; omega
    · have hd : decide (k < b.length) = false := by simpa using hlt
      have HEQ := Lib.hid (show es.map Ent.pair = sumsL b ps p by rw [HE.out, List.take_of_length_le (by omega)])
      have hN : N64 (es.map Ent.pair) := by
        intro r hr
        rw [HEQ.out] at hr
        unfold sumsL at hr
        obtain ⟨x, hx, rfl⟩ := List.mem_map.1 hr
        obtain ⟨j, hj, rfl⟩ := List.getElem_of_mem hx
        obtain ⟨r6, n0, n1, hcx⟩ := HR.out.2 j hj
        obtain ⟨hq0, hq1⟩ := HQ.out j hj
        have hcell := hcx p.toNat (by omega)
        have hm9 := mul_bd9 n0 n1 hcell.1 hcell.2
        rw [bag_ix hj]
        exact W64_small (by simp only; omega) (by simp only; omega)
      go_wp2_with fail
      refine (together_own w.heap.size g cap es wr hC hN hel2).mono ?_
      rintro e w8 ⟨gb, cb, bs, rfl, hO, hbs, hb8, _⟩
      have HBE := Lib.hid hbs
      have hs8 : w.heap.size ≤ wr.heap.size := hW.size
      clear hbs hN
      go_wp2
      go_ret
      exact ⟨gb, cb, bs, rfl, hO.lower hs8, by rw [HBE.out, HEQ.out, HS.out], hW.trans hb8⟩
end Go.Proofs.Ytcfnbpofbcendab
