/- Conds shown: the model's l7Show and ShowConds; for conds that are right. -/
import Derived.Test.YtcenfabjpgpofaaDoorCndY
import Derived.Test.YtcenfabjpgpofaaDoorText1
import Derived.Deep.DeepCutAuto
namespace Go.Proofs.YtcenfabjpgpofaaDoor
open Go.RowKit

theorem shwT_succ (l : List Cnd) {k : Nat} (h : k < l.length) : shwT (l.take (k + 1)) = shwT (l.take k) ++ [mkB (showC (cx l k))] := by
  unfold shwT
  rw [List.take_succ_eq_append_getElem h, List.map_append, cx_eq l k h]; rfl

set_option maxRecDepth 100000 in
set_option maxHeartbeats 8000000 in
theorem l7Show_any (A : Option Addr) (c : Nat) (l : List Cnd) (w : World) (hC : Cnds w w.heap.size A l) (hr : ∀ c ∈ l, condB c = true) (hl : l.length ≤ 3) :
    Calls Tryd.prog 44 #[.slice A l.length c] w fun e w' => e = .returned (.string (mkB (if l = [] then [45] else cat [44] (l.map showC)))) ∧ Below w.heap.size w w' := by
  obtain ⟨S, hS⟩ : ∃ S, mkB (if l = [] then [45] else cat [44] (l.map showC)) = S := ⟨_, rfl⟩
  have HS := Lib.hid hS
  rw [hS]
  clear hS
  obtain ⟨i0, hi0, hz0, hz1, hz2⟩ := info_parts info_str
  have HR := Lib.hid hr
  clear hr
  have hB0 : Below w.heap.size w (w.alloc (.cells #[] 9)) := (Below.refl _ _).alloc (Nat.le_refl _) _
  go_enter Tryd.func44, Tryd.ntmps44
  go_wp2
  go_loopw [3, 4] (fun v i wr => ∃ k : Nat, k ≤ l.length ∧ i = .int .i64 k ∧ wr.ownsRow w.heap.size 9 1 v k (strl (shwT (l.take k))) ∧ Below w.heap.size w wr) (fun _ i _ => l.length - (intOf i).toNat)
  case atStart => exact ⟨0, Nat.zero_le _, rfl, by simpa [shwT, strl] using (World.ownsRow_made w #[] 0 (Nat.le_refl _) (Nat.zero_le _) rfl : (w.alloc (.cells #[] 9)).ownsRow w.heap.size 9 1 (.slice (some ⟨w.heap.size, 0, none⟩) 0 0) 0 []), hB0⟩
  case round =>
    clear hB0
    obtain ⟨k, hk, rfl, hown, hW⟩ := hrel
    have hCr := hC.on hW
    by_cases hlt : k < l.length
    · have hcb := HR.out _ (cx_mem hlt)
      obtain ⟨⟨hp0, hp5⟩, ⟨ho1, ho3⟩, _⟩ := condB_iff.1 hcb
      obtain ⟨ht0, ht1⟩ := condB_other hcb
      have HN := Lib.hid (shwT_succ l hlt)
      obtain ⟨b, off, rfl, hblt, h0, h1, h2, h3⟩ := hCr.here hlt
      have hsp := itoa_sz (n := (cx l k).p) (by omega) (by omega)
      have hst := itoa_sz (n := (cx l k).t) (by omega) (by omega)
      have HX := Lib.hid (show showC (cx l k) = 36 :: (Lib.itoa (cx l k).p ++ opL (cx l k).o :: (if (cx l k).i = true then Lib.itoa (cx l k).t else 36 :: Lib.itoa (cx l k).t)) from rfl)
      have hk0 : (0 : Int) ≤ (k : Int) := Int.natCast_nonneg _
      have hk1 : (k : Int) < (l.length : Int) := by omega
      clear hcb hC hCr
      generalize showC (cx l k) = sc at *
      generalize (cx l k).p = p at *
      generalize (cx l k).o = o at *
      generalize (cx l k).t = t at *
      generalize (cx l k).i = i at *
      have HP := Lib.hid (show ∀ v : World, Calls Tryd.prog 46 #[.int .i64 p] v fun e w' => e = .returned (.string (mkB (Lib.itoa p))) ∧ Below v.heap.size v w' from fun v => l1Int_any p v (by omega) (by omega))
      have HPE := Lib.hid (show bl (mkB (Lib.itoa p)) = Lib.itoa p from bl_mkB _)
      generalize mkB (Lib.itoa p) = P at *
      have HH := Lib.hid (And.intro h0 (And.intro h1 (And.intro h2 h3)))
      obtain ⟨X, hX⟩ : ∃ X, (⟨#[36]⟩ : ByteArray) ++ P ++ (⟨#[opL o]⟩ : ByteArray) = X := ⟨_, rfl⟩
      have HXB := Lib.hid (show bl X = 36 :: (Lib.itoa p ++ [opL o]) by rw [← hX, bl_append, bl_append, HPE.out]; simp [bl])
      have hxs : X.size ≤ 24 := by
        rw [← hX, ByteArray.size_append, ByteArray.size_append]
        show 1 + P.size + 1 ≤ 24
        omega
      have HOX := Lib.hid hX
      clear hX
      go_upto_region 5 with fail
      go_cut [5] (fun s wx => s = .string X ∧ Below wr.heap.size wr wx)
      case first =>
        have hX := HOX.out
        obtain ⟨q, hq, hw0⟩ : ∃ q : Nat, q < 3 ∧ IntKind.i64.wrap (o - 1) = (q : Int) := ⟨(o - 1).toNat, by omega, by rw [IntKind.wrap_i64]; omega⟩
        have hl2 : ([.string ⟨#[60]⟩, .string ⟨#[61]⟩, .string ⟨#[62]⟩] : List Value)[q]? = some (.string ⟨#[opL o]⟩) := by
          have : o = 1 ∨ o = 2 ∨ o = 3 := by omega
          rw [IntKind.wrap_i64] at hw0
          rcases this with rfl | rfl | rfl
          · obtain rfl : q = 0 := by omega
            rfl
          · obtain rfl : q = 1 := by omega
            rfl
          · obtain rfl : q = 2 := by omega
            rfl
        have hl1 : (#[.string ⟨#[60]⟩, .string ⟨#[61]⟩, .string ⟨#[62]⟩] : Array Value)[q]? = some (.string ⟨#[opL o]⟩) := by rw [List.getElem?_toArray]; exact hl2
        have hsg : (⟨#[opL o]⟩ : ByteArray).size = 1 := rfl
        generalize (⟨#[opL o]⟩ : ByteArray) = sg at *
        have hq1 : ¬ 9223372036854775807 < 1 + P.size := by omega
        have hq2 : ¬ 9223372036854775807 < 1 + P.size + sg.size := by omega
        have hqa : (0 : Int) ≤ (q : Int) := Int.natCast_nonneg _
        have hqb : (q : Int) < 3 := by omega
        have HXE := Lib.hid hX
        have HWA := Lib.hid (show ∀ w1, Below ((wr.alloc (.cells #[.string ⟨#[60]⟩, .string ⟨#[61]⟩, .string ⟨#[62]⟩] 9)).drewN 1).heap.size ((wr.alloc (.cells #[.string ⟨#[60]⟩, .string ⟨#[61]⟩, .string ⟨#[62]⟩] 9)).drewN 1) w1 → Below wr.heap.size wr w1 from fun w1 hb1 => (bel_drewN ((Below.refl wr.heap.size wr).alloc (Nat.le_refl _) (.cells #[.string ⟨#[60]⟩, .string ⟨#[61]⟩, .string ⟨#[62]⟩] 9)) 1).trans (hb1.mono (by simp)))
        have HZA := Lib.hid (show ∀ w1, Below ((wr.alloc (.cells #[.string ⟨#[60]⟩, .string ⟨#[61]⟩, .string ⟨#[62]⟩] 9)).drewN 1).heap.size ((wr.alloc (.cells #[.string ⟨#[60]⟩, .string ⟨#[61]⟩, .string ⟨#[62]⟩] 9)).drewN 1) w1 → w1.cell? ⟨wr.heap.size, q, none⟩ = some (.string sg) from fun w1 hb1 => by
          rw [(((Blk.new wr 9 #[.string ⟨#[60]⟩, .string ⟨#[61]⟩, .string ⟨#[62]⟩]).drewN 1).below hb1 (by simp)).cell q]; exact hl1)
        have HWB := Lib.hid (show ∀ w1, Below (wr.drewN 1).heap.size (wr.drewN 1) w1 → Below wr.heap.size wr w1 from fun w1 hb1 => (bel_drewN (Below.refl _ _) 1).trans hb1)
        have HYB := Lib.hid (show ∀ w1 : World, (w1.alloc (.cells #[.string ⟨#[60]⟩, .string ⟨#[61]⟩, .string ⟨#[62]⟩] 9)).cell? ⟨w1.heap.size, q, none⟩ = some (.string sg) from fun w1 => by rw [(Blk.new w1 9 #[.string ⟨#[60]⟩, .string ⟨#[61]⟩, .string ⟨#[62]⟩]).cell q]; exact hl1)
        have HM := Lib.hid (show ∀ (w1 : World) (a : Addr) (u : Value), w1.cell? a = some u → (w1.alloc (.cells #[.string ⟨#[60]⟩, .string ⟨#[61]⟩, .string ⟨#[62]⟩] 9)).cell? a = some u from fun w1 a u h => (World.cell?_alloc_lt w1 (.cells #[.string ⟨#[60]⟩, .string ⟨#[61]⟩, .string ⟨#[62]⟩] 9) a (cell_lt h)).trans h)
        clear HXB hxs HN HX hst HS HR hown hW h2 h3 hp0 hp5 ht0 ht1 hk hlt hi0 hz0 hz1 hz2 HPE hl HOX hX ho1 ho3 hsp hq hsg
        go_region_law (first | (go_simp; refine (HP.out _).mono ?_; rintro e w1 ⟨rfl, hb1⟩; (first | (have hx : Below wr.heap.size wr w1 := HWA.out w1 hb1; have z0 := HZA.out w1 hb1; clear hb1) | (have hx : Below wr.heap.size wr w1 := HWB.out w1 hb1; clear hb1; have z0 := HYB.out w1)); have k0 := (hx.cell (p := ⟨b, off + k * 4, none⟩) hblt).trans HH.out.1; have k1 := (hx.cell (p := ⟨b, off + k * 4 + 1, none⟩) hblt).trans HH.out.2.1; have m0 := HM.out w1 _ _ k0; have m1 := HM.out w1 _ _ k1))
        all_goals clear HP HH HWA HZA HWB HYB HM hl1 hl2 hq1 hq2 hqa hqb hw0 h0 h1 m0 m1 k0 k1 z0
        all_goals go_wp2_with fail
        all_goals go_meet
        all_goals first
          | exact ⟨congrArg Value.string HXE.out, hx⟩
          | exact ⟨congrArg Value.string HXE.out, hx.alloc hx.size _⟩
      case rest =>
        obtain ⟨rfl, hb⟩ := hcut
        have hWc := bel_step hW hb
        have hownc := hown.kept (grown_of_below hb) (by cases h : u3.ownBlock <;> simp)
        have g2 := (hb.cell (p := ⟨b, off + k * 4 + 2, none⟩) hblt).trans HH.out.2.2.1
        have g3 := (hb.cell (p := ⟨b, off + k * 4 + 3, none⟩) hblt).trans HH.out.2.2.2
        have HTT := Lib.hid (show ∀ v : World, Calls Tryd.prog 46 #[.int .i64 t] v fun e w' => e = .returned (.string (mkB (Lib.itoa t))) ∧ Below v.heap.size v w' from fun v => l1Int_any t v (by omega) (by omega))
        have HTE := Lib.hid (show bl (mkB (Lib.itoa t)) = Lib.itoa t from bl_mkB _)
        generalize mkB (Lib.itoa t) = T at *
        clear HP HPE hown hW h0 h1 h2 h3 hb hsp hp0 hp5 HOX
        cases i with
        | true =>
          have HSC := Lib.hid (show X ++ T = mkB sc by
            refine bl_eta _ _ ?_
            rw [bl_append, HXB.out, HTE.out, HX.out, if_pos rfl]; simp)
          clear HXB HX HTE
          go_wp2_with fail
          refine (HTT.out _).mono ?_
          rintro e w1 ⟨rfl, hb1⟩
          have hown1 := hownc.kept (grown_of_below hb1) (by cases h : u3.ownBlock <;> simp)
          have hbel1 := bel_step hWc hb1
          clear hownc hWc hb1 g2 g3
          go_wp2_with (at_builtin; refine wpList_append_own _ rfl _ _ 56 rfl w.heap.size 9 i0 (.string ⟨#[]⟩) 1 16 Tryd.underlying56 hi0 hz0 hz1 hz2 rfl (by decide) _ _ _ rfl (hown1.alloc _) ⟨w1.heap.size, 0, none⟩ 1 1 [.string (X ++ T)] rfl rfl (cell_one_new _ _ _) (by simp [Value.oneCell']) (by simp only [maxLen]; omega) (by omega) (by have := hbel1.size; simp; omega) ?_; intro v' w2 hown2 hgrow2 _)
          have hb2 : Below w.heap.size w w2 := (hbel1.alloc hbel1.size _).grown hgrow2 (by have := hbel1.size; simp; omega) (fun g hg => (hown1.lt g hg).1)
          rw [HSC.out] at hown2
          clear hgrow2 hown1
          go_roundw
          case rel => exact ⟨k + 1, by omega, by go_num, by rw [HN.out]; simpa [strl] using hown2, hb2⟩
          case measure => simp [intOf]; omega
        | false =>
          have hsx : (X ++ (⟨#[36]⟩ : ByteArray)).size ≤ 25 := by rw [ByteArray.size_append]; show X.size + 1 ≤ 25; omega
          have HSC := Lib.hid (show X ++ (⟨#[36]⟩ : ByteArray) ++ T = mkB sc by
            refine bl_eta _ _ ?_
            rw [bl_append, bl_append, HXB.out, HTE.out, HX.out, if_neg (by simp)]; simp [bl])
          clear HXB HX HTE
          go_wp2_with fail
          refine (HTT.out _).mono ?_
          rintro e w1 ⟨rfl, hb1⟩
          have hown1 := hownc.kept (grown_of_below hb1) (by cases h : u3.ownBlock <;> simp)
          have hbel1 := bel_step hWc hb1
          clear hownc hWc hb1 g2 g3
          go_wp2_with (at_builtin; refine wpList_append_own _ rfl _ _ 56 rfl w.heap.size 9 i0 (.string ⟨#[]⟩) 1 16 Tryd.underlying56 hi0 hz0 hz1 hz2 rfl (by decide) _ _ _ rfl (hown1.alloc _) ⟨w1.heap.size, 0, none⟩ 1 1 [.string (X ++ (⟨#[36]⟩ : ByteArray) ++ T)] rfl rfl (cell_one_new _ _ _) (by simp [Value.oneCell']) (by simp only [maxLen]; omega) (by omega) (by have := hbel1.size; simp; omega) ?_; intro v' w2 hown2 hgrow2 _)
          have hb2 : Below w.heap.size w w2 := (hbel1.alloc hbel1.size _).grown hgrow2 (by have := hbel1.size; simp; omega) (fun g hg => (hown1.lt g hg).1)
          rw [HSC.out] at hown2
          clear hgrow2 hown1
          go_roundw
          case rel => exact ⟨k + 1, by omega, by go_num, by rw [HN.out]; simpa [strl] using hown2, hb2⟩
          case measure => simp [intOf]; omega
    · have hd : decide (k < l.length) = false := by simpa using hlt
      obtain rfl : k = l.length := by omega
      rw [List.take_length] at hown
      by_cases h0 : l.length = 0
      · have hln : l = [] := List.length_eq_zero_iff.1 h0
        have HD := Lib.hid (show S = ⟨#[45]⟩ by rw [← HS.out, if_pos hln]; rfl)
        obtain ⟨A', cap', hv⟩ : ∃ A' cap', u3 = .slice A' l.length cap' := by
          rcases hown.2 with ⟨h1, h2⟩ | ⟨g, cap, cur, h1, _⟩
          · exact ⟨none, 0, by rw [h1, h0]⟩
          · exact ⟨_, cap, h1⟩
        subst hv
        have hz : ((l.length : Int) == 0) = true := by simp [hln]
        clear h0 hln hown
        go_wp2
        go_ret
        exact ⟨congrArg (fun s => Ending.returned (.string s)) HD.out.symm, hW⟩
      · have hln : l ≠ [] := fun e => h0 (by rw [e]; rfl)
        rw [← shwT_length l] at hown
        obtain ⟨A', cap', hv, hS⟩ := strs_of_own hown
        rw [shwT_length] at hv
        subst hv
        have hz : ((l.length : Int) == 0) = false := by simp; exact hln
        have hle := showCs_len (rightB_iff.2 ⟨HR.out, hl⟩)
        have hct : catT ⟨#[44]⟩ (shwT l) = cat [44] (l.map showC) := by
          unfold catT
          rw [show bl ⟨#[44]⟩ = [44] from rfl]
          congr 1
          exact mkB_bl_map l
        have HD := Lib.hid (show (⟨(catT ⟨#[44]⟩ (shwT l)).toArray⟩ : ByteArray) = S by rw [hct, ← HS.out, if_neg hln]; rfl)
        have hW1 := l1Words_any A' cap' (shwT l) ⟨#[44]⟩ wr wr.heap.size hS (by rw [shwT_length]; omega) (by decide) (by rw [hct]; omega)
        rw [shwT_length, HD.out] at hW1
        have HW1 := Lib.hid hW1
        clear h0 hln hown hS hle hct hW1
        go_wp2_with fail
        refine HW1.out.mono ?_
        rintro e w' ⟨rfl, rfl⟩
        go_wp2
        go_ret
        exact ⟨rfl, hW⟩
end Go.Proofs.YtcenfabjpgpofaaDoor
