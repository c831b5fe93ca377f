/- The model's ShowView: the text of a view, else the empty one; nothing that lay has turned. -/
import Derived.Test.YtcenfabjpgpofaaDoorNodS
namespace Go.Proofs.YtcenfabjpgpofaaDoor
open Go.RowKit

/-- The texts of the nodes. -/
def viewT (v : List Nd) : List ByteArray := v.map fun d => mkB (nodeL d)
theorem viewT_length (v : List Nd) : (viewT v).length = v.length := by simp [viewT]
theorem viewT_take_succ (v : List Nd) (k : Nat) (h : k < v.length) : viewT (v.take (k + 1)) = viewT (v.take k) ++ [mkB (nodeL (ndx v k))] := by
  unfold viewT
  rw [List.take_succ_eq_append_getElem h, List.map_append, ndx_eq v k h]; rfl
theorem viewT_bl (v : List Nd) : (viewT v).map bl = v.map nodeL := by
  unfold viewT
  rw [List.map_map]
  exact List.map_congr_left fun d _ => bl_mkB (nodeL d)
set_option maxRecDepth 100000 in
set_option maxHeartbeats 2000000 in
theorem specShowView_any (A : Option Addr) (c : Nat) (v : List Nd) (w : World) (hT : Nds w w.heap.size A v) (hf : fitN 1048576 v) (hl : v.length ≤ 1048576) :
    Calls Tryd.prog 16 #[.slice A v.length c] w fun e w' => e = .returned (.string (mkB (showV v))) ∧ Below w.heap.size w w' := by
  obtain ⟨i0, hi0, hz0, hz1, hz2⟩ := info_parts info_str
  obtain ⟨S, hS⟩ : ∃ S, mkB (showV v) = S := ⟨_, rfl⟩
  have HS := Lib.hid hS
  rw [hS]
  clear hS
  go_enter Tryd.func16, Tryd.ntmps16
  go_wp2_with fail
  refine (specViewOk_any A c v w hT hf hl).mono ?_
  rintro e w1 ⟨rfl, hb1⟩
  cases hr : viewB v with
  | false =>
    have HD := Lib.hid (show S = ⟨#[]⟩ by rw [← HS.out]; unfold showV; rw [hr]; rfl)
    clear hr
    go_wp2
    go_ret
    exact ⟨congrArg (fun s => Ending.returned (.string s)) HD.out.symm, hb1⟩
  | true =>
    have HRT := Lib.hid (show ∀ j, j < v.length → nodeB (ndx v j) = true from fun j hj => view_right hr hj)
    have HD := Lib.hid (show mkB (cat [59, 32] (v.map nodeL)) = S by rw [← HS.out]; unfold showV; rw [if_pos hr])
    have HLN := Lib.hid (showV_len hr)
    have h9 := (viewB_all hr).2.2
    have hT1 := hT.on hb1
    have hB0 : Below w.heap.size w (w1.alloc (.cells #[] 9)) := hb1.alloc hb1.size _
    have hsz := hb1.size
    clear hr hT
    go_wp2
    go_loopw [3, 4] (fun u i wr => ∃ k : Nat, k ≤ v.length ∧ i = .int .i64 k ∧ wr.ownsRow w1.heap.size 9 1 u k (strl (viewT (v.take k))) ∧ Below w1.heap.size w1 wr) (fun _ i _ => v.length - (intOf i).toNat)
    case atStart => exact ⟨0, Nat.zero_le _, rfl, by simpa [viewT, strl] using (World.ownsRow_made w1 #[] 0 (Nat.le_refl _) (Nat.zero_le _) rfl : (w1.alloc (.cells #[] 9)).ownsRow w1.heap.size 9 1 (.slice (some ⟨w1.heap.size, 0, none⟩) 0 0) 0 []), (Below.refl _ _).alloc (Nat.le_refl _) _⟩
    case round =>
      obtain ⟨k, hk, rfl, hown, hbel⟩ := hrel
      have hTr := hT1.on hbel
      clear hT1 hB0
      by_cases hlt : k < v.length
      · obtain ⟨b, off, Ac, cc, Az, cz, rfl, hb, c0, c1, c2, c3, c4, hC, hZ⟩ := hTr.here hlt
        go_wp2_with fail
        refine (l8Show_any (ndx v k) Ac cc Az cz wr hC hZ (HRT.out k hlt)).mono ?_
        rintro e w2 ⟨rfl, hb2⟩
        have hown1 := hown.kept (grown_of_below hb2) (by cases h : u3.ownBlock <;> simp)
        have hbel1 : Below w1.heap.size w1 w2 := bel_step hbel hb2
        obtain ⟨tx, htx⟩ : ∃ tx : ByteArray, tx = mkB (nodeL (ndx v k)) := ⟨_, rfl⟩
        rw [← htx]
        have HX := Lib.hid htx
        clear htx hown hb2 hbel c0 c1 c2 c3 c4 hC hZ hTr
        go_wp2_with (at_builtin; refine wpList_append_own _ rfl _ _ 56 rfl w1.heap.size 9 i0 (.string ⟨#[]⟩) 1 16 Tryd.underlying56 hi0 hz0 hz1 hz2 rfl (by decide) _ _ _ rfl (hown1.alloc _) ⟨w2.heap.size, 0, none⟩ 1 1 [.string tx] rfl rfl (cell_one_new _ _ _) (by simp [Value.oneCell']) (by simp only [maxLen]; omega) (by omega) (by have := hbel1.size; simp; omega) ?_; intro v' w3 hown2 hgrow2 _)
        have hb3 : Below w1.heap.size w1 w3 := (hbel1.alloc hbel1.size _).grown hgrow2 (by have := hbel1.size; simp; omega) (fun g hg => (hown1.lt g hg).1)
        clear hgrow2 hown1
        go_roundw
        case rel => exact ⟨k + 1, by omega, by go_num, by rw [viewT_take_succ v k hlt, ← HX.out]; simpa [strl] using hown2, hb3⟩
        case measure => simp [intOf]; omega
      · obtain rfl : k = v.length := by omega
        rw [List.take_length] at hown
        rw [← viewT_length v] at hown
        obtain ⟨A', cap', rfl, hS'⟩ := strs_of_own hown
        have hl2 : (viewT v).length ≤ 1048576 := by rw [viewT_length]; exact hl
        have hcat : catT ⟨#[59, 32]⟩ (viewT v) = cat [59, 32] (v.map nodeL) := by unfold catT; rw [viewT_bl]; rfl
        have HJE := Lib.hid (show (⟨(catT ⟨#[59, 32]⟩ (viewT v)).toArray⟩ : ByteArray) = S by rw [hcat]; exact HD.out)
        have hsum : (catT ⟨#[59, 32]⟩ (viewT v)).length ≤ 1099511627776 := by rw [hcat]; have := HLN.out; omega
        have HSM := Lib.hid hsum
        clear hown hcat hsum
        go_wp2_with fail
        refine (l1Words_any _ _ (viewT v) ⟨#[59, 32]⟩ wr wr.heap.size hS' hl2 (by decide) HSM.out).mono ?_
        rintro e w' ⟨rfl, rfl⟩
        rw [HJE.out]
        go_wp2
        go_ret
        exact ⟨rfl, bel_step hb1 hbel⟩
end Go.Proofs.YtcenfabjpgpofaaDoor
