/- The program's TablesOf: which texts it returns, in a row of its own; nothing that lay has turned. The program's own variable lies as the text lays it. -/
import Derived.Test.YtpadhcoboapodaaDoorTbo0
import Derived.Test.YtpadhcoboapodaaDoorNod3
import Derived.Test.YtpadhcoboapodaaDoorText1
import Derived.Test.YtpadhcoboapodaaDoorShelfS
import Derived.Sort.OwnSorted
import Derived.Maps.AppendAt
namespace Go.Proofs.YtpadhcoboapodaaDoor
open Go.RowKit Go.Sort

theorem own_cutV {w : World} {base n m c : Nat} {e : TypeId} {A : Option Addr} {xs : List Value} (h : w.ownsRow base e 1 (.slice A n c) n xs) (hm : m ≤ n) : w.ownsRow base e 1 (.slice A m c) m (xs.take m) := by
  obtain ⟨h1, h2⟩ := h
  refine ⟨by rw [List.length_take]; omega, ?_⟩
  rcases h2 with ⟨h3, h4⟩ | ⟨g, cap, cur, h3, h4, h5, h6, h7, h8, h9⟩
  · subst h4
    obtain rfl : m = 0 := by omega
    exact .inl ⟨h3, rfl⟩
  · injection h3 with e1 e2 e3
    refine .inr ⟨g, cap, cur, by rw [e1, e3], h4, h5, by omega, h7, h8, ?_⟩
    rw [Nat.mul_one] at h9 ⊢
    rw [← h9, List.take_take, Nat.min_eq_left (by omega)]
/-- A list of texts in a row of the call's own. -/
def StrOwn (l : List ByteArray) (w : World) (e : Ending) (w' : World) : Prop :=
  ∃ g c, e = .returned (.slice (some ⟨g, 0, none⟩) l.length c) ∧ w'.ownsRow w.heap.size 9 1 (.slice (some ⟨g, 0, none⟩) l.length c) l.length (strl l) ∧ Below w.heap.size w w'
theorem strl_enc (l : List ByteArray) : strl l = (l.map bl).map encStr := by
  unfold strl
  rw [List.map_map]
  exact List.map_congr_left fun x _ => by simp [encStr, bl]
theorem str_some {w : World} {base n : Nat} {e : TypeId} {v : Value} {xs : List Value} (h : w.ownsRow base e 1 v (n + 1) xs) : ∃ g c, v = .slice (some ⟨g, 0, none⟩) (n + 1) c := by
  rcases h.2 with ⟨_, h0⟩ | ⟨g, cap, cur, hv, _⟩
  · cases h0
  · exact ⟨g, cap, hv⟩
theorem reads_newS (w : World) (t : TypeId) (v : Value) : Reads (w.alloc (.cells #[v] t)) (w.heap.size + 1) 1 (some ⟨w.heap.size, 0, none⟩) 1 [v] := ⟨rfl, fun _ => ⟨_, rfl, Nat.lt_succ_self _, cell_one_new _ _ _⟩⟩
set_option maxRecDepth 100000 in
set_option maxHeartbeats 2000000 in
theorem implTablesOf_any (A : Option Addr) (c : Nat) (v : List Nd) (w : World) (hT : Nds w w.heap.size A v) (hf : fitN 1048576 v) (hF : FormsAt w) (hlv : v.length ≤ 1048576) :
    Calls Tryd.prog 20 #[.slice A v.length c] w (StrOwn (tabsV v) w) := by
  obtain ⟨i0, hi0, hz0, hz1, hz2⟩ := info_parts info_str
  have bc := (Below.refl w.heap.size w).alloc (Nat.le_refl _) (.cells #[] 9)
  have o0 : (w.alloc (.cells #[] 9)).ownsRow w.heap.size 9 1 (.slice (some ⟨w.heap.size, 0, none⟩) 0 0) 0 [] := World.ownsRow_made w #[] 0 (Nat.le_refl _) (Nat.zero_le _) rfl
  have HN := Lib.hid (show ∀ W, Below w.heap.size w W → Nds W W.heap.size A v from fun W h => hT.on h)
  have hTb := hT.on bc
  have hFb := hF.on bc
  have HO := Lib.hid (And.intro bc o0)
  clear hT hF o0 bc
  go_enter Tryd.func20, Tryd.ntmps20
  go_wp2_with fail
  refine (implViewOk_any A c v _ hTb hf hFb).mono ?_
  rintro e w1 ⟨rfl, hb1⟩
  have hW1 : Below w.heap.size w w1 := HO.out.1.trans (hb1.mono HO.out.1.size)
  have o1 := HO.out.2.kept (grown_of_below hb1) (.inr (by simp [Value.ownBlock]))
  clear hTb hFb hb1
  cases hv : viewB v with
  | false =>
    have HE := Lib.hid (show tabsV v = [] by unfold tabsV; rw [hv]; rfl)
    clear hv
    go_wp2
    go_ret
    unfold StrOwn
    rw [HE.out]
    exact ⟨w.heap.size, 0, rfl, o1, hW1⟩
  | true =>
  have HE := Lib.hid (show tabsV v = tabsL v by unfold tabsV; rw [hv]; rfl)
  have HP := Lib.hid (names_pos hv)
  clear hv
  go_wp2
  go_loopw [3, 13] (fun u i wr => ∃ (k g cc : Nat), k ≤ v.length ∧ i = .int .i64 k ∧ u = .slice (some ⟨g, 0, none⟩) (namesL (v.take k)).length cc ∧ wr.ownsRow w.heap.size 9 1 u (namesL (v.take k)).length (strl (namesL (v.take k))) ∧ Below w.heap.size w wr) (fun _ i _ => v.length - (intOf i).toNat)
  case atStart => exact ⟨0, w.heap.size, 0, Nat.zero_le _, rfl, rfl, o1, hW1⟩
  case round =>
    clear o1 hW1
    obtain ⟨k, g, c3, hk, rfl, rfl, hown, hW⟩ := hrel
    by_cases hlt : k < v.length
    · obtain ⟨b, off, Ac, cc, Az, cz, rfl, hbk, n0, n1, n2, n3, n4, _, _⟩ := (HN.out wr hW).here hlt
      have HS := Lib.hid (namesL_succ hlt)
      have hB := Blk.new wr 30 #[.int .i64 (ndx v k).k, .string (ndx v k).n, .slice Ac (ndx v k).c.length cc, .slice Az (ndx v k).z.length cz, .int .i64 (ndx v k).p]
      obtain ⟨b0, b1, b2, b3, b4⟩ := hB.c5
      have hWb := hW.alloc hW.size (.cells #[.int .i64 (ndx v k).k, .string (ndx v k).n, .slice Ac (ndx v k).c.length cc, .slice Az (ndx v k).z.length cz, .int .i64 (ndx v k).p] 30)
      have hob := hown.alloc (.cells #[.int .i64 (ndx v k).k, .string (ndx v k).n, .slice Ac (ndx v k).c.length cc, .slice Az (ndx v k).z.length cz, .int .i64 (ndx v k).p] 30)
      have hnl : (namesL (v.take k)).length ≤ k := by
        have h1 : (namesL (v.take k)).length ≤ (v.take k).length := by unfold namesL; rw [List.length_map]; exact List.length_filter_le _ _
        rw [List.length_take] at h1; omega
      by_cases hk1 : (ndx v k).k = 1
      · have hkb : ((ndx v k).k == 1) = true := by simpa using hk1
        have HNM := Lib.hid (show namesL (v.take (k + 1)) = namesL (v.take k) ++ [(ndx v k).n] by rw [HS.out, if_pos hk1])
        obtain ⟨nl, hnl2⟩ : ∃ nl, (namesL (v.take k)).length = nl := ⟨_, rfl⟩
        have HNL := Lib.hid hnl2
        have HX := Lib.hid (And.intro hWb hob)
        rw [hnl2] at HX hnl ⊢
        have hsz := hWb.size
        clear hk1 hown hW hWb hob hnl2
        have HRN := Lib.hid (show Reads ((wr.alloc (.cells #[.int .i64 (ndx v k).k, .string (ndx v k).n, .slice Ac (ndx v k).c.length cc, .slice Az (ndx v k).z.length cz, .int .i64 (ndx v k).p] 30)).alloc (.cells #[.string (ndx v k).n] 9)) (wr.heap.size + 1 + 1) 1 (some ⟨wr.heap.size + 1, 0, none⟩) 1 [.string (ndx v k).n] from by
          have := reads_newS (wr.alloc (.cells #[.int .i64 (ndx v k).k, .string (ndx v k).n, .slice Ac (ndx v k).c.length cc, .slice Az (ndx v k).z.length cz, .int .i64 (ndx v k).p] 30)) 9 (.string (ndx v k).n)
          rwa [World.size_alloc] at this)
        go_wp2_with (at_builtin; refine wpList_append_any _ rfl (.tmp 20) (.tmp 23) 46 rfl w.heap.size 9 i0 (.string ⟨#[]⟩) 1 16 Tryd.underlying46 hi0 hz0 hz1 hz2 rfl (by decide) _ nl _ rfl (HX.out.2.alloc _) _ (some ⟨wr.heap.size + 1, 0, none⟩) 1 1 [.string (ndx v k).n] rfl HRN.out (by simp [Value.oneCell']) (by simp only [maxLen]; omega) (by omega) (by rw [World.size_alloc]; omega) ?_; intro v3 w3 hown3 hgrow3 _)
        obtain ⟨g3, c4, rfl⟩ := str_some hown3
        have hb3 : Below w.heap.size w w3 := (HX.out.1.alloc HX.out.1.size _).grown hgrow3 (by rw [World.size_alloc]; omega) (fun x hx => (HX.out.2.lt x hx).1)
        have HO3 := Lib.hid (show w3.ownsRow w.heap.size 9 1 (.slice (some ⟨g3, 0, none⟩) (namesL (v.take (k + 1))).length c4) (namesL (v.take (k + 1))).length (strl (namesL (v.take (k + 1)))) by
          have hl : (namesL (v.take (k + 1))).length = nl + 1 := by rw [HNM.out, List.length_append, HNL.out]; rfl
          rw [hl, HNM.out]
          simpa [strl] using hown3)
        have HL := Lib.hid (show (namesL (v.take (k + 1))).length = nl + 1 by rw [HNM.out, List.length_append, HNL.out]; rfl)
        clear hown3 hgrow3
        go_roundw
        case rel => exact ⟨k + 1, g3, c4, by omega, by go_num, by rw [HL.out], by have := HO3.out; rw [HL.out] at this ⊢; exact this, hb3⟩
        case measure => simp [intOf]; omega
      · have hkb : ((ndx v k).k == 1) = false := by simpa using hk1
        have HNM := Lib.hid (show namesL (v.take (k + 1)) = namesL (v.take k) by rw [HS.out, if_neg hk1, List.append_nil])
        have HX := Lib.hid (And.intro hWb hob)
        clear hk1 hown hW hWb hob
        go_wp2
        go_roundw
        case rel => exact ⟨k + 1, g, c3, by omega, by go_num, by rw [HNM.out], by rw [HNM.out]; exact HX.out.2, HX.out.1⟩
        case measure => simp [intOf]; omega
    · have hd : decide (k < v.length) = false := by simpa using hlt
      rw [show v.take k = v from List.take_of_length_le (by omega)] at hown ⊢
      rcases hown.2 with ⟨h1, h0⟩ | ⟨g', cap, cur, hv', hbase, hh, h1, h2, h3, h4⟩
      · have := HP.out; omega
      injection hv' with e1 _ e3
      injection e1 with e1
      injection e1 with e1 _ _
      subst e1 e3
      rw [Nat.mul_one, strl_enc] at h4
      have hnv : (namesL v).length ≤ 1048576 := by
        have h1 : (namesL v).length ≤ v.length := by unfold namesL; rw [List.length_map]; exact List.length_filter_le _ _
        omega
      have hml : ((namesL v).map bl).length = (namesL v).length := List.length_map _
      have HS := Lib.hid (show Calls Tryd.prog 49 #[.slice (some ⟨g, 0, none⟩) (namesL v).length c3] wr _ from by
        have := Tryd.slices_Sort_string g 0 c3 ((namesL v).map bl) wr (holds_of_block hh (by rw [hml]; exact h4)) (Array.getElem?_eq_some_iff.1 hh).1 (by rw [hml]; omega)
        rw [hml] at this
        exact this)
      have hgs : ∀ (q : Nat) (os : Array Obj) (ss : List (List UInt8)), ss.length = (namesL v).length → (grow (putRow encStr (Sort.ahead wr q) g 0 ss.toArray) os).ownsRow w.heap.size 9 1 (.slice (some ⟨g, 0, none⟩) (namesL v).length c3) (namesL v).length (ss.map encStr) := fun q os ss hl => by
        have := ownsRow_sorted (n := q) (os := os) (ss := (namesL v).map bl) (ts := ss) (by rw [hml]; exact hl) hbase hh (by rw [hml]; exact h1) h2 h3
        rwa [hml] at this
      have HGS := Lib.hid hgs
      have hgl := (Array.getElem?_eq_some_iff.1 hh).1
      have hsz := hW.size
      clear hgs h1 h2 h3 h4 hh hown
      go_wp2_with fail
      refine HS.out.mono ?_
      rintro e w5 ⟨rfl, q, os, rfl⟩
      have o5 := HGS.out q os (((namesL v).map bl).mergeSort fun x y => decide (x ≤ y)) (by rw [List.length_mergeSort, hml])
      have hb5 : Below w.heap.size w (grow (putRow encStr (Sort.ahead wr q) g 0 (((namesL v).map bl).mergeSort fun x y => decide (x ≤ y)).toArray) os) := hW.grown (grownBy_sorted _) hW.size (fun r e => by have : g = r := Option.some.inj e; omega)
      generalize grow (putRow encStr (Sort.ahead wr q) g 0 (((namesL v).map bl).mergeSort fun x y => decide (x ≤ y)).toArray) os = w5 at *
      have hsl : (((namesL v).map bl).mergeSort fun x y => decide (x ≤ y)).length = (namesL v).length := by rw [List.length_mergeSort, hml]
      have HON := Lib.hid (show Lib.compact (((namesL v).map bl).mergeSort fun x y => decide (x ≤ y)) = (tabsL v).map bl from onceL_eq)
      have hle : (tabsL v).length ≤ (namesL v).length := by
        have h1 := congrArg List.length HON.out
        rw [List.length_map] at h1
        rw [← h1, ← hsl]
        unfold Lib.compact Lib.compactUpTo
        rw [List.length_map]
        exact Nat.le_trans (List.length_filter_le _ _) (by rw [List.length_range]; exact Nat.le_refl _)
      rcases o5.2 with ⟨h1, h0⟩ | ⟨g', cap, cur, hv', hbase, hh, h1, h2, h3, h4⟩
      · have := HP.out; omega
      injection hv' with e1 _ e3
      injection e1 with e1
      injection e1 with e1 _ _
      subst e1 e3
      rw [Nat.mul_one] at h4
      have HS2 := Lib.hid (show Calls Tryd.prog 50 #[.slice (some ⟨g, 0, none⟩) (namesL v).length c3] w5 (fun e w' => e = .returned (.slice (some ⟨g, 0, none⟩) (tabsL v).length c3) ∧ ∃ q, w' = putRow encStr (Sort.ahead w5 q) g 0 ((tabsL v).map bl ++ List.replicate ((namesL v).length - (tabsL v).length) []).toArray) from by
        have := Tryd.slices_Compact_string g 0 c3 (((namesL v).map bl).mergeSort fun x y => decide (x ≤ y)) w5 (holds_of_block hh (by rw [hsl]; exact h4)) (by rw [hsl]; omega) (by rw [hsl]; exact h1)
        rw [hsl, HON.out, List.length_map] at this
        exact this)
      have hrl : ((tabsL v).map bl ++ List.replicate ((namesL v).length - (tabsL v).length) []).length = (namesL v).length := by rw [List.length_append, List.length_map, List.length_replicate]; omega
      have hgs : ∀ (q : Nat), (putRow encStr (Sort.ahead w5 q) g 0 ((tabsL v).map bl ++ List.replicate ((namesL v).length - (tabsL v).length) []).toArray).ownsRow w.heap.size 9 1 (.slice (some ⟨g, 0, none⟩) (tabsL v).length c3) (tabsL v).length (strl (tabsL v)) ∧ Below w.heap.size w (putRow encStr (Sort.ahead w5 q) g 0 ((tabsL v).map bl ++ List.replicate ((namesL v).length - (tabsL v).length) []).toArray) := fun q => by
        have h8 := ownsRow_sorted (n := q) (os := #[]) (ss := ((namesL v).map bl).mergeSort fun x y => decide (x ≤ y)) (ts := (tabsL v).map bl ++ List.replicate ((namesL v).length - (tabsL v).length) []) (by rw [hrl, hsl]) hbase hh (by rw [hsl]; exact h1) h2 h3
        have h9 := grownBy_sorted (w := w5) (g := g) (n := q) (os := #[]) ((tabsL v).map bl ++ List.replicate ((namesL v).length - (tabsL v).length) []).toArray
        rw [grow_empty] at h8 h9
        rw [hsl] at h8
        refine ⟨?_, hb5.grown h9 hb5.size (fun r e => by have : g = r := Option.some.inj e; omega)⟩
        have := own_cutV h8 hle
        rw [List.map_append, List.take_left' (by rw [List.length_map, List.length_map])] at this
        rw [strl_enc]
        exact this
      have HGS2 := Lib.hid hgs
      clear hgs hrl h1 h2 h3 h4 hh o5 HS HGS hsl hml hb5
      go_wp2_with fail
      refine HS2.out.mono ?_
      rintro e w6 ⟨rfl, q, rfl⟩
      obtain ⟨h7, h8⟩ := HGS2.out q
      generalize putRow encStr (Sort.ahead w5 q) g 0 ((tabsL v).map bl ++ List.replicate ((namesL v).length - (tabsL v).length) []).toArray = w6 at *
      go_wp2
      go_ret
      unfold StrOwn
      rw [HE.out]
      exact ⟨g, c3, rfl, h7, h8⟩
end Go.Proofs.YtpadhcoboapodaaDoor
