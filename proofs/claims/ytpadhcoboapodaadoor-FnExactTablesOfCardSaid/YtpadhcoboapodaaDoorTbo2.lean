/- The model's TablesOf: which texts it returns, in a row of its own; nothing that lay has turned. -/
import Derived.Test.YtpadhcoboapodaaDoorTbo1
import Derived.Test.YtpadhcoboapodaaDoorNod2
import Derived.Deep.RegionHeld3
import Derived.Deep.DeepCutAuto
import Derived.Deep.CutBlock
namespace Go.Proofs.YtpadhcoboapodaaDoor
open Go.RowKit

theorem own_freshS (w : World) (lo : Nat) (h : lo ≤ w.heap.size) : (w.alloc (.cells #[] 9)).ownsRow lo 9 1 (.slice (some ⟨w.heap.size, 0, none⟩) 0 0) 0 [] := World.ownsRow_made w #[] 0 h (Nat.zero_le _) rfl
theorem add_at (g k : Nat) : Addr.add ⟨g, 0, none⟩ k = ⟨g, k, none⟩ := by unfold Addr.add; split <;> simp_all
theorem reads_blk {w : World} {G : Nat} {t : TypeId} {u : Value} (h : Blk w G t #[u]) : Reads w w.heap.size 1 (some ⟨G, 0, none⟩) 1 [u] := by
  refine ⟨rfl, fun _ => ⟨_, rfl, h.lt, fun j v hv => ?_⟩⟩
  have ea : Addr.add ⟨G, 0, none⟩ j = ⟨G, 0 + j, none⟩ := by unfold Addr.add; split <;> simp_all
  rw [ea, Nat.zero_add, h.cell j, ← hv]
  simp
theorem reads_take {w : World} {B n k : Nat} {A : Option Addr} {xs : List Value} (h : Reads w B 1 A n xs) (hk : k ≤ n) : Reads w B 1 A k (xs.take k) := by
  refine ⟨by have := h.1; rw [List.length_take]; omega, fun hn => ?_⟩
  obtain ⟨ad, e, hb, hc⟩ := h.2 (by omega)
  exact ⟨ad, e, hb, fun j u hu => hc j u (by
    rw [List.getElem?_take] at hu
    split at hu
    · exact hu
    · cases hu)⟩
theorem reads_nilS (w : World) (B s : Nat) (A : Option Addr) : Reads w B s A 0 [] := ⟨by simp, fun h => absurd h (by omega)⟩
theorem strl_one (l : List ByteArray) : ∀ u ∈ strl l, u.oneCell' = true := fun u hu => by
  obtain ⟨x, _, rfl⟩ := List.mem_map.1 hu
  rfl
theorem plT_yes {x : ByteArray} {l : List ByteArray} {k : Nat} (h : k < l.length) (hx : nlt (sx l k) x = true) : plT x (l.drop k) = 1 + plT x (l.drop (k + 1)) := by
  rw [List.drop_eq_getElem_cons h, plT, ← sx_eq l k h, if_pos hx]; omega
theorem plT_no {x : ByteArray} {l : List ByteArray} {k : Nat} (h : k < l.length) (hx : ¬ nlt (sx l k) x = true) : plT x (l.drop k) = 0 := by
  rw [List.drop_eq_getElem_cons h, plT, ← sx_eq l k h, if_neg hx]
theorem own_lowS {w : World} {b b' n : Nat} {e : TypeId} {v : Value} {xs : List Value} (h : w.ownsRow b e 1 v n xs) (hb : b' ≤ b) : w.ownsRow b' e 1 v n xs := by
  refine ⟨h.1, ?_⟩
  rcases h.2 with h1 | ⟨g, cap, cur, h1, h2, h3⟩
  · exact .inl h1
  · exact .inr ⟨g, cap, cur, h1, by omega, h3⟩
set_option maxRecDepth 100000 in
set_option maxHeartbeats 1000000 in
theorem l1At_strs (A : Option Addr) (c : Nat) (ws : List ByteArray) (t : ByteArray) (w : World) (hS : Strs w w.heap.size A ws) (hl : ws.length ≤ 1073741825) :
    Calls Tryd.prog 48 #[.slice A ws.length c, .string t] w fun e w' => (∃ x : Int, e = .returned (.int .i64 x) ∧ -1 ≤ x ∧ x ≤ ws.length ∧ (0 ≤ x ↔ t ∈ ws)) ∧ w = w' := by
  go_enter Tryd.func48, Tryd.ntmps48
  go_wp2
  go_loop [5] (fun i => ∃ k : Nat, k ≤ ws.length ∧ i = .int .i64 k ∧ ∀ j, j < k → sx ws j ≠ t) (fun i => ws.length - (intOf i).toNat)
  case atStart => exact ⟨0, Nat.zero_le _, rfl, fun j hj => absurd hj (by omega)⟩
  case round =>
    obtain ⟨k, hk, rfl, ht⟩ := hrel
    have HT := Lib.hid ht
    clear ht
    by_cases hlt : k < ws.length
    · obtain ⟨b, off, rfl, hb, hc⟩ := hS (by omega)
      have hck := hc k hlt
      clear hc
      by_cases hy : sx ws k = t
      · have hbe : ((sx ws k).toList == t.toList) = true := by rw [hy]; simp
        have HM := Lib.hid (show t ∈ ws by rw [← hy, sx_eq ws k hlt]; exact List.getElem_mem hlt)
        clear hy
        go_wp2
        go_ret
        exact ⟨⟨(k : Int), rfl, by omega, by omega, fun _ => HM.out, fun _ => by omega⟩, rfl⟩
      · have HN := Lib.hid (show ∀ j, j < k + 1 → sx ws j ≠ t from fun j hj => by
          by_cases e : j = k
          · subst e; exact hy
          · exact HT.out j (by omega))
        have hbe : ((sx ws k).toList == t.toList) = false := by rw [same_name]; simpa using hy
        clear hy
        go_wp2
        go_round
        case rel => exact ⟨k + 1, by omega, by go_num, HN.out⟩
        case measure => simp [intOf]; omega
    · have hd : decide (k < ws.length) = false := by simpa using hlt
      have HN := Lib.hid (show ¬ t ∈ ws from fun hm => by
        obtain ⟨j, hj, e⟩ := List.mem_iff_getElem.1 hm
        exact HT.out j (by omega) (by rw [sx_eq ws j hj]; exact e))
      go_wp2
      go_ret
      exact ⟨⟨-1, rfl, by omega, by omega, fun h => absurd h (by omega), fun h => absurd h HN.out⟩, rfl⟩
set_option maxRecDepth 100000 in
set_option maxHeartbeats 8000000 in
theorem specTablesOf_any (A : Option Addr) (c : Nat) (v : List Nd) (w : World) (hT : Nds w w.heap.size A v) (hf : fitN 1048576 v) (hlv : v.length ≤ 1048576) :
    Calls Tryd.prog 19 #[.slice A v.length c] w (StrOwn (tabsV v) w) := by
  obtain ⟨i0, hi0, hz0, hz1, hz2⟩ := info_parts info_str
  have bc := (Below.refl w.heap.size w).alloc (Nat.le_refl _) (.cells #[] 9)
  have o0 : (w.alloc (.cells #[] 9)).ownsRow w.heap.size 9 1 (.slice (some ⟨w.heap.size, 0, none⟩) 0 0) 0 [] := World.ownsRow_made w #[] 0 (Nat.le_refl _) (Nat.zero_le _) rfl
  have HN := Lib.hid (show ∀ W, Below w.heap.size w W → Nds W W.heap.size A v from fun W h => hT.on h)
  clear hT
  go_enter Tryd.func19, Tryd.ntmps19
  go_wp2
  go_loopw [3, 4] (fun u i wr => ∃ (i' g cc : Nat), i' ≤ v.length ∧ i = .int .i64 i' ∧ (0 < i' → viewB v = true) ∧ u = .slice (some ⟨g, 0, none⟩) (tabsL (v.take i')).length cc ∧ wr.ownsRow w.heap.size 9 1 u (tabsL (v.take i')).length (strl (tabsL (v.take i'))) ∧ Below w.heap.size w wr) (fun _ i _ => v.length - (intOf i).toNat)
  case atStart => exact ⟨0, w.heap.size, 0, Nat.zero_le _, rfl, fun h => absurd h (by omega), rfl, o0, bc⟩
  case round =>
    clear o0 bc
    obtain ⟨i, g, c3, hi, rfl, hvi, rfl, hown, hW⟩ := hrel
    have HVI := Lib.hid hvi
    clear hvi
    by_cases hlt : i < v.length
    rotate_left
    · have hd : decide (i < v.length) = false := by simpa using hlt
      have HE := Lib.hid (show tabsV v = tabsL (v.take i) by
        rw [List.take_of_length_le (by omega)]
        unfold tabsV
        by_cases h0 : 0 < i
        · rw [HVI.out h0]; rfl
        · have : v = [] := List.eq_nil_of_length_eq_zero (by omega)
          subst this
          split <;> rfl)
      go_wp2
      go_ret
      unfold StrOwn
      rw [HE.out]
      exact ⟨g, c3, rfl, hown, hW⟩
    have hTr := HN.out wr hW
    go_wp2_with fail
    refine (specViewOk_any A c v wr hTr hf hlv).mono ?_
    rintro e w1 ⟨rfl, hb1⟩
    have hW1 := bel_step hW hb1
    have hown1 := hown.kept (grown_of_below hb1) (.inr (by simp [Value.ownBlock]))
    clear hown hW hTr hb1
    cases hv : viewB v with
    | false =>
      have h0 : i = 0 := by
        rcases Nat.eq_zero_or_pos i with e | e
        · exact e
        · have := HVI.out e; rw [hv] at this; cases this
      subst h0
      have HE := Lib.hid (show tabsV v = tabsL (v.take 0) by unfold tabsV; rw [hv]; rfl)
      clear hv
      go_wp2
      go_ret
      unfold StrOwn
      rw [HE.out]
      exact ⟨g, c3, rfl, hown1, hW1⟩
    | true =>
    have HV := Lib.hid hv
    have hl9 := (viewB_all hv).2.2
    obtain ⟨b, off, Ac, cc, Az, cz, rfl, hbk, n0, n1, n2, n3, n4, _, _⟩ := (HN.out w1 hW1).here hlt
    obtain ⟨hsr, _, hll⟩ := tabs_good v i (by omega)
    have HS := Lib.hid (tabsL_succ hlt)
    have HSR := Lib.hid hsr
    obtain ⟨l, hl⟩ : ∃ l, tabsL (v.take i) = l := ⟨_, rfl⟩
    rw [hl] at HS HSR hll hown1 ⊢
    clear hv hsr hl
    obtain ⟨nm, hnm⟩ : ∃ nm, (ndx v i).n = nm := ⟨_, rfl⟩
    rw [hnm] at n1
    by_cases hk1 : (ndx v i).k = 1
    rotate_left
    · have hkb : ((ndx v i).k != 1) = true := by simpa using hk1
      have HE := Lib.hid (show tabsL (v.take (i + 1)) = l by rw [HS.out]; unfold addT; rw [if_neg fun h => hk1 h.1])
      clear hk1 n1 n2 n3 n4
      go_wp2
      go_roundw
      case rel => exact ⟨i + 1, g, c3, by omega, by go_num, fun _ => HV.out, by rw [HE.out], by rw [HE.out]; exact hown1, hW1⟩
      case measure => simp [intOf]; omega
    have hkb : ((ndx v i).k != 1) = false := by simpa using hk1
    have HK1 := Lib.hid hk1
    have hS1 : Strs w1 w1.heap.size (some ⟨g, 0, none⟩) l := by
      obtain ⟨A', cap', e1, h1⟩ := strs_of_own hown1
      injection e1 with e1 _ _
      rw [e1]; exact h1
    have HLA := Lib.hid (l1At_strs (some ⟨g, 0, none⟩) c3 l nm w1 hS1 (by omega))
    clear hk1
    go_wp2_with fail
    refine HLA.out.mono ?_
    rintro e w2 ⟨⟨x, rfl, _, _, hxm⟩, rfl⟩
    have HXM := Lib.hid hxm
    clear hxm
    by_cases hx : 0 ≤ x
    · have HE := Lib.hid (show tabsL (v.take (i + 1)) = l by rw [HS.out]; unfold addT; rw [if_neg fun h => h.2 nm (HXM.out.1 hx) hnm.symm])
      clear n0 n1 n2 n3 n4
      go_wp2
      go_roundw
      case rel => exact ⟨i + 1, g, c3, by omega, by go_num, fun _ => HV.out, by rw [HE.out], by rw [HE.out]; exact hown1, hW1⟩
      case measure => simp [intOf]; omega
    have hxb : decide (0 ≤ x) = false := decide_eq_false hx
    have HE := Lib.hid (show tabsL (v.take (i + 1)) = insT nm l by rw [HS.out]; unfold addT; rw [if_pos ⟨HK1.out, fun y hy e => hx (HXM.out.2 (by rw [← hnm, ← e]; exact hy))⟩, hnm])
    obtain ⟨n, hn⟩ : ∃ n, l.length = n := ⟨_, rfl⟩
    have HNL := Lib.hid hn
    have hn9 : n ≤ 9 := by omega
    have HDB := Lib.hid (show ∀ q : Nat, (w1.drewN q).ownsRow w.heap.size 9 1 (.slice (some ⟨g, 0, none⟩) l.length c3) l.length (strl l) ∧ Below w.heap.size w (w1.drewN q) ∧ (w1.drewN q).cell? ⟨b, off + i * 5 + 1, none⟩ = some (.string nm) ∧ b < (w1.drewN q).heap.size from fun q => ⟨hown1, bel_drewN hW1 q, n1, hbk⟩)
    clear hx HXM
    rw [hn]
    go_upto_block 2 with fail
    go_cut [5] (fun s wx => ∃ k : Nat, k ≤ n ∧ s = .int .i64 k ∧ plT nm l = k ∧ ∃ q, wx = w1.drewN q)
    case first =>
      go_wp2
      go_loopw [5] (fun j wr => ∃ k : Nat, k ≤ n ∧ j = .int .i64 k ∧ plT nm l = k + plT nm (l.drop k) ∧ ∃ q, wr = w1.drewN q) (fun j _ => n - (intOf j).toNat)
      case atStart => exact ⟨0, Nat.zero_le _, rfl, by simp, 0, rfl⟩
      case round =>
        obtain ⟨k, hk, rfl, hp, hWn⟩ := hrel
        have HPk := Lib.hid hp
        have HWn := Lib.hid hWn
        have g1r : wr.cell? ⟨b, off + i * 5 + 1, none⟩ = some (.string nm) := by obtain ⟨q, rfl⟩ := hWn; exact n1
        have hSr : Strs wr wr.heap.size (some ⟨g, 0, none⟩) l := by obtain ⟨q, rfl⟩ := hWn; exact hS1
        clear hp hWn
        by_cases hlk : k < n
        · obtain ⟨b2, off2, e2, hb2, hc2⟩ := hSr (by omega)
          injection e2 with e2
          injection e2 with e2 e3 _
          subst e2 e3
          have hck := hc2 k (by omega)
          rw [Nat.zero_add] at hck
          clear hc2
          have hki : (k : Int) < (n : Int) := by omega
          by_cases hls : nlt (sx l k) nm = true
          · have HS2 := Lib.hid (show plT nm l = (k + 1 : Nat) + plT nm (l.drop (k + 1)) by rw [HPk.out, plT_yes (by omega) hls]; omega)
            have hbl : Op.bytesLess (sx l k).toList nm.toList = true := by rw [less_nlt]; exact hls
            go_wp2_with fail
            go_quiet (fail)
            go_wp2
            go_roundw
            case rel => exact ⟨k + 1, by omega, by go_num, HS2.out, drew_more HWn.out _⟩
            case measure => simp [intOf]; omega
          · have HK := Lib.hid (show plT nm l = k by rw [HPk.out, plT_no (by omega) hls]; rfl)
            have hbl : Op.bytesLess (sx l k).toList nm.toList = false := by rw [less_nlt]; simpa using hls
            go_wp2_with fail
            go_quiet (fail)
            have hw5 : ∃ q, wr.drewN nq = w1.drewN q := drew_more HWn.out _
            go_wp2_with fail
            go_meet
            exact ⟨k, hk, rfl, HK.out, hw5⟩
        · have hd : decide (k < n) = false := by simpa using hlk
          have HK := Lib.hid (show plT nm l = k by rw [HPk.out, List.drop_eq_nil_iff.2 (by omega)]; rfl)
          go_wp2_with fail
          go_quiet (fail)
          have hw5 : ∃ q, wr.drewN nq = w1.drewN q := drew_more HWn.out _
          go_wp2_with fail
          go_meet
          exact ⟨k, hk, rfl, HK.out, hw5⟩
    case rest =>
    obtain ⟨k, hk, rfl, hKp, q, rfl⟩ := hcut
    have HK := Lib.hid hKp
    obtain ⟨hown5, hW5, n5, hbk5⟩ := HDB.out q
    generalize w1.drewN q = w5 at *
    clear hKp n0 n1 n2 n3 n4 hown1 hW1 HDB hS1 HLA hbk
    have HONE := Lib.hid (strl_one (l.drop k))
    have HONE2 := Lib.hid (strl_one (l.take k))
    rw [hn] at hown5
    have hgl := (hown5.lt g rfl).2
    have hownF := own_freshS w5 w5.heap.size (Nat.le_refl _)
    have hRall := Reads.of_own hown5
    have hc5 : n ≤ c3 := by
      rcases hown5.2 with ⟨h1, _⟩ | ⟨_, _, _, h1, _, _, h2, _⟩
      · cases h1
      · injection h1 with _ _ e3
        omega
    have hki0 : (0 : Int) ≤ (k : Int) := Int.natCast_nonneg _
    have hki1 : (k : Int) ≤ (n : Int) := by omega
    have hki2 : (k : Int) ≤ (c3 : Int) := by omega
    have hHO5 := Lib.hid (And.intro hown5 (And.intro hW5 n5))
    clear hown5 n5
    go_upto_region 9 with fail
    go_cut [6] (fun s wx => ∃ A8 c8, s = .slice A8 (n - k) c8 ∧ wx.ownsRow w5.heap.size 9 1 s (n - k) (strl (l.drop k)) ∧ Below w5.heap.size w5 wx)
    case first =>
      by_cases hck : c3 = k
      · have hnk : n = k := by omega
        have HDR := Lib.hid (show strl (l.drop k) = [] by rw [List.drop_eq_nil_iff.2 (by omega)]; rfl)
        have HZK := Lib.hid (show n - k = 0 by omega)
        subst hck
        subst hnk
        go_wp2_with (at_builtin; refine wpList_append_any _ (by rfl) (.tmp 52) (.tmp 55) 46 (by rfl) w5.heap.size 9 i0 _ 1 16 Tryd.underlying46 hi0 hz0 hz1 hz2 rfl (by decide) _ 0 [] (by rfl) hownF w5.heap.size (some ⟨g, 0, none⟩) 0 0 [] (by rfl) (reads_nilS _ _ _ _) (fun u hu => by cases hu) (by simp only [maxLen]; omega) (by omega) (by simp) ?_; intro v8 w8 hown8 hg8 hat8)
        simp only [Nat.zero_add, List.nil_append] at hown8
        have hb8 : Below w5.heap.size w5 w8 := ((Below.refl w5.heap.size w5).alloc (Nat.le_refl _) _).grown hg8 (by simp) (fun r e => by have : w5.heap.size = r := Option.some.inj e; omega)
        obtain ⟨A8, c8, hv8⟩ := own_form hown8
        subst hv8
        go_meet
        rw [HDR.out, HZK.out]
        exact ⟨A8, c8, rfl, hown8, hb8⟩
      · have hRk : Reads (w5.alloc (.cells #[] 9)) w5.heap.size 1 (some ⟨g, k, none⟩) (n - k) (strl (l.drop k)) := by
          have h1 := hRall.cut hk hc5
          rw [if_neg hck, Nat.mul_one] at h1
          have e := add_at g k
          rw [Option.map_some, e] at h1
          have h2 := h1.alloc (Nat.le_refl _) (.cells #[] 9)
          unfold strl at h2 ⊢
          rwa [← List.map_drop] at h2
        go_wp2_with (at_builtin; refine wpList_append_any _ (by rfl) (.tmp 52) (.tmp 55) 46 (by rfl) w5.heap.size 9 i0 _ 1 16 Tryd.underlying46 hi0 hz0 hz1 hz2 rfl (by decide) _ 0 [] (by rfl) hownF _ (some ⟨g, k, none⟩) (n - k) _ (strl (l.drop k)) (by rfl) hRk HONE.out (by simp only [maxLen]; omega) (by omega) (by simp) ?_; intro v8 w8 hown8 hg8 hat8)
        simp only [Nat.zero_add, List.nil_append] at hown8
        have hb8 : Below w5.heap.size w5 w8 := ((Below.refl w5.heap.size w5).alloc (Nat.le_refl _) _).grown hg8 (by simp) (fun r e => by have : w5.heap.size = r := Option.some.inj e; omega)
        obtain ⟨A8, c8, hv8⟩ := own_form hown8
        subst hv8
        go_meet
        exact ⟨A8, c8, rfl, hown8, hb8⟩
    case rest =>
      obtain ⟨A8, c8, rfl, hown8, hb8⟩ := hcut
      have hWc : Below w.heap.size w wc := hHO5.out.2.1.trans (hb8.mono hW5.size)
      have d1 : wc.cell? ⟨b, off + i * 5 + 1, none⟩ = some (.string nm) := (hb8.cell (p := ⟨b, off + i * 5 + 1, none⟩) hbk5).trans hHO5.out.2.2
      have hs8 := hb8.size
      have hsw := hWc.size
      have hbk : b < wc.heap.size := by omega
      have HR8 : Hid (Reads wc wc.heap.size 1 (some ⟨g, 0, none⟩) k (strl (l.take k))) := Lib.hid (by
        have h2 := (reads_take hRall hk).below hb8
        have h3 := h2.more hs8
        unfold strl at h3 ⊢
        rwa [← List.map_take] at h3)
      have hkp : k + 1 + (n - k) ≤ 10 := by omega
      have HXX := Lib.hid d1
      clear hownF hb8 hHO5 hRall hW5
      go_wp2_with fail
      have HB := Lib.hid (show ((wc.alloc (.cells #[] 9)).alloc (.cells #[.string nm] 9)).ownsRow wc.heap.size 9 1 (.slice (some ⟨wc.heap.size, 0, none⟩) 0 0) 0 [] ∧ Blk ((wc.alloc (.cells #[] 9)).alloc (.cells #[.string nm] 9)) (wc.heap.size + 1) 9 #[.string nm] ∧ Reads ((wc.alloc (.cells #[] 9)).alloc (.cells #[.string nm] 9)) wc.heap.size 1 (some ⟨g, 0, none⟩) k (strl (l.take k)) ∧ Below wc.heap.size wc ((wc.alloc (.cells #[] 9)).alloc (.cells #[.string nm] 9)) from ⟨(own_freshS wc _ (Nat.le_refl _)).alloc _, by have := Blk.new (wc.alloc (.cells #[] 9)) 9 #[.string nm]; rwa [World.size_alloc] at this, (HR8.out.alloc (Nat.le_refl _) _).alloc (by rw [World.size_alloc]; omega) _, bel_two _ _⟩)
      have HC := Lib.hid (show ((wc.alloc (.cells #[.string nm] 9)).alloc (.cells #[] 9)).ownsRow wc.heap.size 9 1 (.slice (some ⟨wc.heap.size + 1, 0, none⟩) 0 0) 0 [] ∧ Blk ((wc.alloc (.cells #[.string nm] 9)).alloc (.cells #[] 9)) wc.heap.size 9 #[.string nm] ∧ Reads ((wc.alloc (.cells #[.string nm] 9)).alloc (.cells #[] 9)) wc.heap.size 1 (some ⟨g, 0, none⟩) k (strl (l.take k)) ∧ Below wc.heap.size wc ((wc.alloc (.cells #[.string nm] 9)).alloc (.cells #[] 9)) from ⟨by have := own_freshS (wc.alloc (.cells #[.string nm] 9)) wc.heap.size (by rw [World.size_alloc]; omega); rwa [World.size_alloc] at this, (Blk.new wc 9 #[.string nm]).alloc _, (HR8.out.alloc (Nat.le_refl _) _).alloc (by rw [World.size_alloc]; omega) _, bel_two _ _⟩)
      go_region_held3 (fun w' => w'.cell? ⟨b, off + i * 5 + 1, none⟩ = some (.string nm))
            (first | go_keep | exact (hb11.cell (p := ⟨b, off + i * 5 + 1, none⟩) hbk).trans HXX.out | exact (hb10.cell (p := ⟨b, off + i * 5 + 1, none⟩) hbk).trans HXX.out | exact (hb9.cell (p := ⟨b, off + i * 5 + 1, none⟩) hbk).trans HXX.out)
            (first
              | (refine step_append_any _ (by rfl) (.tmp 68) (.tmp 69) 46 (by rfl) wc.heap.size 9 i0 _ 1 16 Tryd.underlying46 hi0 hz0 hz1 hz2 rfl (by decide) _ (k + 1) (strl (l.take k) ++ [.string nm]) (by rfl) hown10 _ A8 (n - k) c8 (strl (l.drop k)) (by rfl) (Reads.of_own hown8A) HONE.out (by simp only [maxLen]; omega) (by omega) (by have := hb10.size; omega) ?_; intro v11 w11 hown11 hg11 hat11; obtain ⟨A11, c11, hv11⟩ := own_form hown11; subst hv11; have hb11 : Below wc.heap.size wc w11 := hb10.grown hg11 (by have := hb10.size; omega) (fun r e => (hown10.lt r e).1))
              | (have _ := BNB; refine step_append_any _ (by rfl) (.tmp 61) (.tmp 67) 46 (by rfl) wc.heap.size 9 i0 _ 1 16 Tryd.underlying46 hi0 hz0 hz1 hz2 rfl (by decide) _ k (strl (l.take k)) (by rfl) hown9 _ (some ⟨wc.heap.size + 1, 0, none⟩) 1 1 [.string nm] (by rfl) (reads_blk BNB) (by simp [Value.oneCell']) (by simp only [maxLen]; omega) (by omega) (by have := hb9.size; omega) ?_; intro v10 w10 hown10 hg10 hat10; obtain ⟨A10, c10, hv10⟩ := own_form hown10; subst hv10; have hb10 : Below wc.heap.size wc w10 := hb9.grown hg10 (by have := hb9.size; omega) (fun r e => (hown9.lt r e).1); have hown8A := own_keepB hown8 (fun r e => hb10.block r (hown8.lt r e).2))
              | (have _ := BNC; refine step_append_any _ (by rfl) (.tmp 61) (.tmp 67) 46 (by rfl) wc.heap.size 9 i0 _ 1 16 Tryd.underlying46 hi0 hz0 hz1 hz2 rfl (by decide) _ k (strl (l.take k)) (by rfl) hown9 _ (some ⟨wc.heap.size, 0, none⟩) 1 1 [.string nm] (by rfl) (reads_blk BNC) (by simp [Value.oneCell']) (by simp only [maxLen]; omega) (by omega) (by have := hb9.size; omega) ?_; intro v10 w10 hown10 hg10 hat10; obtain ⟨A10, c10, hv10⟩ := own_form hown10; subst hv10; have hb10 : Below wc.heap.size wc w10 := hb9.grown hg10 (by have := hb9.size; omega) (fun r e => (hown9.lt r e).1); have hown8A := own_keepB hown8 (fun r e => hb10.block r (hown8.lt r e).2))
              | (refine step_append_any _ (by rfl) (.tmp 61) (.tmp 67) 46 (by rfl) wc.heap.size 9 i0 _ 1 16 Tryd.underlying46 hi0 hz0 hz1 hz2 rfl (by decide) _ k (strl (l.take k)) (by rfl) (hown9.alloc _) _ (some ⟨w9.heap.size, 0, none⟩) 1 1 [.string nm] (by rfl) (reads_blk (Blk.new w9 9 #[.string nm])) (by simp [Value.oneCell']) (by simp only [maxLen]; omega) (by omega) (by rw [World.size_alloc]; have := hb9.size; omega) ?_; intro v10 w10 hown10 hg10 hat10; obtain ⟨A10, c10, hv10⟩ := own_form hown10; subst hv10; have hb10 : Below wc.heap.size wc w10 := (hb9.alloc (by have := hb9.size; omega) _).grown hg10 (by rw [World.size_alloc]; have := hb9.size; omega) (fun r e => (hown9.lt r e).1); have hown8A := own_keepB hown8 (fun r e => hb10.block r (hown8.lt r e).2))
              | (refine step_append_any _ (by rfl) (.tmp 57) (.tmp 60) 46 (by rfl) wc.heap.size 9 i0 _ 1 16 Tryd.underlying46 hi0 hz0 hz1 hz2 rfl (by decide) _ 0 [] (by rfl) HB.out.1 _ (some ⟨g, 0, none⟩) k _ (strl (l.take k)) (by rfl) HB.out.2.2.1 HONE2.out (by simp only [maxLen]; omega) (by omega) (by have := HB.out.2.2.2.size; exact this) ?_; intro v9 w9 hown9 hg9 hat9; simp only [Nat.zero_add, List.nil_append] at hown9; obtain ⟨A9, c9, hv9⟩ := own_form hown9; subst hv9; have hb9 : Below wc.heap.size wc w9 := Below.grown (bel_drewN HB.out.2.2.2 1) hg9 (by have := HB.out.2.2.2.size; exact this) (fun r e => by have : wc.heap.size = r := Option.some.inj e; omega); have BNB := Blk.grown (HB.out.2.1.drewN 1) hg9 (fun e => by have : wc.heap.size + 1 = wc.heap.size := Option.some.inj e; omega))
              | (refine step_append_any _ (by rfl) (.tmp 57) (.tmp 60) 46 (by rfl) wc.heap.size 9 i0 _ 1 16 Tryd.underlying46 hi0 hz0 hz1 hz2 rfl (by decide) _ 0 [] (by rfl) HC.out.1 _ (some ⟨g, 0, none⟩) k _ (strl (l.take k)) (by rfl) HC.out.2.2.1 HONE2.out (by simp only [maxLen]; omega) (by omega) (by have := HC.out.2.2.2.size; exact this) ?_; intro v9 w9 hown9 hg9 hat9; simp only [Nat.zero_add, List.nil_append] at hown9; obtain ⟨A9, c9, hv9⟩ := own_form hown9; subst hv9; have hb9 : Below wc.heap.size wc w9 := Below.grown (bel_drewN HC.out.2.2.2 1) hg9 (by have := HC.out.2.2.2.size; exact this) (fun r e => by have : wc.heap.size + 1 = r := Option.some.inj e; omega); have BNC := Blk.grown (HC.out.2.1.drewN 1) hg9 (fun e => by have : wc.heap.size = wc.heap.size + 1 := Option.some.inj e; omega))
              | (refine step_append_any _ (by rfl) (.tmp 57) (.tmp 60) 46 (by rfl) wc.heap.size 9 i0 _ 1 16 Tryd.underlying46 hi0 hz0 hz1 hz2 rfl (by decide) _ 0 [] (by rfl) (own_freshS wc _ (Nat.le_refl _)) _ (some ⟨g, 0, none⟩) k _ (strl (l.take k)) (by rfl) (HR8.out.alloc (Nat.le_refl _) _) HONE2.out (by simp only [maxLen]; omega) (by omega) (by simp) ?_; intro v9 w9 hown9 hg9 hat9; simp only [Nat.zero_add, List.nil_append] at hown9; obtain ⟨A9, c9, hv9⟩ := own_form hown9; subst hv9; have hb9 : Below wc.heap.size wc w9 := Below.grown (bel_drewN ((Below.refl wc.heap.size wc).alloc (Nat.le_refl _) (.cells #[] 9)) 1) hg9 (by show _ ≤ (wc.alloc _).heap.size; simp) (fun r e => by have : wc.heap.size = r := Option.some.inj e; omega)))
      all_goals
        have HF := Lib.hid (show (∃ g2 c2, Value.slice A11 (k + 1 + (n - k)) c11 = .slice (some ⟨g2, 0, none⟩) (tabsL (v.take (i + 1))).length c2) ∧ w11.ownsRow w.heap.size 9 1 (.slice A11 (k + 1 + (n - k)) c11) (tabsL (v.take (i + 1))).length (strl (tabsL (v.take (i + 1)))) ∧ Below w.heap.size w w11 from by
          have hlen : (insT nm l).length = k + 1 + (n - k) := by rw [insT_eq, List.length_append, List.length_cons, List.length_take, List.length_drop, HK.out, HNL.out]; omega
          have hst : strl (insT nm l) = strl (l.take k) ++ [.string nm] ++ strl (l.drop k) := by rw [insT_eq, HK.out]; unfold strl; rw [List.map_append, List.map_cons, List.append_assoc]; rfl
          rw [HE.out, hlen, hst]
          obtain ⟨g2, c2, e⟩ : ∃ g2 c2, Value.slice A11 (k + 1 + (n - k)) c11 = .slice (some ⟨g2, 0, none⟩) (k + 1 + (n - k)) c2 := by
            have h9 := hown11
            rw [show k + 1 + (n - k) = (k + (n - k)) + 1 by omega] at h9 ⊢
            exact str_some h9
          exact ⟨⟨g2, c2, e⟩, own_lowS hown11 hsw, hWc.trans (hb11.mono hsw)⟩)
        obtain ⟨⟨g2, c2, e2⟩, ho2, hb2⟩ := HF.out
        rw [e2]
        rw [e2] at ho2
        have HO2 := Lib.hid ho2
        clear ho2 hown11
        go_wp2_with fail
        go_roundw
        case rel => exact ⟨i + 1, g2, c2, by omega, by go_num, fun _ => HV.out, rfl, HO2.out, hb2⟩
        case measure => simp [intOf]; omega
end Go.Proofs.YtpadhcoboapodaaDoor
