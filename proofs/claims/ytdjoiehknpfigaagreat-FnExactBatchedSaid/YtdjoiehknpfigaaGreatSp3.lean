/- The model's l6Do; nothing that lay has turned but the base that it is given, which is the call's own. -/
import Derived.Test.YtdjoiehknpfigaaGreatSp2
import Derived.Test.YtdjoiehknpfigaaGreatSpF
import Derived.Test.YtdjoiehknpfigaaGreatDeed2
import Derived.Deep.RegionLaw
import Derived.Deep.RegionHeld3
import Derived.Test.YtdjoiehknpfigaaGreatDeedThy
namespace Go.Proofs.YtdjoiehknpfigaaGreat
open Go.RowKit

theorem doR_make (ts : List TB) (n : ByteArray) (z : List Int) : doR ts ⟨5, n, z⟩ = makeB ts n (ky z) := by unfold doR; rw [if_pos rfl]; rfl
theorem doR_at {ts : List TB} {k : Int} {n : ByteArray} {z : List Int} (h : k ≠ 5) (hi : fndN ts n < ts.length) : doR ts ⟨k, n, z⟩ = atB ts (fndN ts n) k z := by unfold doR; rw [if_neg h, if_pos hi]
theorem doR_none {ts : List TB} {k : Int} {n : ByteArray} {z : List Int} (h : k ≠ 5) (hi : ¬ fndN ts n < ts.length) : doR ts ⟨k, n, z⟩ = (ts, 1) := by unfold doR; rw [if_neg h, if_neg hi]
theorem PXs.dropped {w : World} {lo : Nat} {xs : List PX} (h : PXs w lo xs) (k : Nat) : PXs w lo (xs.take k ++ xs.drop (k + 1)) := fun y hy => by
  rcases List.mem_append.1 hy with hy | hy
  · exact h y (List.mem_of_mem_take hy)
  · exact h y (List.mem_of_mem_drop hy)
theorem SBs.cells {w : World} {lo g n c : Nat} {xs : List PX} (h : SBs w lo (.slice (some ⟨g, 0, none⟩) n c) xs) {j : Nat} (hj : j < xs.length) : w.cell? ⟨g, j * 3, none⟩ = some (.string xs[j].t.n) ∧ w.cell? ⟨g, j * 3 + 1, none⟩ = some (.int .i64 xs[j].t.wd) ∧ w.cell? ⟨g, j * 3 + 2, none⟩ = some xs[j].u ∧ (∀ i, w.frozen? ⟨g, i, none⟩ = false) := by
  rcases h.1.2 with ⟨h1, _⟩ | ⟨g', cap, cur, hv, _, hh, _, _, _, htk⟩
  · cases h1
  · injection hv with hv _ _
    injection hv with hv
    injection hv with hv _ _
    subst hv
    have hB : Blk w g 55 cur := hh
    have cell : ∀ i, i < 3 → w.cell? ⟨g, j * 3 + i, none⟩ = (pcs xs[j])[i]? := fun i hi => by
      rw [hB.cell]
      have e : (cur.toList.take (xs.length * 3))[j * 3 + i]? = (pflat xs)[j * 3 + i]? := by rw [htk]
      rw [List.getElem?_take, if_pos (by omega), Array.getElem?_toList, pflat_get hj hi] at e
      exact e
    exact ⟨cell 0 (by omega), cell 1 (by omega), cell 2 (by omega), fun i => hB.frozen i⟩

theorem SBs.far3 {w : World} {lo G : Nat} {v : Value} {xs : List PX} {cs : Array Value} (h : SBs w lo v xs) (hB : Blk w G 55 cs) (hne : ∀ b, v.ownBlock = some b → b ≠ G) (i j k : Nat) (a b c : Value) : SBs (((w.setCell ⟨G, i, none⟩ a).setCell ⟨G, j, none⟩ b).setCell ⟨G, k, none⟩ c) lo v xs :=
  ⟨own_keepB h.1 (fun q hq => heap_set3 w G i j k a b c q (hne q hq)), fun x hx => ⟨(h.2 x hx).1.set3 hB i j k a b c, (h.2 x hx).2⟩⟩
set_option maxRecDepth 100000 in
set_option maxHeartbeats 1500000 in
theorem l6Do_any (lo : Nat) (Ab : Option Addr) (cb : Nat) (xs : List PX) (ts : List TB) (dk : Int) (n : ByteArray) (Az : Option Addr) (cz : Nat) (z : List Int) (w : World) (hlo : lo ≤ w.heap.size) (hS : SBs w lo (.slice Ab ts.length cb) xs) (hd : xs.map PX.t = ts) (hok : baseB ts = true) (hI : Ints w w.heap.size Az z) (hdd : deedB dk n z = true) :
    Calls Tryz.prog 27 #[.slice Ab ts.length cb, .agg #[.int .i64 dk, .string n, .slice Az z.length cz]] w (SAns lo (doR ts ⟨dk, n, z⟩) w) := by
  obtain ⟨i0, hi0, hz0', hz1, hz2⟩ := info_parts info_tableT
  obtain ⟨hl4, htw⟩ := base_tw hok
  have hf : fitT 1048576 ts := fitT_of (by omega)
  obtain ⟨hdn, hdr, hdk⟩ := deedB_all hdd
  obtain ⟨k1, k6, kz⟩ := kindB_kind hdk
  have hz6 := rowOkB_six hdr
  obtain ⟨P, hP⟩ : ∃ P, doR ts ⟨dk, n, z⟩ = P := ⟨_, rfl⟩
  have HPQ := Lib.hid hP
  rw [hP]
  have HOKT := Lib.hid (base_iff.1 hok).1
  have bc := (Below.refl w.heap.size w).alloc (Nat.le_refl _) (.cells #[.int .i64 dk, .string n, .slice Az z.length cz] 32)
  have BG := Blk.new w 32 #[.int .i64 dk, .string n, .slice Az z.length cz]
  have hS1 := hS.on bc
  have hI1 := hI.on bc
  have hW1 : Below lo w _ := bc.mono hlo
  have hlo1 : lo ≤ (w.alloc (.cells #[.int .i64 dk, .string n, .slice Az z.length cz] 32)).heap.size := by have := bc.size; omega
  have HD := Lib.hid hd
  have HF := Lib.hid hf
  have KZ := Lib.hid kz
  clear hS hI hd hf hP bc hok hdd hdn hdr hdk kz
  obtain ⟨g0, g1, g2⟩ := BG.c3
  by_cases h5 : dk = 5
  · subst h5
    have hz0 : 0 < z.length := by have := KZ.out; omega
    go_enter Tryz.func27, Tryz.ntmps27
    go_wp2_with fail
    generalize w.alloc (.cells #[.int .i64 5, .string n, .slice Az z.length cz] 32) = wb at *
    refine (l6Make_any lo Ab cb xs ts 5 n Az cz z wb hlo1 hS1 HD.out HF.out hl4 hI1 hz0).mono ?_
    rintro e w1 ⟨v, ys, rfl, hS2, hd2, hb⟩
    rw [← doR_make ts n z, HPQ.out] at hd2 ⊢
    have hW2 := hW1.trans hb
    go_wp2
    refine bodyPost_ret (v := .tuple #[v, .int .i64 P.2]) (by simp [results, Tryz.f27, go_sem, *]) rfl ?_
    exact ⟨v, ys, rfl, hS2, hd2, hW2⟩
  have h5b : (dk == 5) = false := by simpa using h5
  go_enter Tryz.func27, Tryz.ntmps27
  go_wp2_with fail
  generalize w.alloc (.cells #[.int .i64 dk, .string n, .slice Az z.length cz] 32) = wb at *
  have hT := hS1.tabs HD.out HF.out
  refine (l6Find_any Ab cb ts n wb wb.heap.size hT (by omega)).mono ?_
  rintro e w1 ⟨rfl, hw1⟩
  subst hw1
  by_cases hi : fndN ts n < ts.length
  rotate_left
  · rw [findN_no hi]
    have HPE := Lib.hid (show P = (ts, 1) by rw [← HPQ.out]; exact doR_none h5 hi)
    clear hi
    go_wp2
    refine bodyPost_ret (v := .tuple #[.slice Ab ts.length cb, .int .i64 1]) (by simp [results, Tryz.f27, go_sem, *]) rfl ?_
    exact ⟨_, xs, by rw [HPE.out], hS1, by rw [HPE.out]; exact HD.out, hW1⟩
  rw [findN_yes hi]
  have HPA := Lib.hid (show P = atB ts (fndN ts n) dk z by rw [← HPQ.out]; exact doR_at h5 hi)
  generalize fndN ts n = i at *
  have hxl : xs.length = ts.length := by rw [← HD.out, List.length_map]
  rcases hS1.shape with ⟨g, rfl, hg1, hg2, hcap⟩ | ⟨rfl, rfl, rfl⟩
  rotate_left
  · exact absurd hi (by rw [← hxl]; simp)
  have hcb : ts.length ≤ cb := by omega
  have hi0' : (0 : Int) ≤ (i : Int) := Int.natCast_nonneg _
  have hi1 : (i : Int) < (ts.length : Int) := by omega
  have hi2 : decide ((i : Int) < 0) = false := by simp
  clear hT h5
  by_cases h6 : dk = 6
  · subst h6
    have HPE := Lib.hid (show P = (dropN ts i, 0) by rw [HPA.out]; unfold atB; rw [if_pos rfl])
    obtain ⟨k1, hk1⟩ : ∃ k1 : Nat, k1 = i + 1 := ⟨_, rfl⟩
    have hwk : IntKind.i64.wrap ((i : Int) + 1) = (k1 : Int) := by rw [IntKind.wrap_i64]; omega
    have hi3 : (k1 : Int) ≤ (ts.length : Int) := by omega
    have hi4 : (0 : Int) ≤ (k1 : Int) := by omega
    have hi5 : (i : Int) ≤ (ts.length : Int) := by omega
    have hi6 : (i : Int) ≤ (cb : Int) := by omega
    have hi7 : (k1 : Int) ≤ (cb : Int) := by omega
    have hi8 : (i : Int) ≤ (k1 : Int) := by omega
    have hi9 : i ≤ k1 := by omega
    have hia : k1 ≤ ts.length := by omega
    have HK1 := Lib.hid hk1
    have HRT := Lib.hid (hS1.readsTo hxl.symm (by omega : i ≤ ts.length))
    have HONE := Lib.hid (show ∀ u ∈ pflat (xs.drop k1), u.oneCell' = true from (show PXs wb lo (xs.drop k1) from fun x hx => hS1.2 x (List.mem_of_mem_drop hx)).one)
    have HONE2 := Lib.hid (show ∀ u ∈ pflat (xs.take i), u.oneCell' = true from (show PXs wb lo (xs.take i) from fun x hx => hS1.2 x (List.mem_of_mem_take hx)).one)
    have hown5 := own_fresh wb wb.heap.size (Nat.le_refl _)
    have HPX := Lib.hid (show PXs wb lo (xs.take i ++ xs.drop k1) by rw [hk1]; exact hS1.2.dropped i)
    have HYM := Lib.hid (show (xs.take i ++ xs.drop k1).map PX.t = dropN ts i by unfold dropN; rw [hk1, List.map_append, List.map_take, List.map_drop, HD.out])
    have HYF := Lib.hid (show pflat (xs.take i ++ xs.drop k1) = pflat (xs.take i) ++ pflat (xs.drop k1) from pflat_append _ _)
    by_cases hck : cb = k1
    · subst hck
      have hlen : ts.length = cb := by omega
      have HYL := Lib.hid (show (xs.take i ++ xs.drop cb).length = i + 0 by simp [hxl]; omega)
      have HDR := Lib.hid (show pflat (xs.drop cb) = [] by rw [List.drop_eq_nil_iff.2 (by omega)]; rfl)
      clear hlen hcap hxl hk1
      go_wp2_with fail
      go_region_law (first
        | (refine step_append_any _ (by rfl) (.tmp 35) (.tmp 39) 28 (by rfl) wb.heap.size 55 i0 _ 3 48 Tryz.underlying28 hi0 hz0' hz1 hz2 rfl (by decide) _ i (pflat (xs.take i)) (by rfl) hown9 _ (some ⟨g, 0, none⟩) 0 _ [] (by rfl) (reads_nil _ w9.heap.size _ _) one_nil (by simp only [maxLen]; omega) (by omega) (by have := hb9.size; omega) ?_; intro v10 w10 hown10 hg10 hat10; obtain ⟨A10, c10, hv10⟩ := own_form3 hown10; subst hv10; have hb10 : Below wb.heap.size wb w10 := hb9.grown hg10 (by have := hb9.size; omega) (fun r e => (hown9.lt r e).1))
        | (refine step_append_any _ (by rfl) (.tmp 31) (.tmp 34) 28 (by rfl) wb.heap.size 55 i0 _ 3 48 Tryz.underlying28 hi0 hz0' hz1 hz2 rfl (by decide) _ 0 [] (by rfl) hown5 _ (some ⟨g, 0, none⟩) i _ (pflat (xs.take i)) (by rfl) (HRT.out.alloc (Nat.le_refl _) _) HONE2.out (by simp only [maxLen]; omega) (by omega) (by simp) ?_; intro v9 w9 hown9 hg9 hat9; simp only [Nat.zero_add, List.nil_append] at hown9; obtain ⟨A9, c9, hv9⟩ := own_form3 hown9; subst hv9; have hb9 : Below wb.heap.size wb w9 := Below.grown (bel_drewN ((Below.refl wb.heap.size wb).alloc (Nat.le_refl _) (.cells #[] 55)) 1) hg9 (by show _ ≤ (wb.alloc _).heap.size; simp) (fun r e => by have : wb.heap.size = r := Option.some.inj e; omega)))
      all_goals
        go_wp2_with fail
        refine bodyPost_ret (v := .tuple #[.slice A10 (i + 0) c10, .int .i64 0]) (by simp [results, Tryz.f27, go_sem, *]) rfl ?_
        rw [HPE.out]
        exact ⟨_, xs.take i ++ xs.drop cb, rfl, SBs.made HPX.out hb10 (by rw [HYL.out, HYF.out, HDR.out]; exact hown10) hlo1, HYM.out, hW1.trans (hb10.mono hlo1)⟩
    · have HYL := Lib.hid (show (xs.take i ++ xs.drop k1).length = i + (ts.length - k1) by simp [hxl]; omega)
      have HRF := Lib.hid (show ∀ W, Below wb.heap.size wb W → Reads W W.heap.size 3 (some ⟨g, k1 * 3, none⟩) (ts.length - k1) (pflat (xs.drop k1)) from fun W h => (hS1.on h).readsFrom hxl.symm (by omega) hcb hck)
      clear hcap hxl hk1
      go_wp2_with fail
      go_region_law (first
        | (refine step_append_any _ (by rfl) (.tmp 35) (.tmp 39) 28 (by rfl) wb.heap.size 55 i0 _ 3 48 Tryz.underlying28 hi0 hz0' hz1 hz2 rfl (by decide) _ i (pflat (xs.take i)) (by rfl) hown9 _ (some ⟨g, k1 * 3, none⟩) (ts.length - k1) _ (pflat (xs.drop k1)) (by rfl) (HRF.out w9 hb9) HONE.out (by simp only [maxLen]; omega) (by omega) (by have := hb9.size; omega) ?_; intro v10 w10 hown10 hg10 hat10; obtain ⟨A10, c10, hv10⟩ := own_form3 hown10; subst hv10; have hb10 : Below wb.heap.size wb w10 := hb9.grown hg10 (by have := hb9.size; omega) (fun r e => (hown9.lt r e).1))
        | (refine step_append_any _ (by rfl) (.tmp 31) (.tmp 34) 28 (by rfl) wb.heap.size 55 i0 _ 3 48 Tryz.underlying28 hi0 hz0' hz1 hz2 rfl (by decide) _ 0 [] (by rfl) hown5 _ (some ⟨g, 0, none⟩) i _ (pflat (xs.take i)) (by rfl) (HRT.out.alloc (Nat.le_refl _) _) HONE2.out (by simp only [maxLen]; omega) (by omega) (by simp) ?_; intro v9 w9 hown9 hg9 hat9; simp only [Nat.zero_add, List.nil_append] at hown9; obtain ⟨A9, c9, hv9⟩ := own_form3 hown9; subst hv9; have hb9 : Below wb.heap.size wb w9 := Below.grown (bel_drewN ((Below.refl wb.heap.size wb).alloc (Nat.le_refl _) (.cells #[] 55)) 1) hg9 (by show _ ≤ (wb.alloc _).heap.size; simp) (fun r e => by have : wb.heap.size = r := Option.some.inj e; omega)))
      all_goals
        go_wp2_with fail
        refine bodyPost_ret (v := .tuple #[.slice A10 (i + (ts.length - k1)) c10, .int .i64 0]) (by simp [results, Tryz.f27, go_sem, *]) rfl ?_
        rw [HPE.out]
        exact ⟨_, xs.take i ++ xs.drop k1, rfl, SBs.made HPX.out hb10 (by rw [HYL.out, HYF.out]; exact hown10) hlo1, HYM.out, hW1.trans (hb10.mono hlo1)⟩
  obtain ⟨X, hX⟩ : ∃ X, xs[i]'(by omega) = X := ⟨_, rfl⟩
  have hXt : tx ts i = X.t := by rw [px_t HD.out (show i < xs.length by omega), hX]
  obtain ⟨hXO, hXe⟩ := hS1.2 X (by rw [← hX]; exact List.getElem_mem _)
  obtain ⟨Au, cu, hXu⟩ := hXO.formW hXe
  rw [hXu] at hXO
  obtain ⟨x0, x1, x2, _⟩ := hS1.cells (show i < xs.length by omega)
  rw [hX] at x0 x1 x2
  rw [hXu] at x2
  have tok : X.t.ok = true := by rw [← hXt]; exact HOKT.out _ (tx_mem hi)
  obtain ⟨hnb, hrl, hrb⟩ := HF.out i hi
  rw [hXt] at hnb hrl hrb
  have hz0 : 0 < z.length := by have := KZ.out; omega
  have hzi : (0 : Int) < (z.length : Int) := by omega
  obtain ⟨bz, oz, rfl, hbz, cz0⟩ := hI1.first hz0
  have hGd := BG.lt
  have HPT := Lib.hid (show ∀ (W : World) (rows : List (List Int)) (A : Option Addr) (c : Nat) (es : List Ent), lo ≤ W.heap.size → ORows W lo (.slice A rows.length c) es → es.map Ent.r = rows → tabB X.t.n X.t.wd rows = true → (∀ j, j < rows.length → (rr rows j).length ≤ 1048576) → Below wb.heap.size wb W → Calls Tryz.prog 47 #[.agg #[.string X.t.n, .int .i64 X.t.wd, .slice A rows.length c], .slice (some ⟨bz, oz, none⟩) z.length cz] W (PutAns lo X.t.n X.t.wd (putT ⟨X.t.n, X.t.wd, rows⟩ z) W) from
    fun W rows A c es h1 h2 h3 h4 h5 h6 => l6Put_any lo X.t.n X.t.wd rows A c es (some ⟨bz, oz, none⟩) cz z W h1 h2 h3 h4 h5 hnb (hI1.on h6) hz0 (by omega))
  have hXa := hXO.on ((Below.refl wb.heap.size wb).alloc (Nat.le_refl _) (.cells #[.string ⟨#[]⟩, .int .i64 0, .slice none 0 0] 55))
  have hba := (Below.refl wb.heap.size wb).alloc (Nat.le_refl _) (.cells #[.string ⟨#[]⟩, .int .i64 0, .slice none 0 0] 55)
  have HXX := Lib.hid (And.intro x0 (And.intro x1 (And.intro x2 (And.intro g2 cz0))))
  have HSB := Lib.hid hS1
  have HXI := Lib.hid hX
  have n0 := World.new_ne wb _ x0
  have n1 := World.new_ne wb _ x1
  have n2 := World.new_ne wb _ x2
  have n3 := World.new_ne wb _ g2
  have n4 := World.new_ne wb _ cz0
  by_cases h1 : dk = 1
  · subst h1
    have HPE := Lib.hid (show P = (ts.set i (putT X.t z).1, (putT X.t z).2) by rw [HPA.out]; unfold atB; rw [if_neg (by decide), if_pos rfl, hXt])
    go_upto_region 9 with fail
    go_cut [7, 8] (fun s t wx => ∃ G u es3, s = .pointer (some ⟨G, 0, none⟩) ∧ t = .int .i64 (putT X.t z).2 ∧ Blk wx G 55 #[.string X.t.n, .int .i64 X.t.wd, u] ∧ wb.heap.size ≤ G ∧ ORows wx lo u es3 ∧ es3.map Ent.r = (putT X.t z).1.rows ∧ Below wb.heap.size wb wx)
    case first =>
      go_region_held3 (fun w' => w'.cell? ⟨g, i * 3, none⟩ = some (.string X.t.n) ∧ w'.cell? ⟨g, i * 3 + 1, none⟩ = some (.int .i64 X.t.wd) ∧ w'.cell? ⟨g, i * 3 + 2, none⟩ = some (.slice Au X.t.rows.length cu) ∧ w'.cell? ⟨w.heap.size, 2, none⟩ = some (.slice (some ⟨bz, oz, none⟩) z.length cz))
        (first | go_keep | exact ⟨k0, k1', k2, k3⟩)
        (first | (go_at_call 47; refine (HPT.out _ X.t.rows Au cu X.es (by first | exact hlo1 | (show lo ≤ (wb.alloc _).heap.size; rw [World.size_alloc]; omega)) (by first | exact hXO | exact hXa) hXe tok hrb (by first | exact bel_drewN (Below.refl _ _) 1 | exact bel_drewN hba 1)).mono ?_; rintro e w3 ⟨u3, es3, rfl, hO3, he3, hb3⟩; obtain ⟨A3, c3, rfl⟩ := hO3.form; (first | (have hx : Below wb.heap.size wb w3 := (bel_drewN ((Below.refl wb.heap.size wb).alloc (Nat.le_refl _) (.cells #[.string ⟨#[]⟩, .int .i64 0, .slice none 0 0] 55)) 1).trans (hb3.mono (by simp)); have B3 : Blk w3 wb.heap.size 55 #[.string ⟨#[]⟩, .int .i64 0, .slice none 0 0] := ((Blk.new wb 55 #[.string ⟨#[]⟩, .int .i64 0, .slice none 0 0]).drewN 1).below hb3 (by simp); have q0 : w3.cell? ⟨wb.heap.size, 0, none⟩ = some (.string ⟨#[]⟩) := B3.cell 0; have q1 : w3.cell? ⟨wb.heap.size, 1, none⟩ = some (.int .i64 0) := B3.cell 1; have q2 : w3.cell? ⟨wb.heap.size, 2, none⟩ = some (.slice none 0 0) := B3.cell 2; have f0 := B3.frozen 0; have f1 := B3.frozen 1; have f2 := B3.frozen 2) | (have hx : Below wb.heap.size wb w3 := (bel_drewN (Below.refl _ _) 1).trans hb3)); have k0 := (hx.cell (p := ⟨g, i * 3, none⟩) hg2).trans HXX.out.1; have k1' := (hx.cell (p := ⟨g, i * 3 + 1, none⟩) hg2).trans HXX.out.2.1; have k2 := (hx.cell (p := ⟨g, i * 3 + 2, none⟩) hg2).trans HXX.out.2.2.1; have k3 := (hx.cell (p := ⟨w.heap.size, 2, none⟩) hGd).trans HXX.out.2.2.2.1))
      all_goals
        go_wp2_with fail
        go_meet
        first
          | exact ⟨w3.heap.size, .slice A3 es3.length c3, es3, rfl, rfl, Blk.new w3 _ _, hx.size, hO3.on ((Below.refl w3.heap.size w3).alloc (Nat.le_refl _) _), he3, hx.alloc hx.size _⟩
          | exact ⟨wb.heap.size, .slice A3 es3.length c3, es3, rfl, rfl, ((B3.set_ 0 _).set_ 1 _).set_ 2 _, Nat.le_refl _, hO3.set3 B3 0 1 2 _ _ _, he3, set3_belT hx (Nat.le_refl _) 0 1 2 _ _ _⟩
    case rest =>
      obtain ⟨G, u, es3, rfl, rfl, BX, hGl, hO3, he3, hb3⟩ := hcut
      obtain ⟨Ax, cx, rfl⟩ := hO3.form
      have hSc := HSB.out.on hb3
      have HPN := Lib.hid (show (⟨X.t.n, X.t.wd, (putT X.t z).1.rows⟩ : TB) = (putT X.t z).1 by
        obtain ⟨e1, e2⟩ := putT_n X.t z
        rw [← e1, ← e2])
      clear hS1 x0 x1 x2 g0 g1 g2 cz0 n0 n1 n2 n3 n4 hXa hba HPT hXO HXX
      have hSn := hSc.set (k := i) (by omega) (⟨⟨X.t.n, X.t.wd, (putT X.t z).1.rows⟩, .slice Ax es3.length cx, es3⟩ : PX) ⟨hO3, he3⟩
      have HSN := Lib.hid hSn
      have HMM := Lib.hid (show (xs.set i (⟨⟨X.t.n, X.t.wd, (putT X.t z).1.rows⟩, .slice Ax es3.length cx, es3⟩ : PX)).map PX.t = ts.set i (putT X.t z).1 by rw [List.map_set, HD.out, ← HPN.out])
      obtain ⟨s0, s1, s2, sf⟩ := hSc.cells (show i < xs.length by omega)
      have sf0 := sf (i * 3)
      have sf1 := sf (i * 3 + 1)
      have sf2 := sf (i * 3 + 2)
      have hWn : Below lo w wc := hW1.trans (hb3.mono hlo1)
      have HWn := Lib.hid (((hWn.setCell (p := ⟨g, i * 3, none⟩) hg1 (.string (⟨⟨X.t.n, X.t.wd, (putT X.t z).1.rows⟩, .slice Ax es3.length cx, es3⟩ : PX).t.n)).setCell (p := ⟨g, i * 3 + 1, none⟩) hg1 (.int .i64 (⟨⟨X.t.n, X.t.wd, (putT X.t z).1.rows⟩, .slice Ax es3.length cx, es3⟩ : PX).t.wd)).setCell (p := ⟨g, i * 3 + 2, none⟩) hg1 (⟨⟨X.t.n, X.t.wd, (putT X.t z).1.rows⟩, .slice Ax es3.length cx, es3⟩ : PX).u)
      have HLN := Lib.hid (show (xs.set i (⟨⟨X.t.n, X.t.wd, (putT X.t z).1.rows⟩, .slice Ax es3.length cx, es3⟩ : PX)).length = xs.length from List.length_set)
      obtain ⟨b0, b1, b2⟩ := BX.c3
      clear hSn sf hSc hWn
      go_wp2
      refine bodyPost_ret (v := .tuple #[.slice (some ⟨g, 0, none⟩) ts.length cb, .int .i64 (putT X.t z).2]) (by simp [results, Tryz.f27, go_sem, *]) rfl ?_
      rw [HPE.out]
      exact ⟨_, xs.set i (⟨⟨X.t.n, X.t.wd, (putT X.t z).1.rows⟩, .slice Ax es3.length cx, es3⟩ : PX), rfl, HSN.out, HMM.out, HWn.out⟩
  have h5c : dk ≠ 5 := by simpa using h5b
  have h234 : dk = 2 ∨ dk = 3 ∨ dk = 4 := by omega
  have hd1 : (dk == 1) = false := by simpa using h1
  have hd6 : (dk == 6) = false := by simpa using h6
  obtain ⟨th, hth⟩ : ∃ th, decide (idxK X.t.rows (ky z) < X.t.rows.length) = th := ⟨_, rfl⟩
  have HTH := Lib.hid hth
  have HRW := Lib.hid (show ∀ j, j < X.t.rows.length → (rr X.t.rows j).length ≤ 1099511627776 from fun j hj => by have := hrb j hj; omega)
  have HTK := Lib.hid (show ∀ W, lo ≤ W.heap.size → ORows W lo (.slice Au X.t.rows.length cu) X.es → Calls Tryz.prog 48 #[.agg #[.string X.t.n, .int .i64 X.t.wd, .slice Au X.t.rows.length cu], .int .i64 (ky z)] W fun e w' => ∃ u es3, e = .returned (.tuple #[.agg #[.string X.t.n, .int .i64 X.t.wd, u], .bool th]) ∧ ORows w' lo u es3 ∧ es3.map Ent.r = takenL X.t.rows (ky z) ∧ Below W.heap.size W w' from fun W hl hO => by
    refine (specTaken_any X.t.n X.t.wd Au cu X.t.rows (ky z) W (hO.rwsW hXe HRW.out) (by omega) (by omega)).mono ?_
    rintro e w' ⟨v, rfl, hT1, hb⟩
    have tok' : tabB X.t.n X.t.wd X.t.rows = true := tok
    rw [tok', show tkS X.t.n true = X.t.n from rfl, show tkW X.t.wd true = X.t.wd from rfl, show ∀ R, tkR R true = R from fun _ => rfl] at hT1
    obtain ⟨u, es3, rfl, hO1, he1⟩ := hT1
    have e2 : thereB X.t.n X.t.wd X.t.rows (ky z) = th := by unfold thereB; rw [tok', Bool.true_and]; exact HTH.out
    rw [e2]
    exact ⟨u, es3, rfl, hO1.lower hl, he1, hb⟩)
  clear hth h1 h6
  go_upto_region 12 with fail
  go_cut [9, 10] (fun s t wx => ∃ G u es3, s = .pointer (some ⟨G, 0, none⟩) ∧ t = .bool th ∧ Blk wx G 55 #[.string X.t.n, .int .i64 X.t.wd, u] ∧ wb.heap.size ≤ G ∧ ORows wx lo u es3 ∧ es3.map Ent.r = takenL X.t.rows (ky z) ∧ Below wb.heap.size wb wx)
  case first =>
      go_region_held3 (fun w' => w'.cell? ⟨g, i * 3, none⟩ = some (.string X.t.n) ∧ w'.cell? ⟨g, i * 3 + 1, none⟩ = some (.int .i64 X.t.wd) ∧ w'.cell? ⟨g, i * 3 + 2, none⟩ = some (.slice Au X.t.rows.length cu) ∧ w'.cell? ⟨w.heap.size, 2, none⟩ = some (.slice (some ⟨bz, oz, none⟩) z.length cz) ∧ w'.cell? ⟨bz, oz, none⟩ = some (.int .i64 (ky z)))
        (first | go_keep | exact ⟨k0, k1', k2, k3, k4⟩)
        (first | (go_at_call 48; refine (HTK.out _ (by first | exact hlo1 | (show lo ≤ (wb.alloc _).heap.size; rw [World.size_alloc]; omega)) (by first | exact hXO | exact hXa)).mono ?_; rintro e w3 ⟨u3, es3, rfl, hO3, he3, hb3⟩; obtain ⟨A3, c3, rfl⟩ := hO3.form; (first | (have hx : Below wb.heap.size wb w3 := (bel_drewN ((Below.refl wb.heap.size wb).alloc (Nat.le_refl _) (.cells #[.string ⟨#[]⟩, .int .i64 0, .slice none 0 0] 55)) 1).trans (hb3.mono (by simp)); have B3 : Blk w3 wb.heap.size 55 #[.string ⟨#[]⟩, .int .i64 0, .slice none 0 0] := ((Blk.new wb 55 #[.string ⟨#[]⟩, .int .i64 0, .slice none 0 0]).drewN 1).below hb3 (by simp); have q0 : w3.cell? ⟨wb.heap.size, 0, none⟩ = some (.string ⟨#[]⟩) := B3.cell 0; have q1 : w3.cell? ⟨wb.heap.size, 1, none⟩ = some (.int .i64 0) := B3.cell 1; have q2 : w3.cell? ⟨wb.heap.size, 2, none⟩ = some (.slice none 0 0) := B3.cell 2; have f0 := B3.frozen 0; have f1 := B3.frozen 1; have f2 := B3.frozen 2) | (have hx : Below wb.heap.size wb w3 := (bel_drewN (Below.refl _ _) 1).trans hb3)); have k0 := (hx.cell (p := ⟨g, i * 3, none⟩) hg2).trans HXX.out.1; have k1' := (hx.cell (p := ⟨g, i * 3 + 1, none⟩) hg2).trans HXX.out.2.1; have k2 := (hx.cell (p := ⟨g, i * 3 + 2, none⟩) hg2).trans HXX.out.2.2.1; have k3 := (hx.cell (p := ⟨w.heap.size, 2, none⟩) hGd).trans HXX.out.2.2.2.1; have k4 := (hx.cell (p := ⟨bz, oz, none⟩) hbz).trans HXX.out.2.2.2.2))
      all_goals
        go_wp2_with fail
        go_meet
        first
          | exact ⟨w3.heap.size, .slice A3 es3.length c3, es3, rfl, rfl, Blk.new w3 _ _, hx.size, hO3.on ((Below.refl w3.heap.size w3).alloc (Nat.le_refl _) _), he3, hx.alloc hx.size _⟩
          | exact ⟨wb.heap.size, .slice A3 es3.length c3, es3, rfl, rfl, ((B3.set_ 0 _).set_ 1 _).set_ 2 _, Nat.le_refl _, hO3.set3 B3 0 1 2 _ _ _, he3, set3_belT hx (Nat.le_refl _) 0 1 2 _ _ _⟩
  case rest =>
  obtain ⟨G, u, es3, rfl, rfl, BX, hGl, hO3, he3, hb3⟩ := hcut
  obtain ⟨Ax, cx, rfl⟩ := hO3.form
  have hSc := HSB.out.on hb3
  have BGc := BG.on hb3
  have HIC := Lib.hid (show ∀ W, Below wb.heap.size wb W → Ints W W.heap.size (some ⟨bz, oz, none⟩) z from fun W h => hI1.on h)
  have hWc : Below lo w wc := hW1.trans (hb3.mono hlo1)
  clear hS1 x0 x1 x2 g0 g1 g2 cz0 n0 n1 n2 n3 n4 hXa hba hXO HXX
  obtain ⟨g0, g1, g2⟩ := BGc.c3
  cases th with
  | false =>
    have hni : ¬ idxK X.t.rows (ky z) < X.t.rows.length := of_decide_eq_false HTH.out
    have HPE := Lib.hid (show P = (ts, 3) by
      rw [HPA.out, atB, hXt, if_neg (show ¬ dk = 6 by omega), if_neg (show ¬ dk = 1 by omega), if_pos hni])
    clear hni
    go_wp2
    refine bodyPost_ret (v := .tuple #[.slice (some ⟨g, 0, none⟩) ts.length cb, .int .i64 3]) (by simp [results, Tryz.f27, go_sem, *]) rfl ?_
    rw [HPE.out]
    exact ⟨_, xs, rfl, hSc, HD.out, hWc⟩
  | true =>
    have hyi : idxK X.t.rows (ky z) < X.t.rows.length := of_decide_eq_true HTH.out
    have HY := Lib.hid hyi
    clear hyi
    rcases h234 with rfl | rfl | rfl
    · have HPE := Lib.hid (show P = (ts.set i (takeT X.t (ky z)), 0) by
        rw [HPA.out, atB, hXt, if_neg (by decide), if_neg (by decide), if_neg (fun h => h HY.out), if_neg (by decide), if_pos rfl])
      have hSn := hSc.set (k := i) (by omega) (⟨takeT X.t (ky z), .slice Ax es3.length cx, es3⟩ : PX) ⟨hO3, he3⟩
      have HSN := Lib.hid hSn
      have HMM := Lib.hid (show (xs.set i (⟨takeT X.t (ky z), .slice Ax es3.length cx, es3⟩ : PX)).map PX.t = ts.set i (takeT X.t (ky z)) by rw [List.map_set, HD.out])
      obtain ⟨s0, s1, s2, sf⟩ := hSc.cells (show i < xs.length by omega)
      have sf0 := sf (i * 3)
      have sf1 := sf (i * 3 + 1)
      have sf2 := sf (i * 3 + 2)
      have hWn : Below lo w wc := hW1.trans (hb3.mono hlo1)
      have HWn := Lib.hid (((hWn.setCell (p := ⟨g, i * 3, none⟩) hg1 (.string (⟨takeT X.t (ky z), .slice Ax es3.length cx, es3⟩ : PX).t.n)).setCell (p := ⟨g, i * 3 + 1, none⟩) hg1 (.int .i64 (⟨takeT X.t (ky z), .slice Ax es3.length cx, es3⟩ : PX).t.wd)).setCell (p := ⟨g, i * 3 + 2, none⟩) hg1 (⟨takeT X.t (ky z), .slice Ax es3.length cx, es3⟩ : PX).u)
      have HLN := Lib.hid (show (xs.set i (⟨takeT X.t (ky z), .slice Ax es3.length cx, es3⟩ : PX)).length = xs.length from List.length_set)
      obtain ⟨b0, b1, b2⟩ := BX.c3
      clear hSn sf hSc hWn
      go_wp2
      refine bodyPost_ret (v := .tuple #[.slice (some ⟨g, 0, none⟩) ts.length cb, .int .i64 0]) (by simp [results, Tryz.f27, go_sem, *]) rfl ?_
      rw [HPE.out]
      exact ⟨_, xs.set i (⟨takeT X.t (ky z), .slice Ax es3.length cx, es3⟩ : PX), rfl, HSN.out, HMM.out, HWn.out⟩
    · have tok2 : tabB X.t.n X.t.wd (takenL X.t.rows (ky z)) = true := takeT_ok (q := ky z) tok
      have hl2 : lo ≤ wc.heap.size := by have := hb3.size; omega
      have hro : rowsOkB X.t.wd (takenL X.t.rows (ky z)) = true := by
        have := tok2
        unfold tabB at this
        rw [Bool.and_eq_true] at this
        exact this.2
      have hrb2 : ∀ j, j < (takenL X.t.rows (ky z)).length → (rr (takenL X.t.rows (ky z)) j).length ≤ 1048576 := fun j hj => by
        have h1 := (rowsOk_iff.1 hro).2.2 _ (List.getElem_mem hj)
        have h2 := (rowsOk_iff.1 hro).1.1
        unfold inB at h2
        rw [Bool.and_eq_true, decide_eq_true_eq, decide_eq_true_eq] at h2
        rw [rr_eq hj]
        have := fit_len h1
        omega
      have hel : (takenL X.t.rows (ky z)).length = es3.length := by rw [← he3, List.length_map]
      have hO3' : ORows wc lo (.slice Ax (takenL X.t.rows (ky z)).length cx) es3 := by rw [hel]; exact hO3
      have hpt := HPT.out wc (takenL X.t.rows (ky z)) Ax cx es3 hl2 hO3' he3 tok2 hrb2 hb3
      rw [hel] at hpt
      obtain ⟨PT, hPT⟩ : ∃ PT, putT ⟨X.t.n, X.t.wd, takenL X.t.rows (ky z)⟩ z = PT := ⟨_, rfl⟩
      rw [hPT] at hpt
      have hPn := putT_n ⟨X.t.n, X.t.wd, takenL X.t.rows (ky z)⟩ z
      rw [hPT] at hPn
      have HPT2 := Lib.hid hpt
      have HPTE := Lib.hid hPT
      obtain ⟨T4, C⟩ := PT
      have HPN := Lib.hid (show (⟨X.t.n, X.t.wd, T4.rows⟩ : TB) = T4 by
        obtain ⟨e1, e2⟩ := hPn
        rw [← show T4.n = X.t.n from e1, ← show T4.wd = X.t.wd from e2])
      obtain ⟨b0, b1, b2⟩ := BX.c3
      clear hel hpt tok2 hrb2 HPT hro hO3' hPT hPn
      go_wp2_with fail
      refine HPT2.out.mono ?_
      rintro e w4 ⟨u4, es4, rfl, hO4, he4, hb4⟩
      obtain ⟨A4, c4, rfl⟩ := hO4.form
      have ba := (Below.refl w4.heap.size w4).alloc (Nat.le_refl _) (.cells #[.string X.t.n, .int .i64 X.t.wd, .slice A4 es4.length c4] 55)
      have hS5 := (hSc.on hb4).on ba
      have BX5 := (BX.on hb4).on ba
      have hO5 := hO4.on ba
      have hW5 : Below lo w (w4.alloc (.cells #[.string X.t.n, .int .i64 X.t.wd, .slice A4 es4.length c4] 55)) := (hWc.trans (hb4.mono hl2)).trans (ba.mono (by have := hb4.size; omega))
      have hGlo : lo ≤ G := by omega
      have hGg : G ≠ g := by omega
      have he4' : es4.map Ent.r = T4.rows := he4
      by_cases hC : C = 0
      · subst hC
        have HPE := Lib.hid (show P = (ts.set i T4, 0) by
          rw [HPA.out, atB, hXt, if_neg (by decide), if_neg (by decide), if_neg (fun h => h HY.out), if_neg (by decide), if_neg (by decide)]
          rw [show putT (takeT X.t (ky z)) z = (T4, 0) from HPTE.out, if_pos rfl])
        have e0 := BX5.frozen 0
        have e1 := BX5.frozen 1
        have e2 := BX5.frozen 2
        obtain ⟨b0, b1, b2⟩ := BX5.c3
        obtain ⟨a0, a1, a2⟩ := (Blk.new w4 55 #[.string X.t.n, .int .i64 X.t.wd, .slice A4 es4.length c4]).c3
        go_upto_region 22 with fail
        have BX6 := ((BX5.set_ 0 (.string X.t.n)).set_ 1 (.int .i64 X.t.wd)).set_ 2 (.slice A4 es4.length c4)
        have hS6 := hS5.far3 BX5 (fun b hb => by have : g = b := Option.some.inj hb; omega) 0 1 2 (.string X.t.n) (.int .i64 X.t.wd) (.slice A4 es4.length c4)
        have hO6 := hO5.set3 BX5 0 1 2 (.string X.t.n) (.int .i64 X.t.wd) (.slice A4 es4.length c4)
        have hW6 := ((hW5.setCell (p := ⟨G, 0, none⟩) hGlo (.string X.t.n)).setCell (p := ⟨G, 1, none⟩) hGlo (.int .i64 X.t.wd)).setCell (p := ⟨G, 2, none⟩) hGlo (.slice A4 es4.length c4)
        generalize (((w4.alloc (.cells #[.string X.t.n, .int .i64 X.t.wd, .slice A4 es4.length c4] 55)).setCell ⟨G, 0, none⟩ (.string X.t.n)).setCell ⟨G, 1, none⟩ (.int .i64 X.t.wd)).setCell ⟨G, 2, none⟩ (.slice A4 es4.length c4) = w6 at *
        simp only [List.setIfInBounds_toArray, List.set_cons_succ, List.set_cons_zero] at BX6
        have hnw : X.t.n = T4.n ∧ X.t.wd = T4.wd := by
          have := HPN.out
          exact ⟨by rw [← this], by rw [← this]⟩
        have hSn := hS6.set (k := i) (by omega) (⟨T4, .slice A4 es4.length c4, es4⟩ : PX) ⟨hO6, he4'⟩
        rw [← show X.t.n = ((⟨T4, .slice A4 es4.length c4, es4⟩ : PX)).t.n from hnw.1, ← show X.t.wd = ((⟨T4, .slice A4 es4.length c4, es4⟩ : PX)).t.wd from hnw.2] at hSn
        have HSN := Lib.hid hSn
        have HMM := Lib.hid (show (xs.set i (⟨T4, .slice A4 es4.length c4, es4⟩ : PX)).map PX.t = ts.set i T4 by rw [List.map_set, HD.out])
        have HWn := Lib.hid (((hW6.setCell (p := ⟨g, i * 3, none⟩) hg1 (.string X.t.n)).setCell (p := ⟨g, i * 3 + 1, none⟩) hg1 (.int .i64 X.t.wd)).setCell (p := ⟨g, i * 3 + 2, none⟩) hg1 (.slice A4 es4.length c4))
        obtain ⟨s0, s1, s2, sf⟩ := hS6.cells (show i < xs.length by omega)
        have sf0 := sf (i * 3)
        have sf1 := sf (i * 3 + 1)
        have sf2 := sf (i * 3 + 2)
        clear b0 b1 b2 a0 a1 a2 e0 e1 e2 hSn sf hnw hS6 hS5 hO5 hW5
        obtain ⟨b0, b1, b2⟩ := BX6.c3
        go_wp2
        refine bodyPost_ret (v := .tuple #[.slice (some ⟨g, 0, none⟩) ts.length cb, .int .i64 0]) (by simp [results, Tryz.f27, go_sem, *]) rfl ?_
        rw [HPE.out]
        exact ⟨_, xs.set i (⟨T4, .slice A4 es4.length c4, es4⟩ : PX), rfl, HSN.out, HMM.out, HWn.out⟩
      · have hCb : (C == 0) = false := by simpa using hC
        have HPE := Lib.hid (show P = (ts, C) by
          rw [HPA.out, atB, hXt, if_neg (by decide), if_neg (by decide), if_neg (fun h => h HY.out), if_neg (by decide), if_neg (by decide)]
          rw [show putT (takeT X.t (ky z)) z = (T4, C) from HPTE.out, if_neg hC])
        clear hC
        go_wp2
        refine bodyPost_ret (v := .tuple #[.slice (some ⟨g, 0, none⟩) ts.length cb, .int .i64 C]) (by simp [results, Tryz.f27, go_sem, *]) rfl ?_
        rw [HPE.out]
        exact ⟨_, xs, rfl, hS5, HD.out, hW5⟩
    · have HPE := Lib.hid (show P = (ts, 0) by
        rw [HPA.out, atB, hXt, if_neg (by decide), if_neg (by decide), if_neg (fun h => h HY.out), if_pos rfl])
      go_wp2
      refine bodyPost_ret (v := .tuple #[.slice (some ⟨g, 0, none⟩) ts.length cb, .int .i64 0]) (by simp [results, Tryz.f27, go_sem, *]) rfl ?_
      rw [HPE.out]
      exact ⟨_, xs, rfl, hSc, HD.out, hWc⟩
end Go.Proofs.YtdjoiehknpfigaaGreat
