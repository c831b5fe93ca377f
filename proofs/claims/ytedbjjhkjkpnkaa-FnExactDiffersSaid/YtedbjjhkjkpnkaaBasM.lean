/- The laws' marking of a base of the call's own, and whether the marks are held. -/
import Derived.Test.YtedbjjhkjkpnkaaBas3
import Derived.Test.YtedbjjhkjkpnkaaMkT
import Derived.Deep.RegionLaw
namespace Go.Proofs.Ytedbjjhkjkpnkaa
open Go.RowKit

theorem Tabs.len {es : List TE} {ts : List TB} (h : es.map TE.t = ts) : ts.length = es.length := by rw [← h, List.length_map]
theorem kR_take (k : Int) (es : List Ent) : ∀ i, i ≤ es.length → kR k es i = k + (rsum ((es.take i).map Ent.r) : Nat)
  | 0, _ => by simp [kR, rsum]
  | i + 1, h => by
    have ih := kR_take k es i (by omega)
    simp only [kR]
    rw [ih, rl_eq (by omega)]
    have e : (es.take (i + 1)).map Ent.r = (es.take i).map Ent.r ++ [es[i].r] := by rw [List.take_succ_eq_append_getElem (by omega), List.map_append]; rfl
    rw [e]
    unfold rsum
    rw [List.map_append, List.sum_append_nat]
    simp; omega
theorem kR_all (k : Int) (es : List Ent) : kR k es es.length = k + (rsum (es.map Ent.r) : Nat) := by rw [kR_take k es es.length (Nat.le_refl _), List.take_of_length_le (Nat.le_refl _)]
/-- The number that table j is marked from. -/
def kT (k : Nat) (es : List TE) : Nat → Nat
  | 0 => k
  | j + 1 => kT k es j + 2 + rsum ((tex es j).es.map Ent.r)
theorem kT_mono (k : Nat) (es : List TE) : ∀ {i j : Nat}, i ≤ j → kT k es i ≤ kT k es j
  | i, 0, h => by rw [show i = 0 by omega]; exact Nat.le_refl _
  | i, j + 1, h => by
    by_cases e : i = j + 1
    · rw [e]; exact Nat.le_refl _
    · have := kT_mono k es (show i ≤ j by omega)
      simp only [kT]; omega
theorem kT_sum (k : Nat) {es : List TE} {ts : List TB} (h : es.map TE.t = ts) : ∀ j, j ≤ es.length → kT k es j ≤ k + 2 * j + twS (ts.take j)
  | 0, _ => by simp [kT]
  | j + 1, hj => by
    have ih := kT_sum k h j (by omega)
    have hl : es.length = ts.length := by rw [← h, List.length_map]
    rw [twS_take (by omega), tex_t h (by omega)]
    simp only [kT]
    unfold tw TE.t
    simp only
    omega
theorem tcell_other (es : List TE) (q : Nat) (h0 : q % 3 ≠ 0) (h1 : q % 3 ≠ 1) : tcell es q = .slice (tex es (q / 3)).A (tex es (q / 3)).es.length (tex es (q / 3)).c := by unfold tcell; rw [if_neg h0, if_neg h1]
def ucell (k : Nat) (es : List TE) (i q : Nat) : Value := if q / 3 < i then (if q % 3 = 0 then .string (mt (kT k es (q / 3))) else if q % 3 = 1 then .int .i64 ((kT k es (q / 3) : Int) + 1) else tcell es q) else tcell es q
theorem ucell_2 (k : Nat) (es : List TE) (i j : Nat) : ucell k es i (j * 3 + 2) = .slice (tex es j).A (tex es j).es.length (tex es j).c := by
  unfold ucell
  split
  · rw [if_neg (by omega), if_neg (by omega), tcell_2]
  · rw [tcell_2]
theorem ucell_0 (k : Nat) (es : List TE) {i j : Nat} (h : j < i) : ucell k es i (j * 3) = .string (mt (kT k es j)) := by
  unfold ucell; rw [if_pos (by omega), if_pos (by omega), show j * 3 / 3 = j by omega]
theorem ucell_1 (k : Nat) (es : List TE) {i j : Nat} (h : j < i) : ucell k es i (j * 3 + 1) = .int .i64 ((kT k es j : Int) + 1) := by
  unfold ucell; rw [if_pos (by omega), if_neg (by omega), if_pos (by omega), show (j * 3 + 1) / 3 = j by omega]
theorem ucell_next (k : Nat) (es : List TE) (i : Nat) : ∀ q, (if q = i * 3 + 1 then .int .i64 ((kT k es i : Int) + 1) else if q = i * 3 then .string (mt (kT k es i)) else ucell k es i q) = ucell k es (i + 1) q := fun q => by
  by_cases h1 : q = i * 3 + 1
  · rw [if_pos h1, h1, ucell_1 k es (Nat.lt_succ_self i)]
  · rw [if_neg h1]
    by_cases h0 : q = i * 3
    · rw [if_pos h0, h0, ucell_0 k es (Nat.lt_succ_self i)]
    · rw [if_neg h0]
      unfold ucell
      by_cases hq : q / 3 < i
      · rw [if_pos hq, if_pos (show q / 3 < i + 1 by omega)]
      · rw [if_neg hq]
        by_cases hq1 : q / 3 < i + 1
        · rw [if_pos hq1, if_neg (by omega), if_neg (by omega)]
        · rw [if_neg hq1]
/-- The rows of the tables, marked. -/
def mkE (k : Nat) (es : List TE) (j : Nat) : List Ent := mkTo ((kT k es j + 2 : Nat) : Int) (tex es j).es (tex es j).es.length
/-- Marking under way: the first i are marked. -/
def URows (k : Nat) (es : List TE) (i : Nat) (wr : World) : Prop :=
  ∀ j, j < es.length → RIn wr (tex es j).lo (tex es j).hi (tex es j).v (if j < i then mkE k es j else (tex es j).es)
theorem URows.on {k : Nat} {es : List TE} {i : Nat} {wr w' : World} (h : URows k es i wr) (hb : Below wr.heap.size wr w') : URows k es i w' := fun j hj => (h j hj).on hb
theorem URows.within {k : Nat} {es : List TE} {i lo hi : Nat} {wr w' : World} (h : URows k es i wr) (hw : Within lo hi wr w') (ha : ∀ j, j < es.length → (tex es j).hi ≤ lo ∨ hi ≤ (tex es j).lo) : URows k es i w' := fun j hj => (h j hj).within hw (ha j hj)
def USt (w : World) (lo hi k G : Nat) (es : List TE) (i : Nat) (wr : World) : Prop :=
  Blk wr G 28 (arr (3 * es.length) (ucell k es i)) ∧ URows k es i wr ∧ Within lo hi w wr
/-- The tables, marked. -/
def MarkedT (w : World) (lo hi k : Nat) (A : Option Addr) (es : List TE) : Prop :=
  hi ≤ w.heap.size ∧ (0 < es.length → ∃ G, A = some ⟨G, 0, none⟩ ∧ lo ≤ G ∧ G < hi ∧ Blk w G 28 (arr (3 * es.length) (ucell k es es.length)) ∧ URows k es es.length w ∧ ∀ j, j < es.length → lo ≤ (tex es j).lo ∧ (tex es j).hi ≤ hi)
theorem MarkedT.on {w w' : World} {lo hi k : Nat} {A : Option Addr} {es : List TE} (h : MarkedT w lo hi k A es) (hb : Below w.heap.size w w') : MarkedT w' lo hi k A es := ⟨Nat.le_trans h.1 hb.size, fun hn => by
  obtain ⟨G, e, h1, h2, hB, hr, h3⟩ := h.2 hn
  exact ⟨G, e, h1, h2, hB.on hb, hr.on hb, h3⟩⟩
theorem bel_within {lo hi : Nat} {w w' : World} (h : Below w.heap.size w w') : Within lo hi w w' := ⟨h.os, h.tape, h.output, h.size, fun b hb _ => h.block b hb⟩
/-- Behind the two stores. -/
theorem u_step {w wr w2 : World} {lo hi k G : Nat} {es : List TE} {j a : Nat} (ha : kT k es j = a) (hG : lo ≤ G ∧ G < hi) (hb2 : Below wr.heap.size wr w2) (hne : ∀ i, i < es.length → G < (tex es i).lo) (hst : USt w lo hi k G es j wr) :
    Blk w2 G 28 (arr (3 * es.length) (ucell k es j)) ∧
    Blk ((w2.setCell ⟨G, j * 3, none⟩ (.string (mt a))).setCell ⟨G, j * 3 + 1, none⟩ (.int .i64 ((a : Int) + 1))) G 28 (arr (3 * es.length) (ucell k es (j + 1))) ∧ URows k es j ((w2.setCell ⟨G, j * 3, none⟩ (.string (mt a))).setCell ⟨G, j * 3 + 1, none⟩ (.int .i64 ((a : Int) + 1))) ∧ Within lo hi w ((w2.setCell ⟨G, j * 3, none⟩ (.string (mt a))).setCell ⟨G, j * 3 + 1, none⟩ (.int .i64 ((a : Int) + 1))) := by
  obtain ⟨hB, hR, hW⟩ := hst
  subst ha
  have B2 := hB.on hb2
  have B3 := (B2.set_ (j * 3) (.string (mt (kT k es j)))).set_ (j * 3 + 1) (.int .i64 ((kT k es j : Int) + 1))
  rw [arr_set, arr_set, arr_congr (fun q _ => ucell_next k es j q)] at B3
  have hgr := grown_trans (grown_setCell w2 G (j * 3) (.string (mt (kT k es j)))) (grown_setCell _ G (j * 3 + 1) (.int .i64 ((kT k es j : Int) + 1)))
  have hwi : Within G (G + 1) w2 _ := Within.of_grown hgr (.inl ⟨Nat.le_refl _, Nat.lt_succ_self _⟩)
  refine ⟨B2, B3, (hR.on hb2).within hwi (fun i hi => .inr (hne i hi)), (hW.trans (bel_within hb2)).trans (hwi.wide hG.1 hG.2)⟩
/-- Behind the rows' marking. -/
theorem u_next {w w3 w4 : World} {lo hi k G : Nat} {es : List TE} {j : Nat} (hlt : j < es.length) (B3 : Blk w3 G 28 (arr (3 * es.length) (ucell k es (j + 1)))) (R3 : URows k es j w3) (W3 : Within lo hi w w3)
    (hO4 : RIn w4 (tex es j).lo (tex es j).hi (tex es j).v (mkE k es j)) (hw4 : Within (tex es j).lo (tex es j).hi w3 w4) (hG : G < (tex es j).lo) (hlo : lo ≤ (tex es j).lo) (hhi : (tex es j).hi ≤ hi) (hle : (tex es j).lo ≤ (tex es j).hi)
    (hne : ∀ i, i < es.length → i ≠ j → (tex es i).hi ≤ (tex es j).lo ∨ (tex es j).hi ≤ (tex es i).lo) : USt w lo hi k G es (j + 1) w4 := by
  refine ⟨B3.within hw4 (.inl hG), fun i hi' => ?_, W3.trans (hw4.wide hlo hhi)⟩
  by_cases e : i = j
  · subst e; rw [if_pos (Nat.lt_succ_self _)]; exact hO4
  · have := (R3 i hi').within hw4 (hne i hi' e)
    by_cases hij : i < j
    · rw [if_pos (by omega)]; rwa [if_pos hij] at this
    · rw [if_neg (by omega)]; rwa [if_neg hij] at this
set_option maxRecDepth 100000 in
set_option maxHeartbeats 4000000 in
theorem markTableS_any (A : Option Addr) (c k lo hi : Nat) (es : List TE) (ts : List TB) (w : World) (hO : OwnT w lo hi A es) (hd : es.map TE.t = ts) (hf : fitT 1048576 ts) (hl : es.length ≤ 1048576) (hk : kT k es es.length ≤ 1000000000) (hk1 : 1 ≤ k) :
    Calls Try.prog 20 #[.slice A es.length c, .int .i64 k] w fun e w' => e = .returned (.int .i64 (kT k es es.length)) ∧ MarkedT w' lo hi k A es ∧ Within lo hi w w' := by
  by_cases h0 : 0 < es.length
  · obtain ⟨hhw, hO⟩ := hO
    obtain ⟨G, rfl, hG, hGh, hB, hr⟩ := hO h0
    have HG := Lib.hid (show ∀ j, j < es.length → G < (tex es j).lo ∧ (tex es j).lo ≤ (tex es j).hi ∧ (tex es j).hi ≤ hi from fun j hj => (hr.1 _ (tex_mem es j hj)).2)
    have HP := Lib.hid (show ∀ i j, i < es.length → j < es.length → i ≠ j → (tex es i).hi ≤ (tex es j).lo ∨ (tex es j).hi ≤ (tex es i).lo from fun i j hi' hj hne => by
      rw [tex_eq es i hi', tex_eq es j hj]
      have hp := hr.2
      rw [List.pairwise_iff_getElem] at hp
      rcases Nat.lt_or_gt_of_ne hne with h | h
      · exact .inl (hp i j hi' hj h)
      · exact .inr (hp j i hj hi' h))
    have HF := Lib.hid (show ∀ j, j < es.length → (tex es j).es.length ≤ 1048576 ∧ ∀ e ∈ (tex es j).es, e.r.length ≤ 1048576 from fun j hj => by
      have hx := tex_t hd hj
      have hfj := hf j (by rw [← hd]; simpa using hj)
      rw [hx] at hfj
      have e1 : (tex es j).t.rows = (tex es j).es.map Ent.r := rfl
      rw [e1] at hfj
      exact ⟨by simpa using hfj.2.1, ents_rr rfl hfj.2.2⟩)
    have hst : USt w lo hi k G es 0 w := ⟨by
      have : arr (3 * es.length) (ucell k es 0) = arr (3 * es.length) (tcell es) := arr_congr fun q _ => by unfold ucell; rw [if_neg (by omega)]
      rw [this]; exact hB, fun j hj => by rw [if_neg (by omega)]; exact (hr.1 _ (tex_mem es j hj)).1, Within.refl _ _ _⟩
    have HM := Lib.hid (show ∀ j, j ≤ es.length → kT k es j ≤ 1000000000 ∧ 1 ≤ kT k es j from fun j hj => ⟨Nat.le_trans (kT_mono k es hj) hk, Nat.le_trans hk1 (kT_mono k es (i := 0) (Nat.zero_le j))⟩)
    clear hO hB hr hf hd hk hk1
    go_enter Try.func20, Try.ntmps20
    go_wp2
    go_loopw [1, 5] (fun q i wr => ∃ j : Nat, j ≤ es.length ∧ i = .int .i64 j ∧ q = .int .i64 (kT k es j) ∧ USt w lo hi k G es j wr) (fun _ i _ => es.length - (intOf i).toNat)
    case atStart => exact ⟨0, Nat.zero_le _, rfl, rfl, hst⟩
    case round =>
      obtain ⟨j, hj, rfl, hq, hst⟩ := hrel
      obtain ⟨a, ha⟩ : ∃ a, kT k es j = a := ⟨_, rfl⟩
      have hab := HM.out j hj
      rw [ha] at hab hq
      subst hq
      have HA := Lib.hid ha
      by_cases hlt : j < es.length
      · have HST := Lib.hid hst
        have hN := HM.out (j + 1) (by omega)
        obtain ⟨g1, g2, g3⟩ := HG.out j hlt
        obtain ⟨q1, q2⟩ := HF.out j hlt
        have HQ2 := Lib.hid q2
        have HCT := Lib.hid (show ∀ W, Calls Try.prog 54 #[.int .i64 (a : Int)] W fun e w' => e = .returned (.string (mt a)) ∧ Below W.heap.size W w' from fun W => markText_any a W (by omega) (by omega))
        have hwa : IntKind.i64.wrap ((a : Int) + 1) = (a : Int) + 1 := by rw [IntKind.wrap_i64]; omega
        have hwb : IntKind.i64.wrap ((a : Int) + 1 + 1) = (a : Int) + 1 + 1 := by rw [IntKind.wrap_i64]; omega
        have hwc : IntKind.i64.wrap ((a : Int) + 2) = (a : Int) + 2 := by rw [IntKind.wrap_i64]; omega
        clear hst ha q2
        go_wp2_with fail
        refine (HCT.out wr).mono ?_
        rintro e w2 ⟨rfl, hb2⟩
        obtain ⟨B2, B3, R3, W3⟩ := u_step HA.out ⟨hG, hGh⟩ hb2 (fun i hi' => (HG.out i hi').1) HST.out
        have c0 : w2.cell? ⟨G, j * 3, none⟩ = some (.string (tex es j).n) := by
          rw [B2.cell, arr_get _ (by omega)]
          unfold ucell
          rw [if_neg (by omega), tcell_0]
        have c1 : w2.cell? ⟨G, j * 3 + 1, none⟩ = some (.int .i64 (tex es j).wd) := by
          rw [B2.cell, arr_get _ (by omega)]
          unfold ucell
          rw [if_neg (by omega), tcell_1]
        have f0 := B2.frozen (j * 3)
        have f1 := B2.frozen (j * 3 + 1)
        have c2 : ((w2.setCell ⟨G, j * 3, none⟩ (.string (mt a))).setCell ⟨G, j * 3 + 1, none⟩ (.int .i64 ((a : Int) + 1))).cell? ⟨G, j * 3 + 2, none⟩ = some (.slice (tex es j).A (tex es j).es.length (tex es j).c) := by rw [B3.cell, arr_get _ (by omega), ucell_2]
        clear hb2 B2 HST
        go_wp2_with fail
        generalize (w2.setCell ⟨G, j * 3, none⟩ (.string (mt a))).setCell ⟨G, j * 3 + 1, none⟩ (.int .i64 ((a : Int) + 1)) = w3 at *
        have hR3 := R3 j hlt
        rw [if_neg (Nat.lt_irrefl _)] at hR3
        refine (markInt64SS_own (tex es j).lo (tex es j).hi (tex es j).A (tex es j).es.length (tex es j).c (tex es j).es ((a : Int) + 1 + 1) w3 hR3 (by omega) (fun e he => by have := HQ2.out e he; omega) (by omega) (by omega)).mono ?_
        rintro e w4 ⟨rfl, hO4, hw4⟩
        have hO4' : RIn w4 (tex es j).lo (tex es j).hi (tex es j).v (mkE k es j) := by
          unfold mkE
          rw [HA.out, show ((a + 2 : Nat) : Int) = (a : Int) + 1 + 1 by omega]; exact hO4
        have HN := Lib.hid (u_next hlt B3 R3 W3 hO4' hw4 g1 (by omega) g3 g2 (fun i hi' hne => HP.out i j hi' hlt hne))
        have HKN := Lib.hid (show kR ((a : Int) + 1 + 1) (tex es j).es (tex es j).es.length = ((kT k es (j + 1) : Nat) : Int) by rw [kR_all]; simp only [kT, HA.out]; omega)
        rw [HKN.out]
        clear c0 c1 f0 f1 c2 B3 R3 W3 hO4 hO4' hw4 hR3 hwa hwb hwc
        go_wp2
        go_roundw
        case rel => exact ⟨j + 1, by omega, by go_num, rfl, HN.out⟩
        case measure => simp [intOf]; omega
      · obtain rfl : j = es.length := by omega
        have HM2 := Lib.hid (show MarkedT wr lo hi k (some ⟨G, 0, none⟩) es from ⟨Nat.le_trans hhw hst.2.2.size, fun _ => ⟨G, rfl, hG, hGh, hst.1, hst.2.1, fun j hj => ⟨by have := (HG.out j hj).1; omega, (HG.out j hj).2.2⟩⟩⟩)
        have hW := hst.2.2
        clear hst
        go_wp2
        go_ret
        exact ⟨by rw [HA.out]; rfl, HM2.out, hW⟩
  · have hn : es = [] := List.length_eq_zero_iff.1 (by omega)
    subst hn
    have hhw := hO.1
    go_enter Try.func20, Try.ntmps20
    go_wp2
    go_loopw [1, 5] (fun q i wr => i = .int .i64 0 ∧ q = .int .i64 k ∧ wr = w) (fun _ i _ => 0)
    case atStart => exact ⟨rfl, rfl, rfl⟩
    case round =>
      obtain ⟨rfl, rfl, rfl⟩ := hrel
      go_wp2
      go_ret
      exact ⟨rfl, ⟨hhw, fun h => absurd h (by simp)⟩, Within.refl _ _ _⟩
end Go.Proofs.Ytedbjjhkjkpnkaa
