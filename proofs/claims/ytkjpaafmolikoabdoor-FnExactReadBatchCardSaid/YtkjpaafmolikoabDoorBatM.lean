/- The laws' marking of a list of deeds of the call's own, and whether the marks are held. -/
import Derived.Test.YtkjpaafmolikoabDoorBatA
import Derived.Deep.RegionLaw
namespace Go.Proofs.YtkjpaafmolikoabDoor
open Go.RowKit

/-- A deed in memory: what it is, where its row lies. -/
structure DE where
  k : Int
  n : ByteArray
  z : List Int
  A : Option Addr
  c : Nat
  g : Nat
def DE.d (e : DE) : RD := ⟨e.k, e.n, e.z, true⟩
def dex (es : List DE) (j : Nat) : DE := es[j]?.getD ⟨0, ⟨#[]⟩, [], none, 0, 0⟩
theorem dex_eq (es : List DE) (j : Nat) (h : j < es.length) : dex es j = es[j] := by simp [dex, h]
theorem dex_mem (es : List DE) (j : Nat) (h : j < es.length) : dex es j ∈ es := by rw [dex_eq es j h]; exact List.getElem_mem h
def dcell (es : List DE) (q : Nat) : Value := if q % 3 = 0 then .int .i64 (dex es (q / 3)).k else if q % 3 = 1 then .string (dex es (q / 3)).n else .slice (dex es (q / 3)).A (dex es (q / 3)).z.length (dex es (q / 3)).c
theorem dcell_0 (es : List DE) (j : Nat) : dcell es (j * 3) = .int .i64 (dex es j).k := by unfold dcell; rw [if_pos (by omega), show j * 3 / 3 = j by omega]
theorem dcell_1 (es : List DE) (j : Nat) : dcell es (j * 3 + 1) = .string (dex es j).n := by unfold dcell; rw [if_neg (by omega), if_pos (by omega), show (j * 3 + 1) / 3 = j by omega]
theorem dcell_2 (es : List DE) (j : Nat) : dcell es (j * 3 + 2) = .slice (dex es j).A (dex es j).z.length (dex es j).c := by unfold dcell; rw [if_neg (by omega), if_neg (by omega), show (j * 3 + 2) / 3 = j by omega]
/-- The slice value '.slice A es.length c' is of the call's own: its deeds es, all in blocks from lo on. -/
def OwnD (w : World) (lo : Nat) (A : Option Addr) (es : List DE) : Prop :=
  0 < es.length → ∃ G, A = some ⟨G, 0, none⟩ ∧ lo ≤ G ∧ Blk w G 39 (arr (3 * es.length) (dcell es)) ∧ (∀ e ∈ es, Row w 2 e.A e.z e.g ∧ (0 < e.z.length → lo ≤ e.g ∧ e.g ≠ G)) ∧ es.Pairwise fun a b => 0 < a.z.length → 0 < b.z.length → a.g ≠ b.g
theorem OwnD.on {w w' : World} {lo : Nat} {A : Option Addr} {es : List DE} (h : OwnD w lo A es) (hb : Below w.heap.size w w') : OwnD w' lo A es := fun hn => by
  obtain ⟨G, e, hl, hB, hr, hp⟩ := h hn
  exact ⟨G, e, hl, hB.on hb, fun e he => ⟨(hr e he).1.on hb, (hr e he).2⟩, hp⟩
theorem OwnD.deeds {w : World} {lo : Nat} {A : Option Addr} {es : List DE} {ds : List RD} (h : OwnD w lo A es) (hd : es.map DE.d = ds) (h6 : ∀ e ∈ es, e.z.length ≤ 6) : Deeds w w.heap.size A ds := fun hn => by
  have hl : es.length = ds.length := by rw [← hd, List.length_map]
  obtain ⟨G, e, _, hB, hr, _⟩ := h (by omega)
  refine ⟨G, 0, e, hB.lt, fun j hj => ?_⟩
  have hj' : j < es.length := by omega
  have hx : rdx ds j = (dex es j).d := by rw [rdx_eq ds j hj, dex_eq es j hj']; simp [← hd]
  have hm := dex_mem es j hj'
  refine ⟨(dex es j).A, (dex es j).c, ?_, ?_, ?_, ?_, ?_⟩
  · rw [Nat.zero_add, hB.cell (j * 3), arr_get _ (by omega), dcell_0, hx]; rfl
  · rw [Nat.zero_add, hB.cell (j * 3 + 1), arr_get _ (by omega), dcell_1, hx]; rfl
  · rw [Nat.zero_add, hB.cell (j * 3 + 2), arr_get _ (by omega), dcell_2, hx]; rfl
  · rw [hx]; exact (hr _ hm).1.ints
  · rw [hx]; exact h6 _ hm

/-- The letter m and the digits. -/
def mt (a : Nat) : ByteArray := ⟨(109 :: Lib.decDigits a).toArray⟩
theorem mt_eq (sb : ByteArray) (a : Nat) (h : sb = ⟨(Lib.decDigits a).toArray⟩) : (⟨#[109]⟩ : ByteArray) ++ sb = mt a := by
  refine bl_eta _ _ ?_
  rw [bl_append, h, bl_mk]; rfl
set_option maxRecDepth 100000 in
set_option maxHeartbeats 1000000 in
theorem markText_any (a : Nat) (w : World) (h1 : 1 ≤ a) (h : a ≤ 1000000000) :
    Calls Tryd.prog 71 #[.int .i64 a] w fun e w' => e = .returned (.string (mt a)) ∧ Below w.heap.size w w' := by
  have hneg : decide ((a : Int) ≤ 0) = false := by simp; omega
  go_enter Tryd.func71, Tryd.ntmps71
  go_wp2
  go_loopw [0, 3] (fun n s wr => ∃ (m : Nat) (sb : ByteArray), m ≤ a ∧ n = .int .i64 m ∧ s = .string sb ∧ sb.size + m ≤ a + 1 ∧ DigInv a m sb.data.toList ∧ Below w.heap.size w wr) (fun n s _ => (intOf n).toNat)
  case atStart => exact ⟨a, ⟨#[]⟩, Nat.le_refl _, rfl, rfl, by simp [ByteArray.size], .inl ⟨rfl, rfl⟩, Below.refl _ _⟩
  case round =>
    obtain ⟨m, sb, hm, rfl, rfl, hl, hinv, hbel⟩ := hrel
    have HI := Lib.hid hinv
    obtain ⟨cb, hcb⟩ : ∃ cb : UInt8, cb = UInt8.ofNat (48 + m % 10) := ⟨_, rfl⟩
    have hconv := conv_byte wr m cb hcb
    have HC := Lib.hid hcb
    clear hinv hcb
    by_cases hm0 : m = 0
    · have HE := Lib.hid (show sb = ⟨(Lib.decDigits a).toArray⟩ from bytes_eta sb _ (by
        rcases HI.out with ⟨_, e⟩ | ⟨h1, h2⟩
        · omega
        · rw [if_pos hm0] at h2; exact h2.symm))
      subst hm0
      clear hconv
      go_wp2
      go_ret
      exact ⟨congrArg (fun x => Ending.returned (.string x)) (mt_eq sb a HE.out), hbel⟩
    · have hb : decide ((0 : Int) < (m : Int)) = true := by simp; omega
      have hb2 : decide (0 < m) = true := by simp; omega
      go_wp2
      go_roundw
      case rel => exact ⟨m / 10, _, by omega, by go_num, rfl, by rw [size_cons]; omega, by rw [bytes_cons, HC.out]; exact digInv_step HI.out (.inr hm0), hbel.alloc hbel.size _⟩
      case measure => simp only [intOf]; omega

/-- The number that deed j is marked from. -/
def kD (k : Nat) (es : List DE) : Nat → Nat
  | 0 => k
  | j + 1 => kD k es j + 2 + (dex es j).z.length
theorem kD_le {k : Nat} {es : List DE} (h6 : ∀ j, (dex es j).z.length ≤ 6) : ∀ j, kD k es j ≤ k + 8 * j ∧ k ≤ kD k es j
  | 0 => ⟨Nat.le_refl _, Nat.le_refl _⟩
  | j + 1 => by have := kD_le (k := k) h6 j; have := h6 j; simp only [kD]; omega
def mcell (k : Nat) (es : List DE) (i q : Nat) : Value := if q / 3 < i then (if q % 3 = 0 then .int .i64 (kD k es (q / 3)) else if q % 3 = 1 then .string (mt (kD k es (q / 3) + 1)) else dcell es q) else dcell es q
theorem mcell_2 (k : Nat) (es : List DE) (i j : Nat) : mcell k es i (j * 3 + 2) = .slice (dex es j).A (dex es j).z.length (dex es j).c := by
  unfold mcell
  split
  · rw [if_neg (by omega), if_neg (by omega), dcell_2]
  · rw [dcell_2]
theorem mcell_0 (k : Nat) (es : List DE) {i j : Nat} (h : j < i) : mcell k es i (j * 3) = .int .i64 (kD k es j) := by
  unfold mcell; rw [if_pos (by omega), if_pos (by omega), show j * 3 / 3 = j by omega]
theorem mcell_1 (k : Nat) (es : List DE) {i j : Nat} (h : j < i) : mcell k es i (j * 3 + 1) = .string (mt (kD k es j + 1)) := by
  unfold mcell; rw [if_pos (by omega), if_neg (by omega), if_pos (by omega), show (j * 3 + 1) / 3 = j by omega]
theorem mcell_next (k : Nat) (es : List DE) (i : Nat) : ∀ q, (if q = i * 3 + 1 then .string (mt (kD k es i + 1)) else if q = i * 3 then .int .i64 (kD k es i) else mcell k es i q) = mcell k es (i + 1) q := fun q => by
  by_cases h1 : q = i * 3 + 1
  · rw [if_pos h1, h1, mcell_1 k es (Nat.lt_succ_self i)]
  · rw [if_neg h1]
    by_cases h0 : q = i * 3
    · rw [if_pos h0, h0, mcell_0 k es (Nat.lt_succ_self i)]
    · rw [if_neg h0]
      unfold mcell
      by_cases hq : q / 3 < i
      · rw [if_pos hq, if_pos (show q / 3 < i + 1 by omega)]
      · rw [if_neg hq]
        by_cases hq1 : q / 3 < i + 1
        · rw [if_pos hq1, if_neg (by omega), if_neg (by omega)]
        · rw [if_neg hq1]
/-- The deeds, marked. -/
def Marked (w : World) (k : Nat) (A : Option Addr) (es : List DE) : Prop :=
  0 < es.length → ∃ G, A = some ⟨G, 0, none⟩ ∧ Blk w G 39 (arr (3 * es.length) (mcell k es es.length)) ∧ ∀ j, j < es.length → Ints w w.heap.size (dex es j).A (marks ((kD k es j + 2 : Nat) : Int) (dex es j).z.length)
theorem Marked.on {w w' : World} {k : Nat} {A : Option Addr} {es : List DE} (h : Marked w k A es) (hb : Below w.heap.size w w') : Marked w' k A es := fun hn => by
  obtain ⟨G, e, hB, hr⟩ := h hn
  exact ⟨G, e, hB.on hb, fun j hj => (hr j hj).on hb⟩
/-- Marking under way: the first i are marked. -/
def RowsSt (k : Nat) (es : List DE) (i : Nat) (wr : World) : Prop :=
  (∀ j, j < i → j < es.length → Row wr 2 (dex es j).A (marks ((kD k es j + 2 : Nat) : Int) (dex es j).z.length) (dex es j).g) ∧ (∀ j, i ≤ j → j < es.length → Row wr 2 (dex es j).A (dex es j).z (dex es j).g)
theorem RowsSt.kept {k : Nat} {es : List DE} {i : Nat} {wr w' : World} {g : Nat} (h : RowsSt k es i wr) (hg : wr.grownBy w' (some g)) (hne : ∀ j, j < es.length → 0 < (dex es j).z.length → (dex es j).g ≠ g) : RowsSt k es i w' :=
  ⟨fun j hj hj' => (h.1 j hj hj').kept hg (fun hn e => hne j hj' (by rw [marks_length] at hn; exact hn) (Option.some.inj e)), fun j hj hj' => (h.2 j hj hj').kept hg (fun hn e => hne j hj' hn (Option.some.inj e))⟩
theorem RowsSt.on {k : Nat} {es : List DE} {i : Nat} {wr w' : World} (h : RowsSt k es i wr) (hb : Below wr.heap.size wr w') : RowsSt k es i w' := ⟨fun j hj hj' => (h.1 j hj hj').on hb, fun j hj hj' => (h.2 j hj hj').on hb⟩
def MarkSt (w : World) (lo k : Nat) (G : Nat) (es : List DE) (i : Nat) (wr : World) : Prop :=
  Blk wr G 39 (arr (3 * es.length) (mcell k es i)) ∧ RowsSt k es i wr ∧ Below lo w wr
/-- Behind the two stores. -/
theorem mark_step {w wr w2 : World} {lo k G : Nat} {es : List DE} {j a : Nat} (ha : kD k es j = a) (hG : lo ≤ G) (hne : ∀ i, i < es.length → 0 < (dex es i).z.length → (dex es i).g ≠ G) (hst : MarkSt w lo k G es j wr)
    (hb2 : Below (wr.setCell ⟨G, j * 3, none⟩ (.int .i64 a)).heap.size (wr.setCell ⟨G, j * 3, none⟩ (.int .i64 a)) w2) :
    (Blk w2 G 39 (arr (3 * es.length) (fun q => if q = j * 3 then .int .i64 a else mcell k es j q))) ∧
    Blk (w2.setCell ⟨G, j * 3 + 1, none⟩ (.string (mt (a + 1)))) G 39 (arr (3 * es.length) (mcell k es (j + 1))) ∧ RowsSt k es j (w2.setCell ⟨G, j * 3 + 1, none⟩ (.string (mt (a + 1)))) ∧ Below lo w (w2.setCell ⟨G, j * 3 + 1, none⟩ (.string (mt (a + 1)))) := by
  obtain ⟨hB, hR, hW⟩ := hst
  subst ha
  have B1 := hB.set_ (j * 3) (.int .i64 (kD k es j))
  rw [arr_set] at B1
  have B2 := B1.on hb2
  have B3 := B2.set_ (j * 3 + 1) (.string (mt (kD k es j + 1)))
  rw [arr_set, arr_congr (fun q _ => mcell_next k es j q)] at B3
  have R1 := hR.kept (grown_setCell wr G (j * 3) (.int .i64 (kD k es j))) hne
  have R3 := (R1.on hb2).kept (grown_setCell w2 G (j * 3 + 1) (.string (mt (kD k es j + 1)))) hne
  have W1 := hW.setCell (p := ⟨G, j * 3, none⟩) hG (.int .i64 (kD k es j))
  refine ⟨B2, B3, R3, (W1.trans (hb2.mono ?_)).setCell (p := ⟨G, j * 3 + 1, none⟩) hG _⟩
  exact Nat.le_trans hG (Nat.le_of_lt B1.lt)
/-- Behind the row's marking. -/
theorem mark_next {w w3 w4 : World} {lo k G g : Nat} {es : List DE} {j : Nat} (hlt : j < es.length) (B3 : Blk w3 G 39 (arr (3 * es.length) (mcell k es (j + 1)))) (R3 : RowsSt k es j w3) (W3 : Below lo w w3)
    (hg : w3.grownBy w4 (some g)) (hR4 : Row w4 2 (dex es j).A (marks ((kD k es j + 2 : Nat) : Int) (dex es j).z.length) g) (hgG : G ≠ g) (hlog : lo ≤ g) (hlo : lo ≤ w3.heap.size) (hgj : 0 < (dex es j).z.length → g = (dex es j).g)
    (hne : ∀ i, i < es.length → i ≠ j → 0 < (dex es i).z.length → (dex es i).g ≠ g) : MarkSt w lo k G es (j + 1) w4 := by
  refine ⟨B3.grown hg (fun e => hgG (Option.some.inj e)), ⟨fun i hi hi' => ?_, fun i hi hi' => ?_⟩, W3.grown hg hlo (fun x hx => by cases hx; exact hlog)⟩
  · by_cases e : i = j
    · subst e
      intro hn
      have hl : 0 < (dex es i).z.length := by rw [marks_length] at hn; exact hn
      rw [← hgj hl]
      exact hR4 hn
    · exact (R3.1 i (by omega) hi').kept hg (fun hn e' => hne i hi' e (by rw [marks_length] at hn; exact hn) (Option.some.inj e'))
  · exact (R3.2 i (by omega) hi').kept hg (fun hn e' => hne i hi' (by omega) hn (Option.some.inj e'))
set_option maxRecDepth 100000 in
set_option maxHeartbeats 4000000 in
theorem markDeedS_any (A : Option Addr) (c k lo : Nat) (es : List DE) (w : World) (hO : OwnD w lo A es) (h8 : es.length ≤ 8) (h6 : ∀ e ∈ es, e.z.length ≤ 6) (hk : k ≤ 1000) (hk1 : 1 ≤ k) (hlo : lo ≤ w.heap.size) :
    Calls Tryd.prog 35 #[.slice A es.length c, .int .i64 k] w fun e w' => e = .returned (.int .i64 (kD k es es.length)) ∧ Marked w' k A es ∧ Below lo w w' := by
  have h6' : ∀ j, (dex es j).z.length ≤ 6 := fun j => by
    by_cases hj : j < es.length
    · exact h6 _ (dex_mem es j hj)
    · simp [dex, hj]
  by_cases h0 : 0 < es.length
  · obtain ⟨G, rfl, hG, hB, hr, hp⟩ := hO h0
    have HG := Lib.hid (show ∀ j, j < es.length → 0 < (dex es j).z.length → lo ≤ (dex es j).g ∧ (dex es j).g ≠ G from fun j hj hn => (hr _ (dex_mem es j hj)).2 hn)
    have HP := Lib.hid (show ∀ i j, i < es.length → j < es.length → i ≠ j → 0 < (dex es i).z.length → 0 < (dex es j).z.length → (dex es i).g ≠ (dex es j).g from fun i j hi hj hne h1 h2 => by
      rw [dex_eq es i hi, dex_eq es j hj] at *
      rw [List.pairwise_iff_getElem] at hp
      rcases Nat.lt_or_gt_of_ne hne with h | h
      · exact hp i j hi hj h h1 h2
      · exact fun e => hp j i hj hi h h2 h1 e.symm)
    have hst : MarkSt w lo k G es 0 w := ⟨by
      have : arr (3 * es.length) (mcell k es 0) = arr (3 * es.length) (dcell es) := arr_congr fun q _ => by unfold mcell; rw [if_neg (by omega)]
      rw [this]; exact hB, ⟨fun j hj => absurd hj (by omega), fun j _ hj => (hr _ (dex_mem es j hj)).1⟩, Below.refl _ _⟩
    have HK := Lib.hid (show ∀ j, kD k es j ≤ k + 8 * j ∧ k ≤ kD k es j from kD_le h6')
    have H6 := Lib.hid h6'
    clear hO hB hr hp h6 h6'
    go_enter Tryd.func35, Tryd.ntmps35
    go_wp2
    go_loopw [1, 5] (fun q i wr => ∃ j : Nat, j ≤ es.length ∧ i = .int .i64 j ∧ q = .int .i64 (kD k es j) ∧ MarkSt w lo k G es j wr) (fun _ i _ => es.length - (intOf i).toNat)
    case atStart => exact ⟨0, Nat.zero_le _, rfl, rfl, hst⟩
    case round =>
      obtain ⟨j, hj, rfl, hq, hst⟩ := hrel
      obtain ⟨a, ha⟩ : ∃ a, kD k es j = a := ⟨_, rfl⟩
      have hab := HK.out j
      rw [ha] at hab hq
      subst hq
      have HA := Lib.hid ha
      by_cases hlt : j < es.length
      · have HST := Lib.hid hst
        have hB := hst.1
        have c0 : wr.cell? ⟨G, j * 3, none⟩ = some (mcell k es j (j * 3)) := by rw [hB.cell, arr_get _ (by omega)]
        have f0 := hB.frozen (j * 3)
        have hm0 : mcell k es j (j * 3) = .int .i64 (dex es j).k := by unfold mcell; rw [if_neg (by omega), dcell_0]
        rw [hm0] at c0
        have HCT := Lib.hid (show ∀ W, Calls Tryd.prog 71 #[.int .i64 ((a : Int) + 1)] W fun e w' => e = .returned (.string (mt (a + 1))) ∧ Below W.heap.size W w' from fun W => markText_any (a + 1) W (by omega) (by omega))
        have hwa : IntKind.i64.wrap ((a : Int) + 1) = (a : Int) + 1 := by rw [IntKind.wrap_i64]; omega
        have hwb : IntKind.i64.wrap ((a : Int) + 1 + 1) = (a : Int) + 1 + 1 := by rw [IntKind.wrap_i64]; omega
        have hwc : IntKind.i64.wrap ((a : Int) + 2) = (a : Int) + 2 := by rw [IntKind.wrap_i64]; omega
        clear hst hB ha hm0
        go_wp2_with fail
        refine (HCT.out _).mono ?_
        rintro e w2 ⟨rfl, hb2⟩
        obtain ⟨B2, B3, R3, W3⟩ := mark_step HA.out hG (fun i hi hn => (HG.out i hi hn).2) HST.out hb2
        have c1 : w2.cell? ⟨G, j * 3 + 1, none⟩ = some (.string (dex es j).n) := by
          rw [B2.cell, arr_get _ (by omega), if_neg (by omega)]
          unfold mcell
          rw [if_neg (by omega), dcell_1]
        have f1 := B2.frozen (j * 3 + 1)
        have c2 : (w2.setCell ⟨G, j * 3 + 1, none⟩ (.string (mt (a + 1)))).cell? ⟨G, j * 3 + 2, none⟩ = some (.slice (dex es j).A (dex es j).z.length (dex es j).c) := by rw [B3.cell, arr_get _ (by omega), mcell_2]
        have hz6 := H6.out j
        clear hb2 B2 c0 f0 HST
        have hlo3 : lo ≤ (w2.setCell ⟨G, j * 3 + 1, none⟩ (.string (mt (a + 1)))).heap.size := Nat.le_trans hlo W3.size
        go_wp2_with fail
        generalize w2.setCell ⟨G, j * 3 + 1, none⟩ (.string (mt (a + 1))) = w3 at *
        obtain ⟨g', q1, q2, q3, q4, q5⟩ : ∃ g', Row w3 2 (dex es j).A (dex es j).z g' ∧ G ≠ g' ∧ lo ≤ g' ∧ (0 < (dex es j).z.length → g' = (dex es j).g) ∧ (∀ i, i < es.length → i ≠ j → 0 < (dex es i).z.length → (dex es i).g ≠ g') := by
          by_cases hz : 0 < (dex es j).z.length
          · exact ⟨(dex es j).g, R3.2 j (Nat.le_refl _) hlt, fun e => (HG.out j hlt hz).2 e.symm, (HG.out j hlt hz).1, fun _ => rfl, fun i hi hne hn => HP.out i j hi hlt hne hn hz⟩
          · refine ⟨w3.heap.size, fun h => absurd h hz, fun e => ?_, hlo3, fun h => absurd h hz, fun i hi hne hn e => ?_⟩
            · have := B3.lt; omega
            · by_cases hij : i < j
              · have := (R3.1 i hij hi).lt (by rw [marks_length]; exact hn); omega
              · have := (R3.2 i (by omega) hi).lt hn; omega
        refine (markInt64S_any (dex es j).A (dex es j).c g' (dex es j).z ((a : Int) + 1 + 1) w3 q1 (by omega) (by omega) (by omega)).mono ?_
        rintro e w4 ⟨rfl, hR4, hg4⟩
        have hme : ((a : Int) + 1 + 1) = ((kD k es j + 2 : Nat) : Int) := by rw [HA.out]; omega
        rw [hme] at hR4
        have HN := Lib.hid (mark_next hlt B3 R3 W3 hg4 hR4 q2 q3 hlo3 q4 q5)
        have HKN := Lib.hid (show ((a : Int) + 1 + 1 + ((dex es j).z.length : Int)) = ((kD k es (j + 1) : Nat) : Int) by simp only [kD, HA.out]; omega)
        clear c1 f1 c2 B3 R3 W3 hg4 hR4 q1 q2 q3 q4 q5 hme
        go_wp2
        go_roundw
        case rel => exact ⟨j + 1, by omega, by go_num, by rw [HKN.out], HN.out⟩
        case measure => simp [intOf]; omega
      · obtain rfl : j = es.length := by omega
        have HM := Lib.hid (show Marked wr k (some ⟨G, 0, none⟩) es from fun _ => ⟨G, rfl, hst.1, fun j hj => (hst.2.1.1 j hj hj).ints⟩)
        have hW := hst.2.2
        clear hst
        go_wp2
        go_ret
        exact ⟨by rw [HA.out]; rfl, HM.out, hW⟩
  · have hn : es = [] := List.length_eq_zero_iff.1 (by omega)
    subst hn
    go_enter Tryd.func35, Tryd.ntmps35
    go_wp2
    go_loopw [1, 5] (fun q i wr => i = .int .i64 0 ∧ q = .int .i64 k ∧ wr = w) (fun _ i _ => 0)
    case atStart => exact ⟨rfl, rfl, rfl⟩
    case round =>
      obtain ⟨rfl, rfl, rfl⟩ := hrel
      go_wp2
      go_ret
      exact ⟨rfl, fun h => absurd h (by simp), Below.refl _ _⟩
set_option maxRecDepth 100000 in
set_option maxHeartbeats 4000000 in
theorem heldDeedS_any (A : Option Addr) (c k : Nat) (es : List DE) (w : World) (hM : Marked w k A es) (h8 : es.length ≤ 8) (h6 : ∀ e ∈ es, e.z.length ≤ 6) (hk : k ≤ 1000) (hk1 : 1 ≤ k) :
    Calls Tryd.prog 36 #[.slice A es.length c, .int .i64 k] w fun e w' => e = .returned (.int .i64 (kD k es es.length)) ∧ Below w.heap.size w w' := by
  have h6' : ∀ j, (dex es j).z.length ≤ 6 := fun j => by
    by_cases hj : j < es.length
    · exact h6 _ (dex_mem es j hj)
    · simp [dex, hj]
  have HK := Lib.hid (show ∀ j, kD k es j ≤ k + 8 * j ∧ k ≤ kD k es j from kD_le h6')
  have H6 := Lib.hid h6'
  clear h6 h6'
  go_enter Tryd.func36, Tryd.ntmps36
  go_wp2
  go_loopw [1, 5] (fun q i wr => ∃ j : Nat, j ≤ es.length ∧ i = .int .i64 j ∧ q = .int .i64 (kD k es j) ∧ Below w.heap.size w wr) (fun _ i _ => es.length - (intOf i).toNat)
  case atStart => exact ⟨0, Nat.zero_le _, rfl, rfl, Below.refl _ _⟩
  case round =>
    obtain ⟨j, hj, rfl, hq, hW⟩ := hrel
    obtain ⟨a, ha⟩ : ∃ a, kD k es j = a := ⟨_, rfl⟩
    have hab := HK.out j
    rw [ha] at hab hq
    subst hq
    have HA := Lib.hid ha
    have hMr := hM.on hW
    clear hM
    by_cases hlt : j < es.length
    · obtain ⟨G, rfl, hB, hr⟩ := hMr (by omega)
      have c0 : wr.cell? ⟨G, j * 3, none⟩ = some (.int .i64 a) := by rw [hB.cell, arr_get _ (by omega), mcell_0 k es hlt, ha]
      have c1 : wr.cell? ⟨G, j * 3 + 1, none⟩ = some (.string (mt (a + 1))) := by rw [hB.cell, arr_get _ (by omega), mcell_1 k es hlt, ha]
      have c2 : wr.cell? ⟨G, j * 3 + 2, none⟩ = some (.slice (dex es j).A (dex es j).z.length (dex es j).c) := by rw [hB.cell, arr_get _ (by omega), mcell_2]
      have hrj := hr j hlt
      have HB := Lib.hid hB
      have haa : ((a : Int) != (a : Int)) = false := by simp
      have HCT := Lib.hid (show ∀ W, Calls Tryd.prog 71 #[.int .i64 ((a : Int) + 1)] W fun e w' => e = .returned (.string (mt (a + 1))) ∧ Below W.heap.size W w' from fun W => markText_any (a + 1) W (by omega) (by omega))
      obtain ⟨T, hT⟩ : ∃ T, mt (a + 1) = T := ⟨_, rfl⟩
      rw [hT] at c1 HCT
      have hwa : IntKind.i64.wrap ((a : Int) + 1) = (a : Int) + 1 := by rw [IntKind.wrap_i64]; omega
      have hwb : IntKind.i64.wrap ((a : Int) + 1 + 1) = (a : Int) + 1 + 1 := by rw [IntKind.wrap_i64]; omega
      have hwc : IntKind.i64.wrap ((a : Int) + 2) = (a : Int) + 2 := by rw [IntKind.wrap_i64]; omega
      have hji : (j : Int) < (es.length : Int) := by omega
      have hz6 := H6.out j
      clear hB hr ha hT hMr
      go_wp2_with fail
      go_region_law (first | (go_simp; refine (HCT.out _).mono ?_; rintro e w2 ⟨rfl, hb2⟩; have B2 := (HB.out.drewN 1).on hb2; have d1 : w2.cell? ⟨G, j * 3 + 1, none⟩ = some (.string T) := (hb2.cell (cell_lt c1)).trans c1; have d2 : w2.cell? ⟨G, j * 3 + 2, none⟩ = some (.slice (dex es j).A (dex es j).z.length (dex es j).c) := (hb2.cell (cell_lt c2)).trans c2; have i2 := (hrj.drewN 1).on hb2; have W2 : Below w.heap.size w w2 := bel_step hW ((bel_drewN (Below.refl _ _) 1).trans hb2)))
      all_goals
        clear c0 c1 c2 d1 hrj HB B2 hb2 hW
        have hme : ((kD k es j + 2 : Nat) : Int) = ((a : Int) + 1 + 1) := by rw [HA.out]; omega
        rw [hme] at i2
        have hd : decide ((a : Int) + 1 + 1 + ((dex es j).z.length : Int) < 0) = false := by simp; omega
        have HKN := Lib.hid (show ((a : Int) + 1 + 1 + ((dex es j).z.length : Int)) = ((kD k es (j + 1) : Nat) : Int) by simp only [kD, HA.out]; omega)
        clear hme
        go_wp2_with fail
        refine (heldInt64S_any (dex es j).A (dex es j).c (dex es j).z.length _ ((a : Int) + 1 + 1) w2 i2 (by omega) (by omega) (by omega)).mono ?_
        rintro e w3 ⟨rfl, hw3⟩
        cases hw3
        go_wp2
        go_roundw
        case rel => exact ⟨j + 1, by omega, by go_num, by rw [HKN.out], W2⟩
        case measure => simp [intOf]; omega
    · obtain rfl : j = es.length := by omega
      go_wp2
      go_ret
      exact ⟨by rw [HA.out]; rfl, hW⟩
end Go.Proofs.YtkjpaafmolikoabDoor
