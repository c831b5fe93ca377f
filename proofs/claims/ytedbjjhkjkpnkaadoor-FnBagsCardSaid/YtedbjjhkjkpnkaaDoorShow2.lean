/- ShowRow, the model's and the program's, both show a row by the bytes 'showL': the text of each right row, the empty text of any other. For slices of at most 2^40 numbers; the program's reads a table of the library's, which lies as its text lays it. -/
import Derived.Test.YtedbjjhkjkpnkaaDoorText1
import Derived.Test.YtedbjjhkjkpnkaaDoorJA
import Derived.Test.YtedbjjhkjkpnkaaDoorShelfI
import Derived.Lib.ItoaLen
import Derived.Lib.OthersKept
namespace Go.Proofs.YtedbjjhkjkpnkaaDoor
open Go.RowKit Go.Shelf
attribute [local go_sem] Oper.semAt_some

theorem numbersL_nil : numbersL [] = [] := rfl
theorem numbersL_one (x : Int) : numbersL [x] = Lib.itoa x := by simp [numbersL, numT, catT, cat, bl]
theorem numbersL_snoc (zs : List Int) (x : Int) (h : zs ≠ []) : numbersL (zs ++ [x]) = numbersL zs ++ [32] ++ Lib.itoa x := by
  unfold numbersL catT numT
  rw [List.map_append, List.map_append]
  have := cat_snoc (bl ⟨#[32]⟩) (Lib.itoa x) ((zs.map fun n => (⟨(Lib.itoa n).toArray⟩ : ByteArray)).map bl) (by simpa using h)
  simpa [bl] using this
theorem itoa_pos (x : Int) : 0 < (Lib.itoa x).length := by
  unfold Lib.itoa
  split
  · simp
  · rw [Lib.decDigits_length]; exact Lib.nDigits_pos _
theorem numbersL_len (zs : List Int) (h : zs.all cellB = true) : (numbersL zs).length ≤ 22 * zs.length ∧ (zs ≠ [] → 0 < (numbersL zs).length) := by
  induction hn : zs.length generalizing zs with
  | zero =>
    have : zs = [] := List.length_eq_zero_iff.1 hn
    subst this
    exact ⟨by simp [numbersL_nil], fun h => absurd rfl h⟩
  | succ n ih =>
    have hne : zs ≠ [] := by intro e; subst e; simp at hn
    obtain ⟨ini, x, rfl⟩ : ∃ ini x, zs = ini ++ [x] := ⟨zs.dropLast, zs.getLast hne, (List.dropLast_concat_getLast hne).symm⟩
    rw [List.all_append] at h
    have h1 : ini.all cellB = true ∧ cellB x = true := by simpa using h
    obtain ⟨hx0, hx1⟩ := cell_of_B h1.2
    have hil := Lib.itoa_length_le x (by omega) (by omega)
    have hip := itoa_pos x
    have hini : ini.length = n := by simp at hn; omega
    have := (ih ini h1.1 hini).1
    by_cases h0 : ini = []
    · subst h0
      simp only [List.nil_append, numbersL_one]
      exact ⟨by omega, fun _ => hip⟩
    · rw [numbersL_snoc ini x h0]
      simp only [List.length_append, List.length_cons, List.length_nil]
      exact ⟨by omega, fun _ => by omega⟩

/-- What ShowRow shows. -/
def showL (zs : List Int) : List UInt8 := if rowOkB zs = true then (if zs = [] then [45] else numbersL zs) else []
theorem rowOkB_all {zs : List Int} (h : rowOkB zs = true) : zs.all cellB = true ∧ zs.length ≤ 6 := by
  unfold rowOkB at h
  rw [Bool.and_eq_true] at h
  exact ⟨h.1, of_decide_eq_true h.2⟩

set_option maxHeartbeats 1000000 in
theorem specShowRow_any (A : Option Addr) (c : Nat) (zs : List Int) (w : World) (hI : Ints w w.heap.size A zs) (hl : zs.length ≤ 1099511627776) :
    Calls Tryd.prog 33 #[.slice A zs.length c] w fun e w' => e = .returned (.string ⟨(showL zs).toArray⟩) ∧ Below w.heap.size w w' := by
  by_cases hok : rowOkB zs = true
  · obtain ⟨hall, h6⟩ := rowOkB_all hok
    have HOK := Lib.hid hok
    clear hok
    by_cases h0 : zs = []
    · subst h0
      have HS : Hid (showL [] = [45]) := by show showL [] = _; unfold showL; rw [if_pos HOK.out]; rfl
      go_enter Tryd.func33, Tryd.ntmps33
      go_wp2_with (go_at_call 18; refine (specRowOk_yes _ _ [] _ _ hI hl HOK.out).mono ?_; rintro e w' ⟨rfl, rfl⟩)
      go_ret
      exact ⟨ret_str HS.out.symm, Below.refl _ _⟩
    · have HS : Hid (showL zs = numbersL zs) := by show showL zs = _; unfold showL; rw [if_pos HOK.out, if_neg h0]
      have hpos : 0 < zs.length := List.length_pos_iff.2 h0
      have hne : ((zs.length : Int) == 0) = false := by simp; omega
      have hsum : (numbersL zs).length ≤ 1099511627776 := by have := (numbersL_len zs hall).1; omega
      have HALL := Lib.hid hall
      clear hall h0
      go_enter Tryd.func33, Tryd.ntmps33
      go_wp2_with (first | (go_at_call 18; refine (specRowOk_yes _ _ zs _ _ hI hl HOK.out).mono ?_; rintro e w' ⟨rfl, rfl⟩) | (go_at_call 54; refine (l1Numbers_any _ _ zs _ hI (by omega) HALL.out hsum).mono ?_; rintro e w' ⟨rfl, hb'⟩))
      go_ret
      exact ⟨ret_str HS.out.symm, hb'⟩
  · have hok' : rowOkB zs = false := by simpa using hok
    have HOK := Lib.hid hok'
    have HS : Hid (showL zs = []) := by show showL zs = _; unfold showL; rw [if_neg hok]
    clear hok hok'
    go_enter Tryd.func33, Tryd.ntmps33
    go_wp2_with (go_at_call 18; refine (specRowOk_no _ _ zs _ _ hI hl HOK.out).mono ?_; rintro e w' ⟨rfl, rfl⟩)
    go_ret
    exact ⟨ret_str HS.out.symm, Below.refl _ _⟩

/-- A number that a row may have. -/
abbrev Cell := { x : Int // -1000000000 ≤ x ∧ x ≤ 1000000000 }
def cv (x : Cell) : Int := x.1
theorem cv_in (x : Cell) : -1000000000 ≤ cv x ∧ cv x ≤ 1000000000 := x.2
theorem cells_of {zs : List Int} (h : zs.all cellB = true) : ∃ xs : List Cell, xs.map cv = zs := by
  induction zs with
  | nil => exact ⟨[], rfl⟩
  | cons x zs ih =>
    have h1 : cellB x = true ∧ zs.all cellB = true := by simpa using h
    obtain ⟨xs, rfl⟩ := ih h1.2
    exact ⟨⟨x, cell_of_B h1.1⟩ :: xs, rfl⟩
theorem cells_all (xs : List Cell) : (xs.map cv).all cellB = true := by
  rw [List.all_eq_true]
  intro y hy
  obtain ⟨x, _, rfl⟩ := List.mem_map.1 hy
  have := cv_in x
  simp [cellB, inB]; omega
/-- The text that has been written when the numbers pre have come. -/
def tb (pre : List Cell) : List UInt8 := numbersL (pre.map cv)
theorem tb_len (pre : List Cell) : (tb pre).length ≤ 22 * pre.length ∧ (pre ≠ [] → 0 < (tb pre).length) := by
  have := numbersL_len _ (cells_all pre)
  simpa [tb] using this
theorem tb_one (x : Cell) : tb [x] = Lib.itoa (cv x) := numbersL_one _
theorem tb_first (x : Cell) : tb [x] = tb [] ++ Lib.itoa (cv x) := by rw [tb_one]; simp [tb, numbersL_nil]
theorem tb_snoc (pre : List Cell) (x : Cell) (h : pre ≠ []) : tb (pre ++ [x]) = tb pre ++ [32] ++ Lib.itoa (cv x) := by
  unfold tb
  rw [List.map_append]
  exact numbersL_snoc _ _ (by simp only [ne_eq, List.map_eq_nil_iff]; exact h)
theorem keeps_of_others {e : TypeId} {W W' : World} (h : Lib.OthersKept e none W W') (hs : W.heap.size ≤ W'.heap.size) : KeepsOthers W W' :=
  ⟨hs, fun k o hk ho => h k o hk (by simp) (by rintro c fz rfl; cases ho)⟩

set_option maxRecDepth 100000 in
set_option maxHeartbeats 4000000 in
theorem implShowRow_numbers (A : Option Addr) (cap : Nat) (zs : List Int) (w : World) (hI : Ints w w.heap.size A zs) (hok : rowOkB zs = true) (h0 : zs ≠ []) (htab : Lib.TabBelow Tryd.prog w.heap.size w "internal/strconv.uint64pow10" .u64 Lib.pow10Tab) :
    Calls Tryd.prog 31 #[.slice A zs.length cap] w fun e w' => e = .returned (.string ⟨(numbersL zs).toArray⟩) ∧ Below w.heap.size w w' := by
  obtain ⟨i0, hi, hz0, hz1, hz2⟩ := info_parts info_u8
  obtain ⟨hall, h6⟩ := rowOkB_all hok
  have hpos : 0 < zs.length := List.length_pos_iff.2 h0
  have hne : ((zs.length : Int) == 0) = false := by simp; omega
  obtain ⟨xs, hxs⟩ := cells_of hall
  have hxl : xs.length ≤ 6 := by rw [← hxs] at h6; simpa using h6
  have HX := Lib.hid hxs
  have HOK := Lib.hid hok
  have H0 := Lib.hid h0
  clear hxs hok hall h0
  refine (callsIn_wide (n := 3)).1 ?_
  refine callsIn_of_wp_marks Tryd.func31 rfl trivial ?_ rfl
  simp only [Tryd.ntmps31, List.size_toArray, List.length_cons, List.length_nil, Nat.reduceAdd, Nat.reduceSub, Array.replicate_succ, Array.replicate_zero, List.push_toArray, List.append_toArray, List.nil_append, List.cons_append]
  gi_wp2_with (first | (refine ⟨trivial, ?_⟩; gi_at_call 36; refine (callsIn_wide.2 (implRowOk_yes _ _ zs (by omega) _ hI HOK.out)).mono ?_; rintro e w1 ⟨rfl, hb1⟩) | (refine ⟨trivial, ?_⟩; gi_at_call 52; refine (cells_in Fence.wide 2 trivial rfl _ _ _ _).mono ?_; rintro e w' ⟨rfl, rfl⟩))
  have bO := Boxed.new w1 22 (.slice none 0 0)
  have bN := Boxed.new (w1.alloc (.cells #[.slice none 0 0] 22)) 28 (.slice A zs.length cap)
  rw [World.size_alloc] at bN
  have hI1 := (hI.below hb1).more hb1.size
  have htab1 : Lib.TabBelow Tryd.prog w1.heap.size w1 "internal/strconv.uint64pow10" .u64 Lib.pow10Tab := fun w' h' => htab w' (hb1.trans (h'.mono hb1.size))
  have hB0 : Below w1.heap.size w1 ((w1.alloc (.cells #[.slice none 0 0] 22)).alloc (.cells #[.slice A zs.length cap] 28)) := ((Below.refl _ w1).alloc (Nat.le_refl _) _).alloc (by simp) _
  clear hI htab
  refine wpIn_rangeFunc_ownG (F := Fence.wide) (n := 3) rfl (by omega) (gf := 58) (lb := #[.pointer (some ⟨w1.heap.size + 1, 0, none⟩)]) rfl trivial (enters_of Tryd.func58 (by kernel_rfl) rfl)
    (cells_stopsZ cv Fence.wide (3 - 1) trivial rfl (by omega) (w1.heap.size + 1) w1.heap.size A cap xs zs HX.out (by omega) _ (by simp) (by simp; omega) bN.cell (hI1.below hB0)) belowK_t (belowK_b (by simp; omega)) (Below.refl _ _) (fun _ => rfl)
    (fun pre W => (∃ v, Boxed W w1.heap.size 22 v ∧ W.ownsRow w1.heap.size 5 1 v (tb pre).length (Lib.byteCells (tb pre)) ∧ True) ∧ Below w1.heap.size w1 W)
    (fun _ _ _ => False)
    (OwnFrom.and (Own.from (holdsRow_own w1.heap.size w1.heap.size 22 5 1 (fun pre => (tb pre).length) (fun pre => Lib.byteCells (tb pre)) (fun _ _ => True)) _) (ownFrom_below (Nat.le_refl _) (by simp; omega)))
    (fun _ _ _ _ _ hs _ _ => hs)
    ⟨⟨_, bO.alloc _, World.ownsRow_nil _ _ _ _, trivial⟩, hB0⟩
    (fun x => { tmps := #[.slice A zs.length cap, undef, .string ⟨#[]⟩, .pointer (some ⟨w1.heap.size, 0, none⟩), .int .i64 (cv x), .slice A zs.length cap, .bool true, .bool false, .slice A zs.length cap, .int .i64 zs.length, .bool false, .slice A zs.length cap, .func (.func 58) #[] #[.pointer (some ⟨w1.heap.size + 1, 0, none⟩)], .int .i64 (cv x), undef, undef, undef, undef, undef, undef, undef, undef, undef, undef, undef], defers := [] }) ?assign ?body ?done ?stop
  case assign =>
    intro l x W K hK
    gi_wp2
    exact hK
  case body =>
    rintro l pre x W ⟨⟨v, hv, hrow, _⟩, hB⟩ hlt
    obtain ⟨A', cap', rfl⟩ := own_form hrow
    obtain ⟨htl, htp⟩ := tb_len pre
    have hil := Lib.itoa_length_le (cv x) (by have := cv_in x; omega) (by have := cv_in x; omega)
    have hx0 : -9223372036854775808 ≤ cv x := by have := cv_in x; omega
    have hx1 : cv x ≤ 9223372036854775807 := by have := cv_in x; omega
    have hc := hv.cell
    by_cases hp0 : pre = []
    · subst hp0
      gi_wp2_with (refine ⟨trivial, ?_⟩; gi_at_call 32; refine (CallsIn.inRound l (callsIn_wide.2 (Tryd.strconv_AppendInt_10 w1.heap.size (tb []).length (cv x) hx0 hx1 _ _ _ hrow hB.size (by omega) (htab1.on hB)))).mono ?_; rintro e w2 ⟨v2, rfl, hown2, hb2, hok2⟩; obtain ⟨A2, cap2, rfl⟩ := own_form hown2; have hv2 : Boxed w2 w1.heap.size 22 _ := (hok2 _ _ hv (by simp) (by intro c fz e; cases e)); have hc2 := hv2.cell; have hf2 := hv2.frozen)
      have hres := hown2.kept (grownBy_setCell' w2 w1.heap.size (.slice A2 ((tb []).length + (Lib.itoa (cv x)).length) cap2)) (.inr (hv2.not_row (by decide) hown2).symm)
      refine ⟨((keeps_of_others hok2 hb2.size).trans (KeepsOthers.setCell _ _ _)).from _, hb2.setCell (p := ⟨w1.heap.size, 0, none⟩) (Nat.le_refl _) _, ⟨_, hv2.set _, ?_, trivial⟩, (hB.trans hb2).setCell (p := ⟨w1.heap.size, 0, none⟩) (Nat.le_refl _) _⟩
      rw [List.nil_append, tb_first x, List.length_append, Lib.byteCells_append]
      exact hres
    · have htp' := htp hp0
      gi_wp2_with (first | (gi_at_builtin; refine wpListIn_append_own _ rfl _ _ 22 rfl w1.heap.size 5 i0 (.int .u8 0) 1 1 Tryd.underlying22 hi hz0 hz1 hz2 rfl (by decide) _ _ _ rfl (hrow.alloc _) ⟨W.heap.size, 0, none⟩ 1 1 [.int .u8 32] rfl rfl (cell_one_new _ _ _) (by simp [Value.oneCell']) (by simp only [maxLen]; omega) (by omega) (by have := hB.size; simp; omega) ?_; intro v' w3 hown' hgrow _; obtain ⟨g', cap3, rfl⟩ := ownsRow_succ hown'; obtain ⟨hv1, hv3, hr3, hk3, hb3⟩ := hv.appended (by decide) hrow hB.size (Nat.le_refl _) hown' hgrow; have hc1 := hv1.cell; have hf1 := hv1.frozen; have hc3 := hv3.cell) | (refine ⟨trivial, ?_⟩; gi_at_call 32; refine (CallsIn.inRound l (callsIn_wide.2 (Tryd.strconv_AppendInt_10 w1.heap.size ((tb pre).length + 1) (cv x) hx0 hx1 _ _ _ hr3 (hB.trans hb3).size (by omega) (htab1.on (hB.trans hb3))))).mono ?_; rintro e w2 ⟨v2, rfl, hown2, hb2, hok2⟩; obtain ⟨A2, cap2, rfl⟩ := own_form hown2; have hv2 : Boxed w2 w1.heap.size 22 _ := (hok2 _ _ hv3 (by simp) (by intro c fz e; cases e)); have hc2 := hv2.cell; have hf2 := hv2.frozen))
      have hres := hown2.kept (grownBy_setCell' w2 w1.heap.size (.slice A2 ((tb pre).length + 1 + (Lib.itoa (cv x)).length) cap2)) (.inr (hv2.not_row (by decide) hown2).symm)
      refine ⟨((hk3.trans (keeps_of_others hok2 hb2.size)).trans (KeepsOthers.setCell _ _ _)).from _, (hb3.trans hb2).setCell (p := ⟨w1.heap.size, 0, none⟩) (Nat.le_refl _) _, ⟨_, hv2.set _, ?_, trivial⟩, ((hB.trans hb3).trans hb2).setCell (p := ⟨w1.heap.size, 0, none⟩) (Nat.le_refl _) _⟩
      rw [tb_snoc pre x hp0, List.length_append, List.length_append, Lib.byteCells_append, Lib.byteCells_append]
      exact hres
  case done =>
    rintro D ys W hD rfl ⟨⟨v, hv, hrow, _⟩, hB⟩ hK
    have HT : Hid (tb ys = numbersL zs) := by show tb ys = _; unfold tb; rw [HX.out]
    have htl : 0 < (tb ys).length := by
      rw [HT.out]
      exact (numbersL_len zs (rowOkB_all HOK.out).1).2 H0.out
    rcases hrow.2 with ⟨rfl, hn0⟩ | ⟨g, capg, cur, rfl, hg, hh, hnc, _, hs, ht⟩
    · omega
    have hc := hv.cell
    have hcv := run_convert_bytes_back (P := Tryd.prog) W 22 9 5 ⟨g, 0, none⟩ capg (tb ys) Tryd.underlying22 Tryd.underlying5 Tryd.underlying9 (fun j hj => by
      have e := hrow.cells (g := g) rfl j (.int .u8 ((tb ys)[j].toNat : Int)) (by simp [Lib.byteCells, hj])
      exact e)
    clear ht hs hh hnc
    gi_wp2
    refine ⟨by simp, .inl ⟨_, _, rfl, run_takeDeferred hK, ?_⟩⟩
    refine ⟨.string ⟨(tb ys).toArray⟩, ?_, ret_str HT.out, (hb1.trans (hB.mono hb1.size)).trans ((belowK_b (w := w1) (Nat.le_refl _) W D _ _ (by simp at hD; omega) hK rfl rfl).mono hb1.size)⟩
    simp [results, Tryd.f31, go_sem]
  case stop =>
    rintro D c pre W _ _ h _
    exact h.elim

set_option maxHeartbeats 1000000 in
theorem implShowRow_any (A : Option Addr) (c : Nat) (zs : List Int) (w : World) (hI : Ints w w.heap.size A zs) (hl : zs.length ≤ 1099511627776) (htab : Lib.TabBelow Tryd.prog w.heap.size w "internal/strconv.uint64pow10" .u64 Lib.pow10Tab) :
    Calls Tryd.prog 31 #[.slice A zs.length c] w fun e w' => e = .returned (.string ⟨(showL zs).toArray⟩) ∧ Below w.heap.size w w' := by
  by_cases hok : rowOkB zs = true
  · by_cases h0 : zs = []
    · subst h0
      have HOK := Lib.hid hok
      have HS : Hid (showL [] = [45]) := by show showL [] = _; unfold showL; rw [if_pos hok]; rfl
      clear hok htab
      go_enter Tryd.func31, Tryd.ntmps31
      go_wp2_with (go_at_call 36; refine (implRowOk_yes _ _ [] hl _ hI HOK.out).mono ?_; rintro e w' ⟨rfl, hb'⟩)
      go_ret
      exact ⟨ret_str HS.out.symm, hb'⟩
    · have HS : showL zs = numbersL zs := by unfold showL; rw [if_pos hok, if_neg h0]
      rw [HS]
      exact implShowRow_numbers A c zs w hI hok h0 htab
  · have hok' : rowOkB zs = false := by simpa using hok
    have HOK := Lib.hid hok'
    have HS : Hid (showL zs = []) := by show showL zs = _; unfold showL; rw [if_neg hok]
    clear hok hok' htab
    go_enter Tryd.func31, Tryd.ntmps31
    go_wp2_with (go_at_call 36; refine (implRowOk_no _ _ zs hl _ hI HOK.out).mono ?_; rintro e w' ⟨rfl, hb'⟩)
    go_ret
    exact ⟨ret_str HS.out.symm, hb'⟩
end Go.Proofs.YtedbjjhkjkpnkaaDoor
