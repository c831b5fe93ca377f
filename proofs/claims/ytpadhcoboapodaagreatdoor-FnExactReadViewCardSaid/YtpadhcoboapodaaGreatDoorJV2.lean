/- Texts joined: Read3, Read4, Laid1, Cnd0, Arr0, CndL, CndOpen: contracts and plain facts; each says its own below. -/
import Derived.Test.YtpadhcoboapodaaGreatDoorJV1
import Derived.Test.YtpadhcoboapodaaGreatDoorShelfR
import Derived.WalkSmall
import Derived.Lib.AtoiErrMem
import Derived.Lib.AppendIntMem
import Derived.Test.YtpadhcoboapodaaGreatDoorRows
import Derived.LaidMore
import Derived.LaidLaws
import Derived.Stop.Joined
import Derived.Stop.LaidErr
import Derived.HandedShaped
import Derived.Shelf.Vars
import Derived.Lay
import Derived.Test.YtpadhcoboapodaaGreatDoorJA
import Derived.StillTailTactics
import Derived.Deep.SlicePairs
import Derived.ChangeSlices
import Derived.ProofKit
/- ReadRow, the model's and the program's: what each answers; both read alike (read_same). For texts of at most 2^30 bytes; the program's reads variables of the library's, which lie as its text lays them. -/
namespace Go.Proofs.YtpadhcoboapodaaGreatDoor
open Go.RowKit

theorem mapM_take_succ {α β : Type} (f : α → Option β) (l : List α) (k : Nat) (r : List β) (x : β) (hk : k < l.length) (hr : (l.take k).mapM f = some r) (hx : f l[k] = some x) : (l.take (k + 1)).mapM f = some (r ++ [x]) := by
  rw [List.take_succ_eq_append_getElem hk, List.mapM_append, hr]
  simp [hx]
theorem mapM_stop {α β : Type} (f : α → Option β) (l : List α) (k : Nat) (hk : k < l.length) (hx : f l[k] = none) : l.mapM f = none := by
  cases h : l.mapM f with
  | none => rfl
  | some r =>
    exfalso
    obtain ⟨h1, h2⟩ := mapM_some h
    have := h2 k l[k] (r[k]'(by omega)) (List.getElem?_eq_getElem hk) (List.getElem?_eq_getElem (by omega))
    rw [hx] at this; cases this
theorem mapM_len {α β : Type} {f : α → Option β} {l : List α} {r : List β} (h : l.mapM f = some r) : l.length = r.length := (mapM_some h).1
theorem cat_mem_le (by_ : List UInt8) : ∀ (ws : List (List UInt8)) (w : List UInt8), w ∈ ws → w.length ≤ (cat by_ ws).length
  | [], w, h => by cases h
  | [v], w, h => by have : w = v := by simpa using h
                    subst this; simp [cat]
  | v :: u :: r, w, h => by
    rw [cat]
    rcases List.mem_cons.1 h with rfl | h
    · simp
    · have := cat_mem_le by_ (u :: r) w h
      simp only [List.length_append]; omega
theorem word_le {s : ByteArray} {ts : List ByteArray} {c : UInt8} (h : ts.map bl = spl c (bl s)) {k : Nat} (hk : k < ts.length) : (sx ts k).size ≤ s.size := by
  rw [← bl_length, ← bl_length]
  have hm : bl (sx ts k) ∈ spl c (bl s) := by rw [← h, sx_eq ts k hk]; exact List.mem_map_of_mem (List.getElem_mem hk)
  have := cat_mem_le [c] _ _ hm
  rwa [cat_spl] at this
theorem word_at (ts : List ByteArray) {k : Nat} (hk : k < ts.length) (h2 : k < (ts.map bl).length) : (ts.map bl)[k] = bl (sx ts k) := by rw [sx_eq ts k hk]; simp

/-- The answer of a reader of rows, in memory. -/
def RowAns (p : List Int × Bool) (w : World) (e : Ending) (w' : World) : Prop :=
  ∃ v, e = .returned (.tuple #[v, .bool p.2]) ∧ w'.ownsRow w.heap.size 2 1 v p.1.length (i64l p.1) ∧ Below w.heap.size w w'

theorem own_ne {w : World} {b b' : Nat} {e e' : TypeId} {sz sz' : Nat} {v v' : Value} {n n' : Nat} {xs xs' : List Value} (h : w.ownsRow b e sz v n xs) (h' : w.ownsRow b' e' sz' v' n' xs') (hne : e ≠ e') : v.ownBlock = none ∨ v.ownBlock ≠ v'.ownBlock := by
  rcases h.2 with ⟨rfl, _⟩ | ⟨g, cap, cur, rfl, _, hh, _⟩
  · exact .inl rfl
  · right
    rcases h'.2 with ⟨rfl, _⟩ | ⟨g', cap', cur', rfl, _, hh', _⟩
    · simp [Value.ownBlock]
    · intro he
      have : g = g' := by simpa [Value.ownBlock] using he
      subst this
      rw [hh] at hh'
      injection hh' with hh'
      injection hh' with _ ht
      exact hne ht
theorem strs_at {w : World} {base : Nat} {A : Option Addr} {cap : Nat} {ts : List ByteArray} (h : w.ownsRow base 9 1 (.slice A ts.length cap) ts.length (strl ts)) : Strs w w.heap.size A ts := by
  obtain ⟨A', cap', e, hS⟩ := strs_of_own h
  injection e with e1 _ _
  subst e1
  exact hS

theorem specRead_none {s : List UInt8} (h : s ≠ [45]) (h2 : (spl 32 s).mapM (readNum 10) = none) : specRead s = ([], false) := by unfold specRead; rw [if_neg h, h2]
theorem specRead_yes {s : List UInt8} {r : List Int} (h : s ≠ [45]) (h2 : (spl 32 s).mapM (readNum 10) = some r) (h3 : rowOkB r = true) : specRead s = (r, true) := by unfold specRead; rw [if_neg h, h2]; simp only; rw [if_pos h3]
theorem specRead_no {s : List UInt8} {r : List Int} (h : s ≠ [45]) (h2 : (spl 32 s).mapM (readNum 10) = some r) (h3 : ¬ rowOkB r = true) : specRead s = ([], false) := by unfold specRead; rw [if_neg h, h2]; simp only; rw [if_neg h3]
theorem specRead_len (s : List UInt8) : (specRead s).1.length ≤ 6 := by
  unfold specRead
  split
  · simp
  · split
    · simp
    · rename_i r h
      split
      · rename_i hok; exact (rowOkB_all hok).2
      · simp
theorem toList_bl (s : ByteArray) : s.toList = bl s := ByteArray.toList_eq s

end Go.Proofs.YtpadhcoboapodaaGreatDoor

/- The program's ReadRow answers as the model's does. For texts of at most 2^30 bytes; the variables of the library that it reads lie as its text lays them. -/
namespace Go.Proofs.YtpadhcoboapodaaGreatDoor
open Go.RowKit

theorem splitC_words (c : UInt8) : ∀ (k : Nat) (s : ByteArray), (spl c (bl s)).length ≤ k + 1 → (Lib.splitB ⟨#[c]⟩ 0 k s).map bl = spl c (bl s)
  | 0, s, h => by
    rw [Lib.splitB_zero]
    rw [spl_length] at h
    have h0 : c ∉ bl s := by rw [← List.count_eq_zero]; omega
    rw [spl_whole c _ h0]; rfl
  | k + 1, s, h => by
    have hidx : Lib.indexB s ⟨#[c]⟩ = Lib.indexByte (bl s) c := Lib.index_one (bl s) c
    rcases Lib.indexB_cases s ⟨#[c]⟩ with hm | ⟨o, ho, _⟩
    · rw [Lib.splitB_miss _ _ _ _ hm]
      rw [hidx] at hm
      have h0 : c ∉ bl s := by
        intro hx
        obtain ⟨j, hj⟩ := List.mem_iff_getElem?.1 hx
        exact Lib.indexByte_none hm j hj
      rw [spl_whole c _ h0]; rfl
    · have ho2 : Lib.indexByte (bl s) c = (o : Int) := hidx.symm.trans ho
      obtain ⟨h1, h2⟩ := Lib.indexByte_some ho2
      have hlt : o < (bl s).length := (List.getElem?_eq_some_iff.1 h1).1
      have hne : (Lib.indexB s ⟨#[c]⟩ == -1) = false := by rw [ho, beq_eq_false_iff_ne]; omega
      have e0 : bl s = (bl s).take o ++ c :: (bl s).drop (o + 1) := by
        have h3 : (bl s).drop o = c :: (bl s).drop (o + 1) := by
          rw [List.drop_eq_getElem_cons hlt]
          congr 1
          rw [List.getElem?_eq_getElem hlt] at h1
          exact Option.some.inj h1
        rw [← h3, List.take_append_drop]
      have hno : c ∉ (bl s).take o := by
        intro hx
        obtain ⟨j, hj⟩ := List.mem_iff_getElem?.1 hx
        have hjo : j < o := by
          have := (List.getElem?_eq_some_iff.1 hj).1
          rw [List.length_take] at this; omega
        rw [List.getElem?_take, if_pos hjo] at hj
        exact h2 j hjo hj
      have e1 : bl (s.extract 0 (o + 0)) = (bl s).take o := by have := piece_bl s 0 o; unfold piece at this; rw [Nat.add_zero, this]; simp
      have e2 : bl (s.extract (o + 1) s.size) = (bl s).drop (o + 1) := by
        have := piece_bl s (o + 1) s.size
        unfold piece at this
        rw [this, List.take_of_length_le (by rw [List.length_drop, bl_length]; exact Nat.le_refl _)]
      have e3 : spl c (bl s) = (bl s).take o :: spl c ((bl s).drop (o + 1)) := by
        have := spl_cut c _ ((bl s).drop (o + 1)) hno
        rwa [← e0] at this
      have ih := splitC_words c k (s.extract (o + 1) s.size) (by rw [e2]; rw [e3] at h; simp at h; omega)
      have hunf : Lib.splitB ⟨#[c]⟩ 0 (k + 1) s = s.extract 0 (o + 0) :: Lib.splitB ⟨#[c]⟩ 0 k (s.extract (o + 1) s.size) := by
        rw [Lib.splitB, hne, ho]
        rfl
      rw [hunf, List.map_cons, ih, e1, e2, e3]
theorem splitB_words (k : Nat) (s : ByteArray) (h : (spl 32 (bl s)).length ≤ k + 1) : (Lib.splitB ⟨#[32]⟩ 0 k s).map bl = spl 32 (bl s) := splitC_words 32 k s h

/-- What the walk takes of the library's variables, now and as long as nothing that lies now turns. -/
def LaidAll (w : World) : Prop := ∀ w', Below w.heap.size w w' → (∃ m, w'.cell? ⟨1, 0, none⟩ = some (.int .i64 m)) ∧ Lib.TabIs Tryz.prog w' "internal/strconv.uint64pow10" .u64 Lib.pow10Tab ∧
  (∃ tp p, w'.var? Tryz.prog "strconv.ErrSyntax" = some #[.iface tp p]) ∧ (∃ tp p, w'.var? Tryz.prog "strconv.ErrRange" = some #[.iface tp p])
theorem LaidAll.on {w w1 : World} (h : LaidAll w) (hb : Below w.heap.size w w1) : LaidAll w1 := fun w' h' => h w' (hb.trans (h'.mono hb.size))
theorem LaidAll.tab {w : World} (h : LaidAll w) : Lib.TabBelow Tryz.prog w.heap.size w "internal/strconv.uint64pow10" .u64 Lib.pow10Tab := fun w' h' => (h w' h').2.1

theorem parse_ok (s : ByteArray) (n : Int) (w : World) (hs : s.size ≤ 1099511627776) (h : parseI (bl s) = some n) :
    Calls Tryz.prog 61 #[.string s, .int .i64 10, .int .i64 64] w fun e w' => e = .returned (.tuple #[.int .i64 n, .nilIface]) ∧ Below w.heap.size w w' := by
  have h' : Lib.parseIntB 64 s.data.toList = .ok n := by
    unfold parseI at h
    cases hx : Lib.parseIntB 64 (bl s) with
    | ok v => rw [hx] at h; simp only at h; injection h with h; rw [h] at hx; exact hx
    | range => rw [hx] at h; cases h
    | _ => rw [hx] at h; cases h
  refine (Tryz.strconv_ParseInt_10_at64_ok s (by omega) n h' w).mono ?_
  rintro e w' ⟨rfl, rfl | ⟨t, rfl⟩⟩
  · exact ⟨rfl, Below.refl _ _⟩
  · exact ⟨rfl, Lib.bytesWorld_below _ _ _⟩
theorem parse_err (s : ByteArray) (w : World) (hs : s.size ≤ 1099511627776) (h : parseI (bl s) = none) (hL : LaidAll w) :
    Calls Tryz.prog 61 #[.string s, .int .i64 10, .int .i64 64] w fun e w' => ∃ n N, e = .returned (.tuple #[.int .i64 n, .iface 126 (.pointer (some ⟨N, 0, none⟩))]) ∧ Below w.heap.size w w' := by
  obtain ⟨_, _, ⟨tp, p, hS⟩, ⟨tp', p', hR⟩⟩ := hL w (Below.refl _ _)
  cases hx : Lib.parseIntB 64 (bl s) with
  | ok v => unfold parseI at h; rw [hx] at h; cases h
  | range =>
    refine (Tryz.strconv_ParseInt_10_at64_range_var s (by omega) hx tp' p' w hR).mono ?_
    rintro e w' ⟨N, rfl, _, _, hb⟩
    exact ⟨_, N, rfl, hb⟩
  | _ =>
    refine (Any.strconv_ParseInt_10_at64_syntax_var Tryz.laysC174 s (by omega) hx tp p w hS).mono ?_
    rintro e w' ⟨N, rfl, _, _, hb⟩
    exact ⟨_, N, rfl, hb⟩

theorem implRead_none {s : List UInt8} {ws : List (List UInt8)} (h : s ≠ [45]) (h2 : ws.mapM parseI = none) : implRead s ws = ([], false) := by unfold implRead; rw [if_neg h, h2]
theorem implRead_yes {s : List UInt8} {ws : List (List UInt8)} {r : List Int} (h : s ≠ [45]) (h2 : ws.mapM parseI = some r) (h3 : showL r = s) : implRead s ws = (r, true) := by unfold implRead; rw [if_neg h, h2]; simp only; rw [if_pos h3]
theorem implRead_no {s : List UInt8} {ws : List (List UInt8)} {r : List Int} (h : s ≠ [45]) (h2 : ws.mapM parseI = some r) (h3 : ¬ showL r = s) : implRead s ws = ([], false) := by unfold implRead; rw [if_neg h, h2]; simp only; rw [if_neg h3]

theorem splitC_le (c : UInt8) : ∀ (k : Nat) (s : ByteArray), (Lib.splitB ⟨#[c]⟩ 0 k s).length ≤ k + 1 ∧ ∀ t ∈ Lib.splitB ⟨#[c]⟩ 0 k s, t.size ≤ s.size
  | 0, s => by rw [Lib.splitB_zero]; simp
  | k + 1, s => by
    rcases Lib.indexB_cases s ⟨#[c]⟩ with hm | ⟨o, ho, _⟩
    · rw [Lib.splitB_miss _ _ _ _ hm]; simp
    · have hne : (Lib.indexB s ⟨#[c]⟩ == -1) = false := by rw [ho, beq_eq_false_iff_ne]; omega
      have hunf : Lib.splitB ⟨#[c]⟩ 0 (k + 1) s = s.extract 0 (o + 0) :: Lib.splitB ⟨#[c]⟩ 0 k (s.extract (o + 1) s.size) := by
        rw [Lib.splitB, hne, ho]
        rfl
      obtain ⟨h1, h2⟩ := splitC_le c k (s.extract (o + 1) s.size)
      rw [hunf]
      refine ⟨by simp; omega, fun t ht => ?_⟩
      have hsub (a b : Nat) : (s.extract a b).size ≤ s.size := by
        have := piece_bl s a b
        unfold piece at this
        rw [← bl_length, this, ← bl_length s]
        rw [List.length_take, List.length_drop]; omega
      rcases List.mem_cons.1 ht with rfl | ht
      · exact hsub _ _
      · exact Nat.le_trans (h2 t ht) (hsub _ _)
theorem splitB_le (k : Nat) (s : ByteArray) : (Lib.splitB ⟨#[32]⟩ 0 k s).length ≤ k + 1 ∧ ∀ t ∈ Lib.splitB ⟨#[32]⟩ 0 k s, t.size ≤ s.size := splitC_le 32 k s
theorem strs_cells {w : World} {ws : List ByteArray} {N : Nat} : Strs (w.alloc (.cells (Lib.cellsOf ws N) 9)) (w.heap.size + 1) (some ⟨w.heap.size, 0, none⟩) ws := fun _ =>
  ⟨w.heap.size, 0, rfl, by omega, fun j hj => by
    rw [Nat.zero_add, Blk.cell (Blk.new w 9 (Lib.cellsOf ws N)) j]
    unfold Lib.cellsOf
    rw [List.getElem?_toArray, List.getElem?_append_left (by simpa using hj)]
    simp [sx, hj]⟩

end Go.Proofs.YtpadhcoboapodaaGreatDoor

/- What the rows' condition on the library's variables gives the walks; the builder of a row that lists variables and keeps the world's shape. No condition of its own. -/
namespace Go.Proofs.YtpadhcoboapodaaGreatDoor
open Go.RowKit

theorem and_shaped {H : Type} {enc : TypeId × Value → H} {a : Assume} {C : Checked} {os : Os} {f : FuncId} {fn : Func} {s : ChangeSpec} {conds : List PathCond} {apart fresh handsOn again : Bool} {X : World → Array Value → Prop}
    (hX : ∀ (w w' : World) (args : Array Value), w.heap = w'.heap → X w args → X w' args)
    (own : ownKnob C.prog.godebug = none) (started : os.Started) (noInit : C.prog.inits.idxOf? f = none) (hfn : C.prog.funcs[f]? = some fn)
    (witness : ∃ (w : World) (tape : Tape) (i : Input), w.os = os ∧ (w.forCall tape i).Shaped C.prog ∧ i.vars = [] ∧ Input.okWide C.prog (w.forCall tape i) .any w.heap.size f i ∧
      ((s.pre enc C.prog fn conds apart (w.forCall tape i).memory i.args ∧ X (w.forCall tape i).memory i.args) ∧ sizedMet enc C.prog fn (OpenSpec.ofChange s) apart (w.forCall tape i).memory i.args) ∧ a.holds C.prog (lone (Frame.enter C.prog f i.args .normal) [] (w.forCall tape i)))
    (contract : ∀ (W : World) (base : Nat) (args : Array Value) (ds gs : List (DataW H)) (before : List MemPlace),
      (∀ (j : Nat) t v, fn.params[j]? = some t → args[j]? = some v → Value.okWide C.prog W .any base t v) →
      DataW.Whole enc C.prog fn.params.toList s.vars apart W args.toList ds gs before →
      conds.all (PathCond.test C.prog ⟨fn.params.toList, ds, s.plain.varTypes C.prog, gs⟩) = true →
      (DataW.weightsEach C.prog (fn.params.toList ++ s.plain.varTypes C.prog) (ds ++ gs)).all (· ≤ reachBytes) = true → X W args → W.ShapedOpen C.prog →
      a.holds C.prog (lone (Frame.enter C.prog f args .normal) [] W) →
      Calls C.prog f args W fun e W' => ∃ v, e = .returned v ∧ s.post enc C.prog fn apart fresh handsOn again W args v W') :
    ReturnsInHanded a C os f .any (fun w args => (s.pre enc C.prog fn conds apart w args ∧ X w args) ∧ sizedMet enc C.prog fn (OpenSpec.ofChange s) apart w args) (s.post enc C.prog fn apart fresh handsOn again) := by
  refine returnsInHanded_of_calls own started noInit witness ?_
  intro w tape i _ hsh _ hok hpre hholds
  obtain ⟨_, _, _, fn', hfn', _, _, _, _, hval⟩ := hok
  have e : fn' = fn := Option.some.inj (hfn'.symm.trans hfn)
  subst e
  obtain ⟨⟨⟨ds, gs, before, hw, hc⟩, hx⟩, hz⟩ := hpre
  have hw' := DataW.Whole.of_heap (w' := w.forCall tape i) (by rfl) hw
  refine (contract (w.forCall tape i) w.heap.size i.args ds gs before hval hw' hc (hz.weights hw) (hX _ _ _ (by rfl) hx) hsh hholds).mono fun e W' ⟨v, he, hp⟩ => ?_
  subst he
  exact ChangeSpec.post_blind hp

theorem tab_of {W : World} {r : List (String × DataW Unit)} (h3 : laidMet Tryz.prog (("internal/strconv.uint64pow10", Rows.laid_internal_strconv_uint64pow10) :: r) W) : Lib.TabIs Tryz.prog W "internal/strconv.uint64pow10" .u64 Lib.pow10Tab :=
  Lib.tabIs_of_head (g := 4) (t := 142) (e := 122) (n := 20) (by kernel_rfl) (by kernel_rfl) Tryz.underlying142 Tryz.underlying122 (by kernel_rfl) (by kernel_rfl) h3
theorem star : ("*" ++ "errors.errorString" : String) = "*errors.errorString" := by decide
theorem errRow (u : TypeId) (h : Tryz.prog.typeName? 3 u = some "*errors.errorString") : u = 153 :=
  typeName_ptr_named (nm := "errors.errorString") (by rw [star]; kernel_rfl) (by kernel_rfl) (by decide) u (by rw [star]; exact h)
theorem errS_of {W : World} {r : List (String × DataW Unit)} (h : laidMet Tryz.prog (("strconv.ErrSyntax", Rows.laid_strconv_ErrSyntax) :: r) W) : ∃ tp p, W.var? Tryz.prog "strconv.ErrSyntax" = some #[.iface tp p] := by
  obtain ⟨a, s, hv, _⟩ := laid_sentinel h (g := 2) (by kernel_rfl) (by kernel_rfl) Tryz.underlying78 errRow Tryz.underlying153 Tryz.underlying155 rfl rfl Tryz.underlying9 (by kernel_rfl) (by kernel_rfl)
  exact ⟨_, _, hv⟩
theorem errR_of {W : World} {r : List (String × DataW Unit)} (h : laidMet Tryz.prog (("strconv.ErrRange", Rows.laid_strconv_ErrRange) :: r) W) : ∃ tp p, W.var? Tryz.prog "strconv.ErrRange" = some #[.iface tp p] := by
  obtain ⟨a, s, hv, _⟩ := laid_sentinel h (g := 3) (by kernel_rfl) (by kernel_rfl) Tryz.underlying78 errRow Tryz.underlying153 Tryz.underlying155 rfl rfl Tryz.underlying9 (by kernel_rfl) (by kernel_rfl)
  exact ⟨_, _, hv⟩
theorem maxLen_of {W : World} (h : W.ShapedOpen Tryz.prog) : ∃ m, W.cell? ⟨1, 0, none⟩ = some (.int .i64 m) :=
  cell_of_shapedOpen_int (t := 3) (zero := #[.int .i64 0]) h (of_decide_eq_true (by kernel_rfl)) (by kernel_rfl) rfl (by kernel_rfl) (by kernel_rfl) Tryz.underlying3

theorem laidAll_of {W : World} (h1 : ∃ m, W.cell? ⟨1, 0, none⟩ = some (.int .i64 m)) (h2 : Lib.TabIs Tryz.prog W "internal/strconv.uint64pow10" .u64 Lib.pow10Tab)
    (h3 : ∃ tp p, W.var? Tryz.prog "strconv.ErrSyntax" = some #[.iface tp p]) (h4 : ∃ tp p, W.var? Tryz.prog "strconv.ErrRange" = some #[.iface tp p]) : LaidAll W := by
  have g2 : Tryz.prog.globalNamed "internal/strconv.uint64pow10" = some 4 := by kernel_rfl
  have g3 : Tryz.prog.globalNamed "strconv.ErrSyntax" = some 2 := by kernel_rfl
  have g4 : Tryz.prog.globalNamed "strconv.ErrRange" = some 3 := by kernel_rfl
  obtain ⟨m, hm⟩ := h1
  obtain ⟨tp, p, hv⟩ := h3
  obtain ⟨tp', p', hv'⟩ := h4
  have l1 : 1 < W.heap.size := cell_lt hm
  have l2 : 4 < W.heap.size := cell_lt (h2.cell g2 0 (by simp [Lib.pow10Tab]))
  have l3 : 2 < W.heap.size := cell_lt (a := ⟨2, 0, none⟩) (v := .iface tp p) (by have h0 := World.var?_cell g3 hv 0; simpa using h0)
  have l4 : 3 < W.heap.size := cell_lt (a := ⟨3, 0, none⟩) (v := .iface tp' p') (by have h0 := World.var?_cell g4 hv' 0; simpa using h0)
  exact fun w' hb => ⟨⟨m, (hb.cell l1).trans hm⟩, var?_below hb g2 l2 h2, ⟨tp, p, var?_below hb g3 l3 hv⟩, ⟨tp', p', var?_below hb g4 l4 hv'⟩⟩
end Go.Proofs.YtpadhcoboapodaaGreatDoor

/- Conds as a list: what lies in memory of them, which are right, which hold for a row. Nothing of the program is named. -/
namespace Go.Proofs.YtpadhcoboapodaaGreatDoor
open Go.RowKit

structure Cnd where
  p : Int
  o : Int
  t : Int
  i : Bool
deriving DecidableEq
def zeroC : Cnd := ⟨0, 0, 0, false⟩
instance : Inhabited Cnd := ⟨zeroC⟩
/-- The cond at place k, and its parts (names of their own, so that the walk does not respell them). -/
def cx (l : List Cnd) (k : Nat) : Cnd := l[k]?.getD zeroC
theorem cx_eq (l : List Cnd) (k : Nat) (h : k < l.length) : cx l k = l[k] := by simp [cx, h]
theorem cx_mem {l : List Cnd} {k : Nat} (h : k < l.length) : cx l k ∈ l := by rw [cx_eq l k h]; exact List.getElem_mem h
theorem cx_drop (l : List Cnd) (k : Nat) (h : k < l.length) : l.drop k = cx l k :: l.drop (k + 1) := by
  rw [cx_eq l k h]; exact List.drop_eq_getElem_cons h
/-- A slice of conds reads as the list: its cells lie in a block below B. -/
def Cnds (w : World) (B : Nat) (A : Option Addr) (l : List Cnd) : Prop :=
  0 < l.length → ∃ b off, A = some ⟨b, off, none⟩ ∧ b < B ∧ ∀ j, j < l.length →
    w.cell? ⟨b, off + j * 4, none⟩ = some (.int .i64 (cx l j).p) ∧ w.cell? ⟨b, off + j * 4 + 1, none⟩ = some (.int .i64 (cx l j).o) ∧ w.cell? ⟨b, off + j * 4 + 2, none⟩ = some (.int .i64 (cx l j).t) ∧ w.cell? ⟨b, off + j * 4 + 3, none⟩ = some (.bool (cx l j).i)
section
variable {w w' : World} {B B' : Nat} {A : Option Addr} {l : List Cnd}
theorem Cnds.keep (h : Cnds w B A l) (hk : ∀ p : Addr, p.block < B → w'.cell? p = w.cell? p) : Cnds w' B A l := fun hn => by
  obtain ⟨b, off, e, hb, hc⟩ := h hn
  refine ⟨b, off, e, hb, fun j hj => ?_⟩
  obtain ⟨h1, h2, h3, h4⟩ := hc j hj
  exact ⟨(hk _ hb).trans h1, (hk _ hb).trans h2, (hk _ hb).trans h3, (hk _ hb).trans h4⟩
theorem Cnds.below (h : Cnds w B A l) (hb : Below B w w') : Cnds w' B A l := h.keep fun _ hp => hb.cell hp
theorem Cnds.more (h : Cnds w B A l) (hB : B ≤ B') : Cnds w B' A l := fun hn => by
  obtain ⟨b, off, e, hb, hc⟩ := h hn
  exact ⟨b, off, e, by omega, hc⟩
theorem Cnds.on (h : Cnds w w.heap.size A l) (hb : Below w.heap.size w w') : Cnds w' w'.heap.size A l := (h.below hb).more hb.size
theorem Cnds.drewN (h : Cnds w B A l) (k : Nat) : Cnds (w.drewN k) B A l := h
theorem Cnds.here (h : Cnds w B A l) {j : Nat} (hj : j < l.length) : ∃ b off, A = some ⟨b, off, none⟩ ∧ b < B ∧
    w.cell? ⟨b, off + j * 4, none⟩ = some (.int .i64 (cx l j).p) ∧ w.cell? ⟨b, off + j * 4 + 1, none⟩ = some (.int .i64 (cx l j).o) ∧ w.cell? ⟨b, off + j * 4 + 2, none⟩ = some (.int .i64 (cx l j).t) ∧ w.cell? ⟨b, off + j * 4 + 3, none⟩ = some (.bool (cx l j).i) := by
  obtain ⟨b, off, e, hb, hc⟩ := h (by omega)
  exact ⟨b, off, e, hb, hc j hj⟩
end

def condB (c : Cnd) : Bool := (inB c.p 0 5 && inB c.o 1 3) && (if c.i = true then inB c.t (-1000) 1000 else inB c.t 0 5)
def rightB (l : List Cnd) : Bool := l.all condB && decide (l.length ≤ 3)
def fitC (wd : Int) (c : Cnd) : Bool := decide (c.p < wd) && (c.i || decide (c.t < wd))
def condsB (l : List Cnd) (wd : Int) : Bool := rightB l && l.all (fitC wd)
def otherC (row : List Int) (c : Cnd) : Int := if c.i = true then c.t else ix row c.t.toNat
def opH (o x y : Int) : Bool := if o = 1 then decide (x < y) else if o = 2 then decide (x = y) else decide (y < x)
def holdC (row : List Int) (c : Cnd) : Bool := opH c.o (ix row c.p.toNat) (otherC row c)
def holdsB (l : List Cnd) (row : List Int) : Bool := condsB l row.length && (rowOkB row && l.all (holdC row))

theorem condB_iff {c : Cnd} : condB c = true ↔ (0 ≤ c.p ∧ c.p ≤ 5) ∧ (1 ≤ c.o ∧ c.o ≤ 3) ∧ ((c.i = true ∧ -1000 ≤ c.t ∧ c.t ≤ 1000) ∨ (c.i = false ∧ 0 ≤ c.t ∧ c.t ≤ 5)) := by
  unfold condB inB
  cases h : c.i <;> simp <;> omega
theorem fitC_iff {wd : Int} {c : Cnd} : fitC wd c = true ↔ c.p < wd ∧ (c.i = true ∨ c.t < wd) := by
  unfold fitC
  simp
theorem rightB_iff {l : List Cnd} : rightB l = true ↔ (∀ c ∈ l, condB c = true) ∧ l.length ≤ 3 := by
  unfold rightB
  simp [List.all_eq_true]
theorem condsB_iff {l : List Cnd} {wd : Int} : condsB l wd = true ↔ ((∀ c ∈ l, condB c = true) ∧ l.length ≤ 3) ∧ ∀ c ∈ l, fitC wd c = true := by
  unfold condsB
  rw [Bool.and_eq_true, rightB_iff, List.all_eq_true]
theorem all_snocC (f : Cnd → Bool) (l : List Cnd) (k : Nat) (h : k < l.length) : (l.take (k + 1)).all f = ((l.take k).all f && f (cx l k)) := by
  rw [List.take_succ_eq_append_getElem h, List.all_append, cx_eq l k h]; simp
theorem all_noC {f : Cnd → Bool} {l : List Cnd} {k : Nat} (h : k < l.length) (hf : f (cx l k) = false) : l.all f = false := by
  rw [List.all_eq_false]
  exact ⟨cx l k, cx_mem h, by rw [hf]; simp⟩
theorem rightB_stop {l : List Cnd} {k : Nat} (h : k < l.length) (hf : condB (cx l k) = false) : rightB l = false := by
  unfold rightB; rw [all_noC h hf, Bool.false_and]
theorem condsB_long {l : List Cnd} {wd : Int} (h : 3 < l.length) : condsB l wd = false := by
  unfold condsB rightB; rw [decide_eq_false (by omega : ¬ l.length ≤ 3)]; simp
theorem condsB_stop1 {l : List Cnd} {wd : Int} {k : Nat} (h : k < l.length) (hf : condB (cx l k) = false) : condsB l wd = false := by
  unfold condsB; rw [rightB_stop h hf, Bool.false_and]
theorem condsB_stop2 {l : List Cnd} {wd : Int} {k : Nat} (h : k < l.length) (hf : fitC wd (cx l k) = false) : condsB l wd = false := by
  unfold condsB; rw [all_noC h hf, Bool.and_false]
theorem fit_big {c : Cnd} (h : condB c = true) : fitC 6 c = true := by
  rw [condB_iff] at h
  rw [fitC_iff]
  rcases h with ⟨h1, h2, h3 | h3⟩
  · exact ⟨by omega, .inl h3.1⟩
  · exact ⟨by omega, .inr (by omega)⟩
theorem right_six (l : List Cnd) : condsB l 6 = rightB l := by
  rw [Bool.eq_iff_iff, condsB_iff, rightB_iff]
  exact ⟨fun h => h.1, fun h => ⟨h, fun c hc => fit_big (h.1 c hc)⟩⟩
end Go.Proofs.YtpadhcoboapodaaGreatDoor

/- A block whose cells are a function of the place. No program is spoken of. -/
namespace Go.Proofs.YtpadhcoboapodaaGreatDoor
open Go.RowKit

/-- A block that reads as a function of the place. -/
def arr (m : Nat) (f : Nat → Value) : Array Value := ((List.range m).map f).toArray
theorem arr_get {m q : Nat} (f : Nat → Value) (h : q < m) : (arr m f)[q]? = some (f q) := by simp [arr, h]
theorem arr_set (m p : Nat) (f : Nat → Value) (v : Value) : (arr m f).setIfInBounds p v = arr m (fun q => if q = p then v else f q) := by
  apply Array.ext_getElem?
  intro q
  unfold arr
  rw [Array.getElem?_setIfInBounds]
  by_cases hq : p = q
  · subst hq
    by_cases hm : p < m
    · simp [hm]
    · simp [hm]
  · have hq' : ¬ q = p := fun e => hq e.symm
    rw [if_neg hq]
    by_cases hm : q < m
    · simp [hm, hq']
    · simp [hm]
theorem arr_congr {m : Nat} {f g : Nat → Value} (h : ∀ q, q < m → f q = g q) : arr m f = arr m g := by
  unfold arr
  congr 1
  exact List.map_congr_left fun q hq => h q (List.mem_range.1 hq)
end Go.Proofs.YtpadhcoboapodaaGreatDoor

/- The laws' words on lists of conds: copies, sizes, comparing, marks; nothing that lay has turned. -/
namespace Go.Proofs.YtpadhcoboapodaaGreatDoor
open Go.RowKit

theorem Blk.c4 {w : World} {G : Nat} {t : TypeId} {a b c d : Value} (h : Blk w G t #[a, b, c, d]) : w.cell? ⟨G, 0, none⟩ = some a ∧ w.cell? ⟨G, 1, none⟩ = some b ∧ w.cell? ⟨G, 2, none⟩ = some c ∧ w.cell? ⟨G, 3, none⟩ = some d := by
  have d0 := h.cell 0
  have d1 := h.cell 1
  have d2 := h.cell 2
  have d3 := h.cell 3
  simp only [List.getElem?_toArray, List.getElem?_cons_zero, List.getElem?_cons_succ] at d0 d1 d2 d3
  exact ⟨d0, d1, d2, d3⟩
/-- The cells of a list of conds. -/
def ccell (l : List Cnd) (q : Nat) : Value := if q % 4 = 0 then .int .i64 (cx l (q / 4)).p else if q % 4 = 1 then .int .i64 (cx l (q / 4)).o else if q % 4 = 2 then .int .i64 (cx l (q / 4)).t else .bool (cx l (q / 4)).i
theorem ccell_0 (l : List Cnd) (j : Nat) : ccell l (j * 4) = .int .i64 (cx l j).p := by unfold ccell; rw [if_pos (by omega), show j * 4 / 4 = j by omega]
theorem ccell_1 (l : List Cnd) (j : Nat) : ccell l (j * 4 + 1) = .int .i64 (cx l j).o := by unfold ccell; rw [if_neg (by omega), if_pos (by omega), show (j * 4 + 1) / 4 = j by omega]
theorem ccell_2 (l : List Cnd) (j : Nat) : ccell l (j * 4 + 2) = .int .i64 (cx l j).t := by unfold ccell; rw [if_neg (by omega), if_neg (by omega), if_pos (by omega), show (j * 4 + 2) / 4 = j by omega]
theorem ccell_3 (l : List Cnd) (j : Nat) : ccell l (j * 4 + 3) = .bool (cx l j).i := by unfold ccell; rw [if_neg (by omega), if_neg (by omega), if_neg (by omega), show (j * 4 + 3) / 4 = j by omega]
/-- Block g is just the list. -/
def CAt (w : World) (g : Nat) (l : List Cnd) : Prop := Blk w g 63 (arr (4 * l.length) (ccell l))
theorem CAt.on {w w' : World} {g : Nat} {l : List Cnd} (h : CAt w g l) (hb : Below w.heap.size w w') : CAt w' g l := Blk.on h hb
theorem CAt.cells {w : World} {g : Nat} {l : List Cnd} (h : CAt w g l) {j : Nat} (hj : j < l.length) : w.cell? ⟨g, j * 4, none⟩ = some (.int .i64 (cx l j).p) ∧ w.cell? ⟨g, j * 4 + 1, none⟩ = some (.int .i64 (cx l j).o) ∧ w.cell? ⟨g, j * 4 + 2, none⟩ = some (.int .i64 (cx l j).t) ∧ w.cell? ⟨g, j * 4 + 3, none⟩ = some (.bool (cx l j).i) := by
  refine ⟨?_, ?_, ?_, ?_⟩
  · rw [h.cell (j * 4), arr_get _ (by omega), ccell_0]
  · rw [h.cell (j * 4 + 1), arr_get _ (by omega), ccell_1]
  · rw [h.cell (j * 4 + 2), arr_get _ (by omega), ccell_2]
  · rw [h.cell (j * 4 + 3), arr_get _ (by omega), ccell_3]
theorem CAt.cnds {w : World} {g : Nat} {l : List Cnd} (h : CAt w g l) : Cnds w w.heap.size (some ⟨g, 0, none⟩) l := fun _ =>
  ⟨g, 0, rfl, Blk.lt h, fun j hj => by rw [Nat.zero_add]; exact h.cells hj⟩
theorem cx_set (l : List Cnd) (k j : Nat) (c : Cnd) (h : k < l.length) : cx (l.set k c) j = if j = k then c else cx l j := by
  unfold cx
  rw [List.getElem?_set]
  by_cases e : k = j
  · subst e; rw [if_pos rfl, if_pos h, if_pos rfl]; rfl
  · rw [if_neg e, if_neg (fun e' => e e'.symm)]
theorem ccell_set (l : List Cnd) {k : Nat} (hk : k < l.length) (c : Cnd) (q : Nat) : ccell (l.set k c) q = if q = k * 4 + 3 then Value.bool c.i else if q = k * 4 + 2 then .int .i64 c.t else if q = k * 4 + 1 then .int .i64 c.o else if q = k * 4 then .int .i64 c.p else ccell l q := by
  simp only [ccell]
  rw [cx_set l k (q / 4) c hk]
  by_cases e : q / 4 = k
  · subst e
    rw [if_pos rfl]
    have h4 : q % 4 = 0 ∨ q % 4 = 1 ∨ q % 4 = 2 ∨ q % 4 = 3 := by omega
    rcases h4 with h4 | h4 | h4 | h4
    · rw [if_neg (c := q = q / 4 * 4 + 3) (by omega), if_neg (c := q = q / 4 * 4 + 2) (by omega), if_neg (c := q = q / 4 * 4 + 1) (by omega), if_pos (c := q = q / 4 * 4) (by omega), if_pos h4]
    · rw [if_neg (c := q = q / 4 * 4 + 3) (by omega), if_neg (c := q = q / 4 * 4 + 2) (by omega), if_pos (c := q = q / 4 * 4 + 1) (by omega), if_neg (c := q % 4 = 0) (by omega), if_pos h4]
    · rw [if_neg (c := q = q / 4 * 4 + 3) (by omega), if_pos (c := q = q / 4 * 4 + 2) (by omega), if_neg (c := q % 4 = 0) (by omega), if_neg (c := q % 4 = 1) (by omega), if_pos h4]
    · rw [if_pos (c := q = q / 4 * 4 + 3) (by omega), if_neg (c := q % 4 = 0) (by omega), if_neg (c := q % 4 = 1) (by omega), if_neg (c := q % 4 = 2) (by omega)]
  · rw [if_neg e, if_neg (c := q = k * 4 + 3) (by omega), if_neg (c := q = k * 4 + 2) (by omega), if_neg (c := q = k * 4 + 1) (by omega), if_neg (c := q = k * 4) (by omega)]
theorem CAt.set_ {w : World} {g : Nat} {l : List Cnd} (h : CAt w g l) {k : Nat} (hk : k < l.length) (c : Cnd) :
    CAt ((((w.setCell ⟨g, k * 4, none⟩ (.int .i64 c.p)).setCell ⟨g, k * 4 + 1, none⟩ (.int .i64 c.o)).setCell ⟨g, k * 4 + 2, none⟩ (.int .i64 c.t)).setCell ⟨g, k * 4 + 3, none⟩ (.bool c.i)) g (l.set k c) := by
  have B := (((Blk.set_ h (k * 4) (.int .i64 c.p)).set_ (k * 4 + 1) (.int .i64 c.o)).set_ (k * 4 + 2) (.int .i64 c.t)).set_ (k * 4 + 3) (.bool c.i)
  rw [arr_set, arr_set, arr_set, arr_set] at B
  unfold CAt
  rw [List.length_set, ← arr_congr (f := fun q => if q = k * 4 + 3 then Value.bool c.i else if q = k * 4 + 2 then .int .i64 c.t else if q = k * 4 + 1 then .int .i64 c.o else if q = k * 4 then .int .i64 c.p else ccell l q) (fun q _ => (ccell_set l hk c q).symm)]
  exact B
theorem bel_set4 {w w1 : World} {G : Nat} (h : Below w.heap.size w w1) (hG : w.heap.size ≤ G) (i j k m : Nat) (a b c d : Value) : Below w.heap.size w ((((w1.setCell ⟨G, i, none⟩ a).setCell ⟨G, j, none⟩ b).setCell ⟨G, k, none⟩ c).setCell ⟨G, m, none⟩ d) :=
  (((h.setCell (p := ⟨G, i, none⟩) hG _).setCell (p := ⟨G, j, none⟩) hG _).setCell (p := ⟨G, k, none⟩) hG _).setCell (p := ⟨G, m, none⟩) hG _
theorem grown_set4 (w : World) (g i j k m : Nat) (a b c d : Value) : w.grownBy ((((w.setCell ⟨g, i, none⟩ a).setCell ⟨g, j, none⟩ b).setCell ⟨g, k, none⟩ c).setCell ⟨g, m, none⟩ d) (some g) :=
  grown_trans (grown_trans (grown_trans (grown_setCell w g i a) (grown_setCell _ g j b)) (grown_setCell _ g k c)) (grown_setCell _ g m d)

theorem info_cond : (Tryz.prog.info? 63).map (fun i => (i.zero, i.size, i.bytes)) = some (some (.agg #[.int .i64 0, .int .i64 0, .int .i64 0, .bool false]), 4, 32) := by kernel_rfl
theorem make_cond (n : Nat) (hn : n ≤ 1099511627776) (w : World) : (Instr.makeSlice 30 (.int .i64 (n : Int)) (.int .i64 (n : Int))).run Tryz.prog w = .ok (.slice (some ⟨w.heap.size, 0, none⟩) n n) (w.alloc (.cells (madeCells #[.int .i64 0, .int .i64 0, .int .i64 0, .bool false] (n * 4)) 63)) := by
  obtain ⟨i, hi, hz, hs, hby⟩ := info_parts info_cond
  have := run_make (P := Tryz.prog) w 30 63 i (.agg #[.int .i64 0, .int .i64 0, .int .i64 0, .bool false]) Tryz.underlying30 hi hz .i64 .i64 (n : Int) (n : Int) (by omega) (by omega) (by rw [hby]; omega) (by omega)
  rw [hs] at this
  simpa [Value.cells] using this
theorem made_conds (n : Nat) : madeCells #[.int .i64 0, .int .i64 0, .int .i64 0, .bool false] (n * 4) = arr (4 * n) (ccell (List.replicate n zeroC)) := by
  apply Array.ext_getElem?
  intro q
  have hz : ∀ j, cx (List.replicate n zeroC) j = zeroC := fun j => by
    unfold cx
    rw [List.getElem?_replicate]
    split <;> rfl
  by_cases hq : q < 4 * n
  · have hq' : q < n * 4 := by omega
    rw [arr_get _ hq]
    unfold ccell
    rw [hz]
    have h : q % 4 = 0 ∨ q % 4 = 1 ∨ q % 4 = 2 ∨ q % 4 = 3 := by omega
    rcases h with h | h | h | h
    · simp [madeCells, hq', h, zeroC]
    · simp [madeCells, hq', h, zeroC]
    · simp [madeCells, hq', h, zeroC]
    · simp [madeCells, hq', h, zeroC]
  · rw [Array.getElem?_eq_none (by rw [size_madeCells]; omega), Array.getElem?_eq_none (by simp [arr]; omega)]
/-- Copied so far: the first k, then noughts. -/
def cpy (l : List Cnd) (k : Nat) : List Cnd := l.take k ++ List.replicate (l.length - k) zeroC
theorem cpy_length (l : List Cnd) {k : Nat} (h : k ≤ l.length) : (cpy l k).length = l.length := by simp [cpy]; omega
theorem cpy_zero (l : List Cnd) : cpy l 0 = List.replicate l.length zeroC := by simp [cpy]
theorem cpy_all (l : List Cnd) : cpy l l.length = l := by simp [cpy]
theorem cpy_step (l : List Cnd) {k : Nat} (h : k < l.length) : (cpy l k).set k (cx l k) = cpy l (k + 1) := by
  apply List.ext_getElem?
  intro j
  rw [List.getElem?_set, cpy_length l (by omega)]
  unfold cpy
  by_cases e : k = j
  · subst e
    rw [if_pos rfl, if_pos h, List.getElem?_append_left (by simp; omega), List.getElem?_take, if_pos (by omega), cx_eq l k h, List.getElem?_eq_getElem h]
  · rw [if_neg e]
    by_cases hj : j < k
    · rw [List.getElem?_append_left (by simp; omega), List.getElem?_append_left (by simp; omega), List.getElem?_take, List.getElem?_take, if_pos hj, if_pos (by omega)]
    · rw [List.getElem?_append_right (by simp; omega), List.getElem?_append_right (by simp; omega), List.getElem?_replicate, List.getElem?_replicate]
      simp only [List.length_take]
      congr 1
      rw [Nat.min_eq_left (by omega), Nat.min_eq_left (by omega)]
      exact propext ⟨fun h => by omega, fun h => by omega⟩

theorem cnd_ext {a b : Cnd} : a = b ↔ a.p = b.p ∧ a.o = b.o ∧ a.t = b.t ∧ a.i = b.i := by
  cases a; cases b; simp
set_option maxHeartbeats 2000000 in
theorem eqCond_any (p o t p' o' t' : Int) (i i' : Bool) (w : World) :
    Calls Tryz.prog 51 #[.agg #[.int .i64 p, .int .i64 o, .int .i64 t, .bool i], .agg #[.int .i64 p', .int .i64 o', .int .i64 t', .bool i']] w fun e w' => e = .returned (.bool (decide ((⟨p, o, t, i⟩ : Cnd) = ⟨p', o', t', i'⟩))) ∧ Below w.heap.size w w' := by
  obtain ⟨R, hR⟩ : ∃ R, decide ((⟨p, o, t, i⟩ : Cnd) = ⟨p', o', t', i'⟩) = R := ⟨_, rfl⟩
  have HQ := Lib.hid hR
  rw [hR]
  clear hR
  have hb2 := bel_two (w := w) (.cells #[.int .i64 p, .int .i64 o, .int .i64 t, .bool i] 63) (.cells #[.int .i64 p', .int .i64 o', .int .i64 t', .bool i'] 63)
  by_cases h1 : p = p'
  · have b1 : (p != p') = false := by simp [h1]
    by_cases h2 : o = o'
    · have b2 : (o != o') = false := by simp [h2]
      by_cases h3 : t = t'
      · have b3 : (t != t') = false := by simp [h3]
        have HD := Lib.hid (show R = decide (i = i') from by rw [← HQ.out, h1, h2, h3]; simp)
        clear h1 h2 h3
        cases i <;> cases i'
        all_goals
          go_enter Tryz.func51, Tryz.ntmps51
          go_wp2
          go_ret
          exact ⟨ret_bool (by rw [HD.out]; rfl), hb2⟩
      · have b3 : (t != t') = true := by simp [h3]
        have HD := Lib.hid (show R = false from by rw [← HQ.out]; exact decide_eq_false (fun e => h3 (cnd_ext.1 e).2.2.1))
        clear h1 h2 h3
        go_enter Tryz.func51, Tryz.ntmps51
        go_wp2
        go_ret
        exact ⟨ret_bool HD.out.symm, hb2⟩
    · have b2 : (o != o') = true := by simp [h2]
      have HD := Lib.hid (show R = false from by rw [← HQ.out]; exact decide_eq_false (fun e => h2 (cnd_ext.1 e).2.1))
      clear h1 h2
      go_enter Tryz.func51, Tryz.ntmps51
      go_wp2
      go_ret
      exact ⟨ret_bool HD.out.symm, hb2⟩
  · have b1 : (p != p') = true := by simp [h1]
    have HD := Lib.hid (show R = false from by rw [← HQ.out]; exact decide_eq_false (fun e => h1 (cnd_ext.1 e).1))
    clear h1
    go_enter Tryz.func51, Tryz.ntmps51
    go_wp2
    go_ret
    exact ⟨ret_bool HD.out.symm, hb2⟩
theorem cnd_eta (c : Cnd) : (⟨c.p, c.o, c.t, c.i⟩ : Cnd) = c := rfl
theorem cx_take_ext {l1 l2 : List Cnd} {k : Nat} (h : k < l1.length) (h' : k < l2.length) (ht : l1.take k = l2.take k) (e : cx l1 k = cx l2 k) : l1.take (k + 1) = l2.take (k + 1) := by
  rw [List.take_succ_eq_append_getElem h, List.take_succ_eq_append_getElem h', ht, ← cx_eq l1 k h, ← cx_eq l2 k h', e]

set_option maxRecDepth 100000 in
set_option maxHeartbeats 2000000 in
theorem eqCondS_any (A A' : Option Addr) (c c' : Nat) (l1 l2 : List Cnd) (w : World) (hB : Cnds w w.heap.size A l1) (hB' : Cnds w w.heap.size A' l2) (hl : l1.length ≤ 1099511627776) (hl' : l2.length ≤ 1099511627776) :
    Calls Tryz.prog 33 #[.slice A l1.length c, .slice A' l2.length c'] w fun e w' => e = .returned (.bool (decide (l1 = l2))) ∧ Below w.heap.size w w' := by
  by_cases hne : l1.length = l2.length
  · have hb : ((l1.length : Int) != (l2.length : Int)) = false := by simp [hne]
    have HN := Lib.hid hne
    clear hne
    go_enter Tryz.func33, Tryz.ntmps33
    go_wp2
    go_loopw [5] (fun i wr => ∃ k : Nat, k ≤ l1.length ∧ i = .int .i64 k ∧ l1.take k = l2.take k ∧ Below w.heap.size w wr) (fun i _ => l1.length - (intOf i).toNat)
    case atStart => exact ⟨0, Nat.zero_le _, rfl, by simp, Below.refl _ _⟩
    case round =>
      obtain ⟨k, hk, rfl, ht, hW⟩ := hrel
      have hBr := hB.on hW
      have hBr' := hB'.on hW
      have HT := Lib.hid ht
      clear hB hB' ht hb
      by_cases hlt : k < l1.length
      · have hlt' : k < l2.length := by have := HN.out; omega
        obtain ⟨b, off, rfl, _, h1, h2, h3, h4⟩ := hBr.here hlt
        obtain ⟨b', off', rfl, _, h1', h2', h3', h4'⟩ := hBr'.here hlt'
        go_wp2_with fail
        go_still_tail 8, (by kernel_rfl)
        change wpList _ _ _ _ _ wr.drew
        have hW2 : Below w.heap.size w wr.drew := bel_drewN hW 1
        clear h1 h2 h1' h2' h3 h3' h4 h4' hW hBr hBr'
        generalize wr.drew = wd at *
        go_wp2_with fail
        refine (eqCond_any (cx l1 k).p (cx l1 k).o (cx l1 k).t (cx l2 k).p (cx l2 k).o (cx l2 k).t (cx l1 k).i (cx l2 k).i wd).mono ?_
        rintro e w1 ⟨rfl, hb1⟩
        rw [cnd_eta, cnd_eta]
        have hW3 : Below w.heap.size w w1 := hW2.trans (hb1.mono hW2.size)
        by_cases he : cx l1 k = cx l2 k
        · rw [decide_eq_true he]
          have HE := Lib.hid he
          clear he
          go_wp2
          go_roundw
          case rel => exact ⟨k + 1, by omega, by go_num, cx_take_ext hlt hlt' HT.out HE.out, hW3⟩
          case measure => simp [intOf]; omega
        · rw [decide_eq_false he]
          have HE := Lib.hid he
          clear he
          go_wp2
          go_ret
          exact ⟨ret_bool (by rw [decide_eq_false]; intro h; subst h; exact HE.out rfl), hW3⟩
      · have hd : decide (k < l1.length) = false := by simpa using hlt
        go_wp2
        go_ret
        refine ⟨ret_bool ?_, hW⟩
        have h1 := HT.out
        rw [List.take_of_length_le (by omega), List.take_of_length_le (by have := HN.out; omega)] at h1
        rw [decide_eq_true h1]
  · have hb : ((l1.length : Int) != (l2.length : Int)) = true := by simp; omega
    have HN := Lib.hid hne
    clear hne
    go_enter Tryz.func33, Tryz.ntmps33
    go_wp2
    go_ret
    exact ⟨ret_bool (by rw [decide_eq_false]; intro h; subst h; exact HN.out rfl), Below.refl _ _⟩

/-- The slice at A of the list begins block g, none of whose cells is frozen. -/
def CRow (w : World) (A : Option Addr) (g : Nat) (l : List Cnd) : Prop :=
  0 < l.length → A = some ⟨g, 0, none⟩ ∧ ∃ cur : Array Value, Blk w g 63 cur ∧ ∀ q, q < 4 * l.length → cur[q]? = some (ccell l q)
theorem CAt.row {w : World} {g : Nat} {l : List Cnd} (h : CAt w g l) : CRow w (some ⟨g, 0, none⟩) g l := fun _ => ⟨rfl, _, h, fun _ hq => arr_get _ hq⟩
theorem CRow.on {w w' : World} {A : Option Addr} {g : Nat} {l : List Cnd} (h : CRow w A g l) (hb : Below w.heap.size w w') : CRow w' A g l := fun hn => by
  obtain ⟨hA, cur, hB, hc⟩ := h hn
  exact ⟨hA, cur, hB.on hb, hc⟩
theorem CRow.lt {w : World} {A : Option Addr} {g : Nat} {l : List Cnd} (h : CRow w A g l) (hn : 0 < l.length) : g < w.heap.size := by
  obtain ⟨_, cur, hB, _⟩ := h hn
  exact hB.lt
theorem CRow.kept {w w' : World} {A : Option Addr} {g : Nat} {l : List Cnd} {row : Option Nat} (h : CRow w A g l) (hg : w.grownBy w' row) (hne : 0 < l.length → some g ≠ row) : CRow w' A g l := fun hn => by
  obtain ⟨hA, cur, hB, hc⟩ := h hn
  exact ⟨hA, cur, hB.grown hg (hne hn), hc⟩
theorem CRow.cells {w : World} {A : Option Addr} {g : Nat} {l : List Cnd} (h : CRow w A g l) {j : Nat} (hj : j < l.length) : w.cell? ⟨g, j * 4, none⟩ = some (.int .i64 (cx l j).p) ∧ w.cell? ⟨g, j * 4 + 1, none⟩ = some (.int .i64 (cx l j).o) ∧ w.cell? ⟨g, j * 4 + 2, none⟩ = some (.int .i64 (cx l j).t) ∧ w.cell? ⟨g, j * 4 + 3, none⟩ = some (.bool (cx l j).i) := by
  obtain ⟨_, cur, hB, hc⟩ := h (by omega)
  refine ⟨?_, ?_, ?_, ?_⟩
  · rw [hB.cell (j * 4), hc _ (by omega), ccell_0]
  · rw [hB.cell (j * 4 + 1), hc _ (by omega), ccell_1]
  · rw [hB.cell (j * 4 + 2), hc _ (by omega), ccell_2]
  · rw [hB.cell (j * 4 + 3), hc _ (by omega), ccell_3]
theorem CRow.frozen {w : World} {A : Option Addr} {g : Nat} {l : List Cnd} (h : CRow w A g l) (hn : 0 < l.length) (i : Nat) : w.frozen? ⟨g, i, none⟩ = false := by
  obtain ⟨_, cur, hB, _⟩ := h hn
  exact hB.frozen i
theorem CRow.cnds {w : World} {A : Option Addr} {g : Nat} {l : List Cnd} (h : CRow w A g l) : Cnds w w.heap.size A l := fun hn => by
  refine ⟨g, 0, (h hn).1, h.lt hn, fun j hj => ?_⟩
  rw [Nat.zero_add]
  exact h.cells hj
theorem CRow.set_ {w : World} {A : Option Addr} {g : Nat} {l : List Cnd} (h : CRow w A g l) {k : Nat} (hk : k < l.length) (c : Cnd) :
    CRow ((((w.setCell ⟨g, k * 4, none⟩ (.int .i64 c.p)).setCell ⟨g, k * 4 + 1, none⟩ (.int .i64 c.o)).setCell ⟨g, k * 4 + 2, none⟩ (.int .i64 c.t)).setCell ⟨g, k * 4 + 3, none⟩ (.bool c.i)) A g (l.set k c) := fun hn => by
  obtain ⟨hA, cur, hB, hc⟩ := h (by omega)
  refine ⟨hA, _, (((hB.set_ (k * 4) (.int .i64 c.p)).set_ (k * 4 + 1) (.int .i64 c.o)).set_ (k * 4 + 2) (.int .i64 c.t)).set_ (k * 4 + 3) (.bool c.i), fun q hq => ?_⟩
  rw [List.length_set] at hq
  have hcq := hc q hq
  have hs : q < cur.size := (Array.getElem?_eq_some_iff.1 hcq).1
  rw [ccell_set l hk, Array.getElem?_setIfInBounds, Array.getElem?_setIfInBounds, Array.getElem?_setIfInBounds, Array.getElem?_setIfInBounds]
  by_cases e3 : q = k * 4 + 3
  · rw [if_pos e3.symm, if_pos e3, if_pos (by simp; omega)]
  rw [if_neg (fun e => e3 e.symm), if_neg e3]
  by_cases e2 : q = k * 4 + 2
  · rw [if_pos e2.symm, if_pos e2, if_pos (by simp; omega)]
  rw [if_neg (fun e => e2 e.symm), if_neg e2]
  by_cases e1 : q = k * 4 + 1
  · rw [if_pos e1.symm, if_pos e1, if_pos (by simp; omega)]
  rw [if_neg (fun e => e1 e.symm), if_neg e1]
  by_cases e0 : q = k * 4
  · rw [if_pos e0.symm, if_pos e0, if_pos (by omega)]
  rw [if_neg (fun e => e0 e.symm), if_neg e0, hcq]

/-- The marks of a cond, and of a list. -/
def mkC (a : Int) : Cnd := ⟨a, a + 1, a + 1 + 1, (a + 1 + 1 + 1) % 3 == 0⟩
def mks (m n : Nat) : List Cnd := (List.range n).map fun (j : Nat) => mkC ((m + 4 * j : Nat) : Int)
theorem mks_length (m n : Nat) : (mks m n).length = n := by simp [mks]
theorem mks_at {m n j : Nat} (h : j < n) : cx (mks m n) j = mkC ((m + 4 * j : Nat) : Int) := by simp [cx, mks, h]
def mking (l : List Cnd) (m j : Nat) : List Cnd := mks m j ++ l.drop j
theorem mking_zero (l : List Cnd) (m : Nat) : mking l m 0 = l := by simp [mking, mks]
theorem mking_all (l : List Cnd) (m : Nat) : mking l m l.length = mks m l.length := by simp [mking]
theorem mking_length (l : List Cnd) (m : Nat) {j : Nat} (h : j ≤ l.length) : (mking l m j).length = l.length := by simp [mking, mks_length]; omega
theorem mking_step (l : List Cnd) (m : Nat) {j : Nat} (h : j < l.length) : (mking l m j).set j (mkC ((m + 4 * j : Nat) : Int)) = mking l m (j + 1) := by
  apply List.ext_getElem?
  intro i
  rw [List.getElem?_set, mking_length l m (by omega)]
  unfold mking
  by_cases e : j = i
  · subst e
    rw [if_pos rfl, if_pos h, List.getElem?_append_left (by rw [mks_length]; omega)]
    simp [mks]
  · rw [if_neg e]
    by_cases hi : i < j
    · rw [List.getElem?_append_left (by rw [mks_length]; omega), List.getElem?_append_left (by rw [mks_length]; omega)]
      simp [mks, hi, show i < j + 1 by omega]
    · rw [List.getElem?_append_right (by rw [mks_length]; omega), List.getElem?_append_right (by rw [mks_length]; omega), mks_length, mks_length, List.getElem?_drop, List.getElem?_drop]
      congr 1; omega
end Go.Proofs.YtpadhcoboapodaaGreatDoor

/- A slice of conds that came in reads as a list. -/
namespace Go.Proofs.YtpadhcoboapodaaGreatDoor
open Go.ChangeShapes Go.WideShapes Go.ChangeAt Go.RowKit Go.Deep

theorem addC_plain (b off k : Nat) : Addr.add ⟨b, off, none⟩ k = ⟨b, off + k, none⟩ := by unfold Addr.add; split <;> simp_all
theorem addC_add (a : Addr) (i j : Nat) : (a.add i).add j = a.add (i + j) := by
  unfold Addr.add
  by_cases hi : i = 0
  · by_cases hj : j = 0
    · simp [hi, hj]
    · simp [hi, hj]
  · by_cases hj : j = 0
    · simp [hi, hj]
    · simp [hi, hj]; omega
theorem open_slice4 {H : Type} {enc : TypeId × Value → H} {P : Program} {w : World} {base : Nat} {spare : Nat → Bool} {held : Bool} {t e : TypeId} {f0 f1 f2 f3 : Field} {fuel : Nat} {a : Option Addr} {len cap : Nat} {x : DataW H × List MemPlace} (ht : P.underlying t = some (.slice e)) (he : P.underlying e = some (.struct #[f0, f1, f2, f3]))
    (ce : P.cellsOf e = 4) (o0 : f0.offset = 0) (o1 : f1.offset = 1) (o2 : f2.offset = 2) (o3 : f3.offset = 3) (c0 : P.cellsOf f0.type = 1) (c1 : P.cellsOf f1.type = 1) (c2 : P.cellsOf f2.type = 1) (c3 : P.cellsOf f3.type = 1)
    (h : DataW.trod enc P w base spare held fuel t [.slice a len cap] = some x) :
    (a = none ∧ len = 0) ∨ ∃ ad n, a = some ad ∧ len ≤ maxLen ∧ ∀ i, i < len → ∃ v0 v1 v2 v3 y0 y1 y2 y3, w.cell? (ad.add (i * 4)) = some v0 ∧ w.cell? (ad.add (i * 4 + 1)) = some v1 ∧ w.cell? (ad.add (i * 4 + 2)) = some v2 ∧ w.cell? (ad.add (i * 4 + 3)) = some v3 ∧
      DataW.trod enc P w base spare held n f0.type [v0] = some y0 ∧ DataW.trod enc P w base spare held n f1.type [v1] = some y1 ∧ DataW.trod enc P w base spare held n f2.type [v2] = some y2 ∧ DataW.trod enc P w base spare held n f3.type [v3] = some y3 := by
  rcases open_slice ht h with ⟨hcs, _⟩ | ⟨ad, l, c, m, n, D, Pl, hcs, hb, hl, hm, hmm, rfl, hx⟩
  · simp at hcs
    exact .inl ⟨hcs.1, hcs.2.1⟩
  right
  simp at hcs
  obtain ⟨rfl, rfl, rfl⟩ := hcs
  have hlm : len ≤ m := by rw [hmm]; split <;> omega
  refine ⟨ad, n - 1, rfl, by omega, fun i hi => ?_⟩
  obtain ⟨cs', h1, h2⟩ := hx i (by omega)
  rw [ce] at h1
  obtain ⟨_, hlen, hcell⟩ := World.cells?_some h1
  obtain ⟨xs, k, hk, hxy, _, hxl, hf⟩ := DataW.trod_struct he h2
  have hk' : k = n - 1 := by omega
  subst hk'
  match xs, hxl, cs', hlen with
  | [y0, y1, y2, y3], _, [v0, v1, v2, v3], _ =>
    have g0 := hf 0 f0 rfl
    have g1 := hf 1 f1 rfl
    have g2 := hf 2 f2 rfl
    have g3 := hf 3 f3 rfl
    simp [o0, o1, o2, o3, c0, c1, c2, c3] at g0 g1 g2 g3
    have e0 := hcell 0 (by omega)
    have e1 := hcell 1 (by omega)
    have e2 := hcell 2 (by omega)
    have e3 := hcell 3 (by omega)
    rw [addC_add] at e0 e1 e2 e3
    exact ⟨v0, v1, v2, v3, y0, y1, y2, y3, by simpa using e0, by simpa using e1, by simpa using e2, by simpa using e3, g0, g1, g2, g3⟩
end Go.Proofs.YtpadhcoboapodaaGreatDoor
