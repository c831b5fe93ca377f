/- Plain facts for stage 6: bases (tables by rising names); a deed done, a batch of them. No program is spoken of. -/
import Derived.Test.YtedbjjhkjkpnkaaBas0
import Derived.Test.YtedbjjhkjkpnkaaDeed1
import Derived.Test.YtedbjjhkjkpnkaaText1
import Derived.WideAt
import Derived.WideShapes
namespace Go.Proofs.Ytedbjjhkjkpnkaa
open Go.RowKit

/-! ### names -/
theorem less_before : ∀ x y : List UInt8, Op.bytesLess x y = bytesBefore x y
  | [], [] => rfl
  | [], _ :: _ => rfl
  | _ :: _, [] => rfl
  | a :: x, b :: y => by simp only [Op.bytesLess, bytesBefore, less_before x y]
def nlt (a b : ByteArray) : Bool := bytesBefore (bl a) (bl b)
theorem less_nlt (a b : ByteArray) : Op.bytesLess a.toList b.toList = nlt a b := by rw [less_before, ByteArray.toList_eq, ByteArray.toList_eq]; rfl
theorem bl_inj {a b : ByteArray} (h : bl a = bl b) : a = b := by
  have := bl_eta a _ h
  rw [bl_eta b _ rfl, this]
theorem same_name (a b : ByteArray) : (a.toList == b.toList) = decide (a = b) := by
  rw [ByteArray.toList_eq, ByteArray.toList_eq]
  by_cases h : a = b
  · subst h; simp
  · rw [decide_eq_false h]
    refine beq_eq_false_iff_ne.2 fun e => h (bl_inj e)
theorem nlt_irr (a : ByteArray) : nlt a a = false := WideAt.bytes_irrefl _
theorem nlt_trans {a b c : ByteArray} (h : nlt a b = true) (k : nlt b c = true) : nlt a c = true := WideShapes.bytes_trans _ _ _ h k
theorem nlt_total {a b : ByteArray} (h : a ≠ b) : nlt a b = true ∨ nlt b a = true := WideAt.bytes_total _ _ fun e => h (bl_inj e)
theorem nlt_asym {a b : ByteArray} (h : nlt a b = true) : nlt b a = false := by
  cases hk : nlt b a
  · rfl
  · have := nlt_trans h hk; rw [nlt_irr] at this; cases this
theorem nlt_ne {a b : ByteArray} (h : nlt a b = true) : a ≠ b := fun e => by rw [e, nlt_irr] at h; cases h
/-- 'a <= b', as the walk reads it. -/
theorem le_nlt (a b : ByteArray) : (Op.bytesLess a.toList b.toList || a.toList == b.toList) = !(nlt b a) := by
  rw [less_nlt, same_name]
  by_cases h : a = b
  · subst h; rw [nlt_irr]; simp
  · rw [decide_eq_false h, Bool.or_false]
    rcases nlt_total h with k | k
    · rw [k, nlt_asym k]; rfl
    · rw [k, nlt_asym k]; rfl

/-! ### a right base -/
def okAt (ts : List TB) (i : Nat) : Bool := (tx ts i).ok && (decide (i = 0) || nlt (tx ts (i - 1)).n (tx ts i).n)
def baseB (ts : List TB) : Bool := (List.range ts.length).all (okAt ts) && decide (ts.length ≤ 4)
theorem okTo_succ (ts : List TB) (k : Nat) : (List.range (k + 1)).all (okAt ts) = ((List.range k).all (okAt ts) && okAt ts k) := by rw [List.range_succ, List.all_append]; simp
theorem base_no {ts : List TB} {k : Nat} (h : k < ts.length) (hf : okAt ts k = false) : baseB ts = false := by
  unfold baseB
  rw [List.all_eq_false.2 ⟨k, List.mem_range.2 h, by rw [hf]; simp⟩]; rfl
theorem okAt_tab {ts : List TB} {k : Nat} (h : (tx ts k).ok = false) : okAt ts k = false := by unfold okAt; rw [h]; rfl
def SN (ts : List TB) : Prop := ts.Pairwise fun a b => nlt a.n b.n = true
theorem base_iff {ts : List TB} : baseB ts = true ↔ (∀ t ∈ ts, t.ok = true) ∧ SN ts ∧ ts.length ≤ 4 := by
  unfold baseB
  rw [Bool.and_eq_true, decide_eq_true_eq, List.all_eq_true]
  constructor
  · rintro ⟨h, hl⟩
    have h' : ∀ i, i < ts.length → (tx ts i).ok = true ∧ (i ≠ 0 → nlt (tx ts (i - 1)).n (tx ts i).n = true) := fun i hi => by
      have := h i (List.mem_range.2 hi)
      unfold okAt at this
      rw [Bool.and_eq_true, Bool.or_eq_true, decide_eq_true_eq] at this
      exact ⟨this.1, fun hn => this.2.resolve_left hn⟩
    refine ⟨fun t ht => ?_, ?_, hl⟩
    · obtain ⟨j, hj, rfl⟩ := List.getElem_of_mem ht
      rw [← tx_eq ts j hj]; exact (h' j hj).1
    · have hall : ∀ d i, i + d + 1 < ts.length → nlt (tx ts i).n (tx ts (i + d + 1)).n = true := by
        intro d
        induction d with
        | zero => intro i hi; have := (h' (i + 1) (by omega)).2 (by omega); simpa using this
        | succ d ih =>
          intro i hi
          have h1 := ih i (by omega)
          have h2 := (h' (i + (d + 1) + 1) hi).2 (by omega)
          refine nlt_trans h1 ?_
          rw [show i + (d + 1) + 1 - 1 = i + d + 1 by omega] at h2
          exact h2
      unfold SN
      rw [List.pairwise_iff_getElem]
      intro i j hi hj hij
      have := hall (j - i - 1) i (by omega)
      rw [show i + (j - i - 1) + 1 = j by omega, tx_eq ts i hi, tx_eq ts j hj] at this
      exact this
  · rintro ⟨h1, h2, hl⟩
    refine ⟨fun i hi => ?_, hl⟩
    have hi' := List.mem_range.1 hi
    unfold okAt
    rw [Bool.and_eq_true, Bool.or_eq_true, decide_eq_true_eq]
    refine ⟨h1 _ (tx_mem hi'), ?_⟩
    by_cases h0 : i = 0
    · exact .inl h0
    · right
      unfold SN at h2
      rw [List.pairwise_iff_getElem] at h2
      rw [tx_eq ts (i - 1) (by omega), tx_eq ts i hi']
      exact h2 (i - 1) i (by omega) hi' (by omega)

/-! ### by name -/
def fndN : List TB → ByteArray → Nat
  | [], _ => 0
  | t :: ts, n => if t.n = n then 0 else fndN ts n + 1
theorem fndN_le : ∀ (ts : List TB) (n : ByteArray), fndN ts n ≤ ts.length
  | [], _ => Nat.le_refl _
  | t :: ts, n => by
    have := fndN_le ts n
    simp only [fndN, List.length_cons]; split <;> omega
theorem tabs_drop {ts : List TB} {k : Nat} (h : k < ts.length) : ts.drop k = tx ts k :: ts.drop (k + 1) := by
  rw [tx_eq ts k h]; exact List.drop_eq_getElem_cons h
theorem fndN_yes {ts : List TB} {k : Nat} {n : ByteArray} (h : k < ts.length) (e : (tx ts k).n = n) : fndN (ts.drop k) n = 0 := by rw [tabs_drop h, fndN, if_pos e]
theorem fndN_no {ts : List TB} {k : Nat} {n : ByteArray} (h : k < ts.length) (e : ¬ (tx ts k).n = n) : fndN (ts.drop k) n = fndN (ts.drop (k + 1)) n + 1 := by rw [tabs_drop h, fndN, if_neg e]
theorem fndN_name : ∀ {ts : List TB} {n : ByteArray}, fndN ts n < ts.length → (tx ts (fndN ts n)).n = n
  | t :: ts, n, h => by
    by_cases e : t.n = n
    · simp [fndN, e, tx]
    · have h' : fndN ts n < ts.length := by simpa [fndN, e] using h
      have := fndN_name h'
      simpa [fndN, e, tx] using this
theorem fndN_none : ∀ {ts : List TB} {n : ByteArray}, ¬ fndN ts n < ts.length → ∀ t ∈ ts, t.n ≠ n
  | [], _, _, t, ht => by cases ht
  | t :: ts, n, h, x, hx => by
    by_cases e : t.n = n
    · exact absurd (by simp [fndN, e]) h
    · rcases List.mem_cons.1 hx with rfl | hx
      · exact e
      · exact fndN_none (by simpa [fndN, e] using h) x hx
/-- How many stand ahead that are less. -/
def plcN : List TB → ByteArray → Nat
  | [], _ => 0
  | t :: ts, n => if nlt t.n n = true then plcN ts n + 1 else 0
theorem plcN_le : ∀ (ts : List TB) (n : ByteArray), plcN ts n ≤ ts.length
  | [], _ => Nat.le_refl _
  | t :: ts, n => by
    have := plcN_le ts n
    simp only [plcN, List.length_cons]; split <;> omega
theorem plcN_yes {ts : List TB} {k : Nat} {n : ByteArray} (h : k < ts.length) (e : nlt (tx ts k).n n = true) : plcN (ts.drop k) n = plcN (ts.drop (k + 1)) n + 1 := by rw [tabs_drop h, plcN, if_pos e]
theorem plcN_no {ts : List TB} {k : Nat} {n : ByteArray} (h : k < ts.length) (e : ¬ nlt (tx ts k).n n = true) : plcN (ts.drop k) n = 0 := by rw [tabs_drop h, plcN, if_neg e]
def insN (ts : List TB) (t : TB) : List TB := ts.take (plcN ts t.n) ++ t :: ts.drop (plcN ts t.n)
theorem insN_cons (t x : TB) (ts : List TB) : insN (x :: ts) t = if nlt x.n t.n = true then x :: insN ts t else t :: x :: ts := by
  have e : plcN (x :: ts) t.n = if nlt x.n t.n = true then plcN ts t.n + 1 else 0 := rfl
  unfold insN
  rw [e]
  split <;> rfl
theorem insN_mem {t x : TB} : ∀ {ts : List TB}, x ∈ insN ts t ↔ x = t ∨ x ∈ ts
  | [] => by simp [insN, plcN]
  | y :: ts => by
    rw [insN_cons]
    split
    · rw [List.mem_cons, insN_mem (ts := ts), List.mem_cons]
      constructor
      · rintro (h | h | h) <;> simp [h]
      · rintro (h | h | h) <;> simp [h]
    · rw [List.mem_cons]
theorem insN_sn {t : TB} : ∀ {ts : List TB}, SN ts → (∀ x ∈ ts, x.n ≠ t.n) → SN (insN ts t)
  | [], _, _ => by unfold insN plcN; exact List.pairwise_singleton _ _
  | y :: ts, h, hn => by
    obtain ⟨h1, h2⟩ := List.pairwise_cons.1 h
    rw [insN_cons]
    split
    · rename_i hlt
      refine List.pairwise_cons.2 ⟨fun x hx => ?_, insN_sn h2 fun x hx => hn x (List.mem_cons_of_mem _ hx)⟩
      rcases insN_mem.1 hx with rfl | hx
      · exact hlt
      · exact h1 x hx
    · rename_i hlt
      have hy : nlt t.n y.n = true := (nlt_total (hn y (by simp))).resolve_left hlt
      refine List.pairwise_cons.2 ⟨fun x hx => ?_, h⟩
      rcases List.mem_cons.1 hx with rfl | hx
      · exact hy
      · exact nlt_trans hy (h1 x hx)
theorem insN_length (ts : List TB) (t : TB) : (insN ts t).length = ts.length + 1 := by
  have := plcN_le ts t.n
  unfold insN
  simp; omega
def dropN (ts : List TB) (i : Nat) : List TB := ts.take i ++ ts.drop (i + 1)
theorem dropN_sub (ts : List TB) (i : Nat) : (dropN ts i).Sublist ts := by
  have e := List.take_append_drop i ts
  conv => rhs; rw [← e]
  refine List.Sublist.append (List.Sublist.refl _) ?_
  rw [← List.drop_drop]
  exact List.drop_sublist _ _
theorem setN_sn {ts : List TB} {i : Nat} (h : SN ts) {t : TB} (hi : i < ts.length) (ht : t.n = (tx ts i).n) : SN (ts.set i t) := by
  unfold SN at h ⊢
  rw [List.pairwise_iff_getElem] at h ⊢
  intro a b ha hb hab
  have ha' : a < ts.length := by simpa using ha
  have hb' : b < ts.length := by simpa using hb
  have key : ∀ j (hj : j < ts.length) (hj' : j < (ts.set i t).length), (ts.set i t)[j].n = ts[j].n := fun j hj hj' => by
    rw [List.getElem_set]
    split
    · rename_i e; subst e; rw [ht, tx_eq ts i hi]
    · rfl
  rw [key a ha', key b hb']
  exact h a b ha' hb' hab

/-! ### a deed done -/
structure DL where
  k : Int
  n : ByteArray
  z : List Int
def makeB (ts : List TB) (n : ByteArray) (x : Int) : List TB × Int :=
  if fndN ts n < ts.length then (ts, 2) else if inB x 1 4 = false then (ts, 4) else if ts.length = 4 then (ts, 5) else (insN ts ⟨n, x, []⟩, 0)
def putT (t : TB) (z : List Int) : TB × Int :=
  if plB t.n t.wd t.rows z = true then (⟨t.n, t.wd, placedL t.rows z⟩, 0) else if idxK t.rows (ky z) < t.rows.length then (t, 2) else if rowFit t.wd z = false then (t, 4) else (t, 5)
def takeT (t : TB) (q : Int) : TB := ⟨t.n, t.wd, takenL t.rows q⟩
/-- Of the table at place i. -/
def atB (ts : List TB) (i : Nat) (k : Int) (z : List Int) : List TB × Int :=
  if k = 6 then (dropN ts i, 0)
  else if k = 1 then (ts.set i (putT (tx ts i) z).1, (putT (tx ts i) z).2)
  else if ¬ idxK (tx ts i).rows (ky z) < (tx ts i).rows.length then (ts, 3)
  else if k = 4 then (ts, 0)
  else if k = 2 then (ts.set i (takeT (tx ts i) (ky z)), 0)
  else if (putT (takeT (tx ts i) (ky z)) z).2 = 0 then (ts.set i (putT (takeT (tx ts i) (ky z)) z).1, 0) else (ts, (putT (takeT (tx ts i) (ky z)) z).2)
def doR (ts : List TB) (d : DL) : List TB × Int :=
  if d.k = 5 then makeB ts d.n (ix d.z 0) else if fndN ts d.n < ts.length then atB ts (fndN ts d.n) d.k d.z else (ts, 1)
def doB (ts : List TB) (d : DL) : List TB × Int := if deedB d.k d.n d.z = true then doR ts d else (ts, 4)
def doesB (ts : List TB) (d : DL) : List TB × Int := if baseB ts = true then doB ts d else ([], 4)
def batD (ts0 : List TB) : List TB → List DL → List TB × Int
  | ts, [] => (ts, 0)
  | ts, d :: ds => if (doB ts d).2 = 0 then batD ts0 (doB ts d).1 ds else (ts0, (doB ts d).2)
def batchB (ts : List TB) (ds : List DL) : List TB × Int := if baseB ts = true then (if ds.length ≤ 8 then batD ts ts ds else (ts, 4)) else ([], 4)
theorem putT_n (t : TB) (z : List Int) : (putT t z).1.n = t.n ∧ (putT t z).1.wd = t.wd := by
  unfold putT
  split
  · exact ⟨rfl, rfl⟩
  · split
    · exact ⟨rfl, rfl⟩
    · split <;> exact ⟨rfl, rfl⟩
theorem putT_same {t : TB} {z : List Int} (h : (putT t z).2 ≠ 0) : (putT t z).1 = t := by
  unfold putT at h ⊢
  split
  · rename_i hp; rw [if_pos hp] at h; exact absurd rfl h
  · split
    · rfl
    · split <;> rfl
theorem putT_ok {t : TB} {z : List Int} (h : t.ok = true) : (putT t z).1.ok = true := by
  unfold putT
  split
  · rename_i hp
    unfold plB at hp
    rw [Bool.and_eq_true, Bool.and_eq_true, Bool.and_eq_true, decide_eq_true_eq, decide_eq_true_eq] at hp
    obtain ⟨⟨⟨h1, h2⟩, h3⟩, h4⟩ := hp
    unfold tabB at h1
    rw [Bool.and_eq_true] at h1
    show tabB t.n t.wd (placedL t.rows z) = true
    unfold tabB
    have := idx_le t.rows (ky z)
    rw [h1.1, placed_ok h1.2 h2 (by omega) h4]; rfl
  · split
    · exact h
    · split <;> exact h
theorem takeT_ok {t : TB} {q : Int} (h : t.ok = true) : (takeT t q).ok = true := by
  unfold TB.ok tabB at h
  rw [Bool.and_eq_true] at h
  show tabB t.n t.wd (takenL t.rows q) = true
  unfold tabB
  rw [h.1, taken_ok h.2]; rfl
theorem set_same {ts : List TB} {i : Nat} (h : i < ts.length) : ts.set i (tx ts i) = ts := by
  apply List.ext_getElem
  · simp
  · intro j h1 h2
    rw [List.getElem_set]
    split
    · rename_i e; subst e; rw [tx_eq ts i h]
    · rfl
theorem atB_same {ts : List TB} {i : Nat} {k : Int} {z : List Int} (hi : i < ts.length) (h : (atB ts i k z).2 ≠ 0) : (atB ts i k z).1 = ts := by
  unfold atB at h ⊢
  split
  · rename_i e; rw [if_pos e] at h; exact absurd rfl h
  · rename_i e6
    rw [if_neg e6] at h
    split
    · rename_i e1
      rw [if_pos e1] at h
      show ts.set i _ = ts
      rw [putT_same h, set_same hi]
    · rename_i e1
      rw [if_neg e1] at h
      split
      · rfl
      · rename_i e3
        rw [if_neg e3] at h
        split
        · rfl
        · rename_i e4
          rw [if_neg e4] at h
          split
          · rename_i e2; rw [if_pos e2] at h; exact absurd rfl h
          · rename_i e2
            rw [if_neg e2] at h
            split
            · rename_i e5; rw [if_pos e5] at h; exact absurd rfl h
            · rfl
theorem doR_same {ts : List TB} {d : DL} (h : (doR ts d).2 ≠ 0) : (doR ts d).1 = ts := by
  unfold doR at h ⊢
  split
  · rename_i e
    rw [if_pos e] at h
    unfold makeB at h ⊢
    split
    · rfl
    · rename_i e1
      rw [if_neg e1] at h
      split
      · rfl
      · rename_i e2
        rw [if_neg e2] at h
        split
        · rfl
        · rename_i e3; rw [if_neg e3] at h; exact absurd rfl h
  · rename_i e
    rw [if_neg e] at h
    split
    · rename_i e1; rw [if_pos e1] at h; exact atB_same e1 h
    · rfl
theorem doB_same {ts : List TB} {d : DL} (h : (doB ts d).2 ≠ 0) : (doB ts d).1 = ts := by
  unfold doB at h ⊢
  split
  · rename_i e; rw [if_pos e] at h; exact doR_same h
  · rfl
theorem set_base {ts : List TB} (h : baseB ts = true) {i : Nat} (hi : i < ts.length) {t : TB} (hn : t.n = (tx ts i).n) (ht : t.ok = true) : baseB (ts.set i t) = true := by
  obtain ⟨h1, h2, h3⟩ := base_iff.1 h
  refine base_iff.2 ⟨fun x hx => ?_, setN_sn h2 hi hn, by simpa using h3⟩
  rcases List.mem_or_eq_of_mem_set hx with hx | rfl
  · exact h1 x hx
  · exact ht
theorem doB_base {ts : List TB} {d : DL} (h : baseB ts = true) : baseB (doB ts d).1 = true := by
  obtain ⟨h1, h2, h3⟩ := base_iff.1 h
  unfold doB
  split
  · rename_i hd
    obtain ⟨hnm, _, _⟩ := deedB_all hd
    unfold doR
    split
    · unfold makeB
      split
      · exact h
      · rename_i hf
        split
        · exact h
        · rename_i hin
          split
          · exact h
          · rename_i hl
            have hno := fndN_none hf
            refine base_iff.2 ⟨fun x hx => ?_, insN_sn h2 hno, by show (insN ts _).length ≤ 4; rw [insN_length]; omega⟩
            rcases insN_mem.1 hx with rfl | hx
            · show tabB d.n (ix d.z 0) [] = true
              unfold tabB rowsOkB
              have hin' : inB (ix d.z 0) 1 4 = true := by simpa using hin
              rw [hnm, hin']; rfl
            · exact h1 x hx
    · split
      · rename_i hi
        generalize fndN ts d.n = i at hi ⊢
        have hok := h1 _ (tx_mem hi)
        unfold atB
        split
        · refine base_iff.2 ⟨fun x hx => h1 x ((dropN_sub ts i).subset hx), h2.sublist (dropN_sub ts i), Nat.le_trans (dropN_sub ts i).length_le h3⟩
        · split
          · exact set_base h hi (putT_n _ _).1 (putT_ok hok)
          · split
            · exact h
            · split
              · exact h
              · split
                · exact set_base h hi rfl (takeT_ok hok)
                · split
                  · exact set_base h hi (putT_n _ _).1 (putT_ok (takeT_ok hok))
                  · exact h
      · exact h
  · exact h
end Go.Proofs.Ytedbjjhkjkpnkaa
