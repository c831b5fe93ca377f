/- Conds as texts: how they are shown, how the model reads them, how the program does, and that both read alike. Nothing of the program is named. -/
import Derived.Test.YtejgofhpjkebbaaDoorCnd0
import Derived.Test.YtejgofhpjkebbaaDoorDeedThy
namespace Go.Proofs.YtejgofhpjkebbaaDoor
open Go.RowKit

def opL (o : Int) : UInt8 := if o = 1 then 60 else if o = 2 then 61 else 62
def opC (b : UInt8) : Int := if b = 60 then 1 else if b = 61 then 2 else if b = 62 then 3 else 0
def otherL (c : Cnd) : List UInt8 := if c.i = true then Lib.itoa c.t else 36 :: Lib.itoa c.t
def showC (c : Cnd) : List UInt8 := 36 :: (Lib.itoa c.p ++ opL c.o :: otherL c)
def showCs (l : List Cnd) : List UInt8 := if rightB l = true then (if l = [] then [45] else cat [44] (l.map showC)) else []

theorem opC_opL {o : Int} (h1 : 1 ≤ o) (h3 : o ≤ 3) : opC (opL o) = o := by
  have : o = 1 ∨ o = 2 ∨ o = 3 := by omega
  rcases this with rfl | rfl | rfl <;> rfl
theorem opL_opC {b : UInt8} (h : 1 ≤ opC b) : opL (opC b) = b := by
  unfold opC at h ⊢
  split
  · rename_i e; rw [e]; rfl
  · split
    · rename_i e; rw [e]; rfl
    · split
      · rename_i e; rw [e]; rfl
      · rename_i h1 h2 h3
        rw [if_neg h1, if_neg h2, if_neg h3] at h
        omega
theorem itoa_in (n : Int) (x : UInt8) (hx : x ∈ Lib.itoa n) : x = 45 ∨ isDig x = true := by
  unfold Lib.itoa at hx
  split at hx
  · rcases List.mem_cons.1 hx with e | e
    · exact .inl e
    · exact .inr (List.all_eq_true.1 (decDigits_ok _).2.1 x e)
  · exact .inr (List.all_eq_true.1 (decDigits_ok _).2.1 x hx)
theorem itoa_not (n : Int) {c : UInt8} (h1 : c ≠ 45) (h2 : isDig c = false) : c ∉ Lib.itoa n := fun h => by
  rcases itoa_in n c h with e | e
  · exact h1 e
  · rw [h2] at e; cases e
theorem showC_in (c : Cnd) (x : UInt8) (hx : x ∈ showC c) : x = 36 ∨ x = opL c.o ∨ x = 45 ∨ isDig x = true := by
  unfold showC otherL at hx
  rcases List.mem_cons.1 hx with e | e
  · exact .inl e
  rcases List.mem_append.1 e with e | e
  · exact .inr (.inr (itoa_in _ _ e))
  rcases List.mem_cons.1 e with e | e
  · exact .inr (.inl e)
  split at e
  · exact .inr (.inr (itoa_in _ _ e))
  · rcases List.mem_cons.1 e with e | e
    · exact .inl e
    · exact .inr (.inr (itoa_in _ _ e))
theorem opL_is (o : Int) : opL o = 60 ∨ opL o = 61 ∨ opL o = 62 := by
  unfold opL
  split
  · exact .inl rfl
  · split
    · exact .inr (.inl rfl)
    · exact .inr (.inr rfl)
theorem showC_no (c : Cnd) : (44 : UInt8) ∉ showC c := fun h => by
  rcases showC_in c _ h with e | e | e | e
  · exact absurd e (by decide)
  · rcases opL_is c.o with h | h | h <;> (rw [h] at e; exact absurd e (by decide))
  · exact absurd e (by decide)
  · exact absurd e (by decide)

/-- A cond of its text, as the model reads it. -/
def readC (s : List UInt8) : Option Cnd :=
  match s with
  | a :: b :: o :: d :: r =>
    if a = 36 then
      match readNum 9 [b], readNum 9 (if d = 36 then r else d :: r) with
      | some p, some n => if condB ⟨p, opC o, n, decide (d ≠ 36)⟩ = true then some ⟨p, opC o, n, decide (d ≠ 36)⟩ else none
      | _, _ => none
    else none
  | _ => none
def specReadCs (s : List UInt8) : List Cnd × Bool :=
  if s = [45] then ([], true) else match (spl 44 s).mapM readC with
    | none => ([], false)
    | some l => if l.length ≤ 3 then (l, true) else ([], false)
/-- What stands on a side of an op: a number, and whether it is a place. -/
def readI (t : List UInt8) : Option (Int × Bool) :=
  match t with
  | 36 :: r => (parseI r).map fun n => (n, true)
  | _ => (parseI t).map fun n => (n, false)
def bothI (o : Int) (t : List UInt8 × List UInt8) : Option Cnd :=
  match readI t.1, readI t.2 with
  | some (p, _), some (n, q) => some ⟨p, o, n, !q⟩
  | _, _ => none
/-- A cond of its text, as the program reads it (it asks at the end whether it is shown so). -/
def implC (s : List UInt8) : Option Cnd :=
  if (60 : UInt8) ∈ s then bothI 1 ((Lib.cut s [60]).1, (Lib.cut s [60]).2.1)
  else if (61 : UInt8) ∈ s then bothI 2 ((Lib.cut s [61]).1, (Lib.cut s [61]).2.1)
  else if (62 : UInt8) ∈ s then bothI 3 ((Lib.cut s [62]).1, (Lib.cut s [62]).2.1)
  else none
def implReadCs (s : List UInt8) (ws : List (List UInt8)) : List Cnd × Bool :=
  if s = [45] then ([], true) else match ws.mapM implC with
    | none => ([], false)
    | some l => if showCs l = s then (l, true) else ([], false)

theorem itoa_one {p : Int} (h0 : 0 ≤ p) (h5 : p ≤ 5) : ∃ b, Lib.itoa p = [b] ∧ b ≠ 36 := by
  obtain ⟨u, rfl⟩ := Int.eq_ofNat_of_zero_le h0
  refine ⟨UInt8.ofNat (48 + u), ?_, ?_⟩
  · rw [Lib.itoa_nonneg, Lib.decDigits, dif_pos (by omega)]
  · have : u = 0 ∨ u = 1 ∨ u = 2 ∨ u = 3 ∨ u = 4 ∨ u = 5 := by omega
    rcases this with rfl | rfl | rfl | rfl | rfl | rfl <;> decide
theorem readNum_small {n : Int} (h0 : -1000 ≤ n) (h1 : n ≤ 1000) : readNum 9 (Lib.itoa n) = some n := by
  by_cases hn : 0 ≤ n
  · obtain ⟨u, rfl⟩ := Int.eq_ofNat_of_zero_le hn
    obtain ⟨d1, d2, d3, d4, d5⟩ := decDigits_ok u
    have hl := decDigits_len (u := u) (k := 9) (by omega) (by omega)
    have hp := List.length_pos_iff.2 d1
    rw [Lib.itoa_nonneg]
    have hN := isNeg_digit d1 d2
    have hD : digs (Lib.decDigits u) = Lib.decDigits u := by unfold digs; rw [hN]; rfl
    unfold readNum
    rw [hD, hN, d2, d3, if_neg (by omega), if_neg (by simp), if_neg]
    · simp
    · rintro ⟨e, e2 | e2⟩
      · cases e2
      · rcases d4 with d4 | d4
        · exact d4 e
        · omega
  · obtain ⟨u, rfl⟩ : ∃ u : Nat, n = -(u : Int) := ⟨n.natAbs, by omega⟩
    obtain ⟨d1, d2, d3, d4, d5⟩ := decDigits_ok u
    have hl := decDigits_len (u := u) (k := 9) (by omega) (by omega)
    have hp := List.length_pos_iff.2 d1
    rw [Lib.itoa_neg u (by omega)]
    have hN : isNeg (45 :: Lib.decDigits u) = true := rfl
    have hD : digs (45 :: Lib.decDigits u) = Lib.decDigits u := by unfold digs; rw [if_pos hN]; rfl
    unfold readNum
    rw [hD, hN, d2, d3, if_neg (by omega), if_neg (by simp), if_neg]
    · simp
    · rintro ⟨e, _⟩
      exact d5 (by omega) e
theorem itoa_cons (n : Int) : ∃ d r, Lib.itoa n = d :: r ∧ d ≠ 36 := by
  cases h : Lib.itoa n with
  | nil => exact absurd (itoa_pos n) (by rw [h]; simp)
  | cons d r =>
    refine ⟨d, r, rfl, fun e => ?_⟩
    exact itoa_not n (c := 36) (by decide) (by decide) (by rw [h, e]; simp)
theorem condB_other {c : Cnd} (h : condB c = true) : -1000 ≤ c.t ∧ c.t ≤ 1000 := by
  rw [condB_iff] at h
  rcases h.2.2 with h | h <;> omega
/-- The model reads what is shown of a right cond, -/
theorem readC_show {c : Cnd} (h : condB c = true) : readC (showC c) = some c := by
  obtain ⟨hp, ho, ht⟩ := condB_iff.1 h
  obtain ⟨b, hb, _⟩ := itoa_one hp.1 hp.2
  obtain ⟨d, r, hd, hd36⟩ := itoa_cons c.t
  have hx := condB_other h
  have hp9 : readNum 9 [b] = some c.p := by rw [← hb]; exact readNum_small (by omega) (by omega)
  have hn9 : readNum 9 (d :: r) = some c.t := by rw [← hd]; exact readNum_small hx.1 hx.2
  unfold showC otherL
  rw [hb, hd]
  obtain ⟨p, o, t, i⟩ := c
  cases i with
  | true =>
    show readC (36 :: b :: opL o :: d :: r) = _
    unfold readC
    simp only [if_true, if_neg hd36]
    rw [hp9, hn9]
    simp only
    rw [opC_opL ho.1 ho.2, decide_eq_true hd36, if_pos h]
  | false =>
    show readC (36 :: b :: opL o :: 36 :: d :: r) = _
    unfold readC
    simp only [if_true]
    rw [hp9, hn9]
    simp only
    rw [opC_opL ho.1 ho.2]
    simp only [ne_eq, not_true_eq_false, decide_false]
    rw [if_pos h]
/-- and nothing else. -/
theorem show_readC {s : List UInt8} {c : Cnd} (h : readC s = some c) : condB c = true ∧ showC c = s := by
  unfold readC at h
  split at h
  · rename_i a b o d r
    split at h
    · rename_i ha
      subst ha
      split at h
      · rename_i p n hp hn
        split at h
        · rename_i hc
          injection h with h
          subst h
          refine ⟨hc, ?_⟩
          obtain ⟨_, ho, _⟩ := condB_iff.1 hc
          have e1 := readNum_itoa hp
          have e2 := readNum_itoa hn
          unfold showC otherL
          simp only
          rw [← e1, opL_opC ho.1, ← e2]
          by_cases hd : d = 36
          · simp [hd]
          · simp [hd]
        · cases h
      · cases h
    · cases h
  · cases h

theorem parseI_small {n : Int} (h0 : -1000 ≤ n) (h1 : n ≤ 1000) : parseI (Lib.itoa n) = some n := parseI_itoa n (by omega) (by omega)
theorem readI_place {n : Int} (h0 : -1000 ≤ n) (h1 : n ≤ 1000) : readI (36 :: Lib.itoa n) = some (n, true) := by
  show (parseI (Lib.itoa n)).map (fun n => (n, true)) = _
  rw [parseI_small h0 h1]; rfl
theorem readI_number {n : Int} (h0 : -1000 ≤ n) (h1 : n ≤ 1000) : readI (Lib.itoa n) = some (n, false) := by
  obtain ⟨d, r, hd, hd36⟩ := itoa_cons n
  have e := parseI_small h0 h1
  rw [hd] at e ⊢
  unfold readI
  split
  · rename_i h
    injection h with h1 _
    exact absurd h1 hd36
  · rw [e]; rfl
theorem bothI_show {c : Cnd} (h : condB c = true) : bothI c.o (36 :: Lib.itoa c.p, otherL c) = some c := by
  obtain ⟨hp, ho, ht⟩ := condB_iff.1 h
  have hx := condB_other h
  obtain ⟨p, o, t, i⟩ := c
  unfold bothI otherL
  simp only at *
  rw [readI_place (by omega) (by omega)]
  cases i with
  | true => rw [if_pos rfl, readI_number hx.1 hx.2]; rfl
  | false => rw [if_neg (by simp), readI_place hx.1 hx.2]; rfl
theorem showC_has (c : Cnd) : opL c.o ∈ showC c := by unfold showC; simp
theorem showC_ahead (c : Cnd) {b : UInt8} (h1 : b ≠ 36) (h2 : b ≠ 45) (h3 : isDig b = false) : b ∉ 36 :: Lib.itoa c.p := fun h => by
  rcases List.mem_cons.1 h with e | e
  · exact h1 e
  · exact itoa_not _ h2 h3 e
theorem showC_not (c : Cnd) {b : UInt8} (h1 : b ≠ 36) (h2 : b ≠ 45) (h3 : isDig b = false) (h4 : b ≠ opL c.o) : b ∉ showC c := fun h => by
  rcases showC_in c _ h with e | e | e | e
  · exact h1 e
  · exact h4 e
  · exact h2 e
  · rw [h3] at e; cases e
theorem implC_show {c : Cnd} (h : condB c = true) : implC (showC c) = some c := by
  obtain ⟨hp, ho, ht⟩ := condB_iff.1 h
  have hb := bothI_show h
  have hs : showC c = (36 :: Lib.itoa c.p) ++ opL c.o :: otherL c := rfl
  have hcut : ∀ b, b = opL c.o → Lib.cut (showC c) [b] = (36 :: Lib.itoa c.p, otherL c, true) := by
    intro b e
    subst e
    rw [hs]
    refine cut_at (showC_ahead c ?_ ?_ ?_)
    all_goals (rcases opL_is c.o with e | e | e <;> (rw [e]; decide))
  have : c.o = 1 ∨ c.o = 2 ∨ c.o = 3 := by omega
  unfold implC
  rcases this with e | e | e
  · have hL : opL c.o = 60 := by rw [e]; rfl
    rw [if_pos (by rw [← hL]; exact showC_has c), hcut 60 hL.symm, ← hb, e]
  · have hL : opL c.o = 61 := by rw [e]; rfl
    rw [if_neg (showC_not c (by decide) (by decide) (by decide) (by rw [hL]; decide)), if_pos (by rw [← hL]; exact showC_has c), hcut 61 hL.symm, ← hb, e]
  · have hL : opL c.o = 62 := by rw [e]; rfl
    rw [if_neg (showC_not c (by decide) (by decide) (by decide) (by rw [hL]; decide)), if_neg (showC_not c (by decide) (by decide) (by decide) (by rw [hL]; decide)), if_pos (by rw [← hL]; exact showC_has c), hcut 62 hL.symm, ← hb, e]
theorem parts_of {ws : List (List UInt8)} {l : List Cnd} (h : ws.mapM readC = some l) : ws = l.map showC ∧ ∀ c ∈ l, condB c = true := by
  obtain ⟨hl, hi⟩ := mapM_some h
  constructor
  · apply List.ext_getElem?
    intro i
    rw [List.getElem?_map]
    by_cases hlt : i < ws.length
    · have h1 : ws[i]? = some ws[i] := List.getElem?_eq_getElem hlt
      have h2 : l[i]? = some (l[i]'(by omega)) := List.getElem?_eq_getElem (by omega)
      rw [h1, h2]
      simp only [Option.map_some]
      rw [(show_readC (hi i _ _ h1 h2)).2]
    · rw [List.getElem?_eq_none (by omega), List.getElem?_eq_none (by omega)]; rfl
  · intro c hc
    obtain ⟨i, hlt, rfl⟩ := List.mem_iff_getElem.1 hc
    exact (show_readC (hi i _ _ (List.getElem?_eq_getElem (by omega)) (List.getElem?_eq_getElem hlt))).1
theorem readCs_of {l : List Cnd} (h : ∀ c ∈ l, condB c = true) : (l.map showC).mapM readC = some l ∧ (l.map showC).mapM implC = some l := by
  have h1 := mapM_map readC showC id l (fun c hc => readC_show (h c hc))
  have h2 := mapM_map implC showC id l (fun c hc => implC_show (h c hc))
  exact ⟨by simpa using h1, by simpa using h2⟩
theorem implC_nil : implC [] = none := by decide
theorem showCs_parts {l : List Cnd} {s : List UInt8} (h : showCs l = s) (h0 : s ≠ []) (h45 : s ≠ [45]) : (∀ c ∈ l, condB c = true) ∧ l.length ≤ 3 ∧ l ≠ [] ∧ spl 44 s = l.map showC := by
  unfold showCs at h
  split at h
  · rename_i hr
    split at h
    · exact absurd h.symm h45
    · rename_i hl
      obtain ⟨h1, h2⟩ := rightB_iff.1 hr
      refine ⟨h1, h2, hl, ?_⟩
      rw [← h, spl_cat 44 _ (by simpa using hl) (fun w hw => by obtain ⟨c, _, rfl⟩ := List.mem_map.1 hw; exact showC_no c)]
  · exact absurd h.symm h0
/-- Both read alike, if the words are all words of the text wherever these are three or fewer, and never none. -/
theorem readCs_same (s : List UInt8) (ws : List (List UInt8)) (hw : (spl 44 s).length ≤ 3 → ws = spl 44 s) : implReadCs s ws = specReadCs s := by
  unfold implReadCs specReadCs
  by_cases h45 : s = [45]
  · rw [if_pos h45, if_pos h45]
  rw [if_neg h45, if_neg h45]
  -- what the program finds shown so the model reads
  have hback : ∀ q, ws.mapM implC = some q → showCs q = s → (spl 44 s).mapM readC = some q ∧ q.length ≤ 3 := by
    intro q hq hs
    have h0 : s ≠ [] := by
      intro e
      have e1 : ws = [[]] := by rw [hw (by rw [e]; decide), e]; rfl
      rw [e1] at hq
      have : ([[]] : List (List UInt8)).mapM implC = none := by simp [implC_nil]
      rw [this] at hq; cases hq
    obtain ⟨h1, h2, h3, h4⟩ := showCs_parts hs h0 h45
    rw [h4]
    exact ⟨(readCs_of h1).1, h2⟩
  cases hs : (spl 44 s).mapM readC with
  | none =>
    simp only
    cases hq : ws.mapM implC with
    | none => rfl
    | some q =>
      simp only
      by_cases hsh : showCs q = s
      · have := (hback q hq hsh).1
        rw [hs] at this; cases this
      · rw [if_neg hsh]
  | some l =>
    simp only
    obtain ⟨e1, e2⟩ := parts_of hs
    by_cases h3 : l.length ≤ 3
    · rw [if_pos h3]
      have hws : ws = l.map showC := by rw [hw (by rw [e1]; simpa using h3), e1]
      rw [hws, (readCs_of e2).2]
      simp only
      have hl0 : l ≠ [] := by intro e; subst e; exact spl_ne 44 s (by simpa using e1)
      have hsh : showCs l = s := by
        unfold showCs
        rw [if_pos (rightB_iff.2 ⟨e2, h3⟩), if_neg hl0, ← e1, cat_spl]
      rw [if_pos hsh]
    · rw [if_neg h3]
      cases hq : ws.mapM implC with
      | none => rfl
      | some q =>
        simp only
        by_cases hsh : showCs q = s
        · obtain ⟨h4, h5⟩ := hback q hq hsh
          rw [hs] at h4
          injection h4 with h4
          subst h4
          exact absurd h5 h3
        · rw [if_neg hsh]
/-- What is read of a text is shown so, and what is shown of right conds is read. -/
theorem specReadCs_len (s : List UInt8) : (specReadCs s).1.length ≤ 3 := by
  unfold specReadCs
  split
  · simp
  · split
    · simp
    · split
      · assumption
      · simp
theorem readCs_right {s : List UInt8} {l : List Cnd} (h : specReadCs s = (l, true)) : rightB l = true ∧ showCs l = s := by
  unfold specReadCs at h
  split at h
  · rename_i e
    injection h with h _
    subst h
    exact ⟨rfl, by rw [e]; rfl⟩
  · split at h
    · injection h with _ h; cases h
    · rename_i q hq
      split at h
      · rename_i h3
        injection h with h _
        subst h
        obtain ⟨e1, e2⟩ := parts_of hq
        have hr := rightB_iff.2 ⟨e2, h3⟩
        have hl0 : q ≠ [] := by intro e; subst e; exact spl_ne 44 s (by simpa using e1)
        refine ⟨hr, ?_⟩
        unfold showCs
        rw [if_pos hr, if_neg hl0, ← e1, cat_spl]
      · injection h with _ h; cases h
theorem showC_ne45 (l : List Cnd) (h : l ≠ []) : cat [44] (l.map showC) ≠ [45] ∧ cat [44] (l.map showC) ≠ [] := by
  cases l with
  | nil => exact absurd rfl h
  | cons c r =>
    have hd : ∃ t, cat [44] ((c :: r).map showC) = 36 :: t := by
      cases r with
      | nil => exact ⟨_, rfl⟩
      | cons d q => exact ⟨_, rfl⟩
    obtain ⟨t, ht⟩ := hd
    rw [ht]
    exact ⟨fun e => by injection e with e _; exact absurd e (by decide), by simp⟩
theorem readCs_show {l : List Cnd} (h : rightB l = true) : specReadCs (showCs l) = (l, true) := by
  obtain ⟨h1, h3⟩ := rightB_iff.1 h
  unfold showCs
  rw [if_pos h]
  by_cases hl : l = []
  · rw [if_pos hl, hl]; rfl
  · rw [if_neg hl]
    unfold specReadCs
    rw [if_neg (showC_ne45 l hl).1, spl_cat 44 _ (by simpa using hl) (fun w hw => by obtain ⟨c, _, rfl⟩ := List.mem_map.1 hw; exact showC_no c), (readCs_of h1).1]
    simp only
    rw [if_pos h3]
theorem showCs_empty {l : List Cnd} (h : showCs l = []) : rightB l = false := by
  unfold showCs at h
  split at h
  · split at h
    · cases h
    · rename_i hl; exact absurd h (showC_ne45 l hl).2
  · simpa using ‹¬ rightB l = true›
end Go.Proofs.YtejgofhpjkebbaaDoor
