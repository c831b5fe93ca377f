/- Plain facts on texts: numbers read from their digits, words between blanks; that the program's way of reading a row and the model's come to the same. Nothing of the program is named. -/
import Derived.Lib.ItoaMem
import Derived.Lib.ItoaLen
import Derived.Lib.ParseIntB
import Derived.Lib.Split
import Derived.Lib.IndexLaws
import Derived.Lib.IndexBytes
import Derived.Test.YtejgofhpjkebbaaDoorShow2
namespace Go.Proofs.YtejgofhpjkebbaaDoor

def isDig (c : UInt8) : Bool := decide (48 ≤ c.toNat) && decide (c.toNat ≤ 57)
theorem isDig_iff {c : UInt8} : isDig c = true ↔ 48 ≤ c.toNat ∧ c.toNat ≤ 57 := by simp [isDig]
def valFrom (a : Nat) (l : List UInt8) : Nat := l.foldl (fun n c => n * 10 + (c.toNat - 48)) a
def valD (l : List UInt8) : Nat := valFrom 0 l
theorem valFrom_snoc (a : Nat) (l : List UInt8) (c : UInt8) : valFrom a (l ++ [c]) = valFrom a l * 10 + (c.toNat - 48) := by simp [valFrom]
theorem valFrom_cons (a : Nat) (l : List UInt8) (c : UInt8) : valFrom a (c :: l) = valFrom (a * 10 + (c.toNat - 48)) l := by simp [valFrom]
theorem valFrom_ge (l : List UInt8) : ∀ a, a ≤ valFrom a l := by
  induction l with
  | nil => intro a; exact Nat.le_refl _
  | cons c l ih => intro a; rw [valFrom_cons]; have := ih (a * 10 + (c.toNat - 48)); omega
theorem valFrom_lt (l : List UInt8) (hd : l.all isDig = true) : ∀ a, valFrom a l < (a + 1) * 10 ^ l.length := by
  induction l with
  | nil => intro a; simp [valFrom]
  | cons c l ih =>
    intro a
    have h1 : isDig c = true ∧ l.all isDig = true := by simpa using hd
    have hc := isDig_iff.1 h1.1
    rw [valFrom_cons, List.length_cons, Nat.pow_succ]
    refine Nat.lt_of_lt_of_le (ih h1.2 _) ?_
    calc (a * 10 + (c.toNat - 48) + 1) * 10 ^ l.length ≤ ((a + 1) * 10) * 10 ^ l.length := Nat.mul_le_mul_right _ (by omega)
      _ = (a + 1) * (10 ^ l.length * 10) := by rw [Nat.mul_assoc, Nat.mul_comm 10]

theorem ofNat_dig {c : UInt8} (h : isDig c = true) : UInt8.ofNat (48 + (c.toNat - 48)) = c := by
  have := isDig_iff.1 h
  rw [show 48 + (c.toNat - 48) = c.toNat by omega]
  simp

theorem head_append_ne {α : Type} {l : List α} (h : l ≠ []) (r : List α) : (l ++ r).head? = l.head? := by
  cases l with
  | nil => exact absurd rfl h
  | cons => rfl

/-- Digits as they are written: of their number they are the digits. -/
theorem decDigits_val (n : Nat) : ∀ l : List UInt8, l.length = n → l ≠ [] → l.all isDig = true → (l.head? ≠ some 48 ∨ l.length = 1) → Lib.decDigits (valD l) = l ∧ (l.head? ≠ some 48 → 1 ≤ valD l) := by
  induction n with
  | zero => intro l hl hne; exact absurd (List.length_eq_zero_iff.1 hl) hne
  | succ n ih =>
    intro l hl hne hd hh
    obtain ⟨ini, c, rfl⟩ : ∃ ini c, l = ini ++ [c] := ⟨l.dropLast, l.getLast hne, (List.dropLast_concat_getLast hne).symm⟩
    have h1 : ini.all isDig = true ∧ isDig c = true := by simpa using hd
    have hc := isDig_iff.1 h1.2
    unfold valD
    rw [valFrom_snoc]
    by_cases h0 : ini = []
    · subst h0
      refine ⟨?_, fun hx => ?_⟩
      · rw [Lib.decDigits, dif_pos (by simp [valFrom]; omega)]
        simp [valFrom, ofNat_dig h1.2]
      · have : c.toNat ≠ 48 := by
          intro e
          apply hx
          have : c = 48 := by rw [← ofNat_dig h1.2, e]; rfl
          simp [this]
        simp [valFrom]; omega
    · have hil : ini.length = n := by simp at hl; omega
      have hpos : 0 < ini.length := List.length_pos_iff.2 h0
      have hhd : ini.head? ≠ some 48 := by
        rcases hh with hh | hh
        · rwa [head_append_ne h0] at hh
        · exact absurd (by simpa using hh) h0
      obtain ⟨e1, e2⟩ := ih ini hil h0 h1.1 (.inl hhd)
      have hv : 1 ≤ valFrom 0 ini := e2 hhd
      have hlt : c.toNat - 48 < 10 := by omega
      refine ⟨?_, fun _ => by omega⟩
      rw [Lib.decDigits, dif_neg (by omega), show (valFrom 0 ini * 10 + (c.toNat - 48)) / 10 = valFrom 0 ini by omega, show (valFrom 0 ini * 10 + (c.toNat - 48)) % 10 = c.toNat - 48 by omega, ofNat_dig h1.2]
      unfold valD at e1
      rw [e1]
theorem decDigits_ok (u : Nat) : Lib.decDigits u ≠ [] ∧ (Lib.decDigits u).all isDig = true ∧ valD (Lib.decDigits u) = u ∧ ((Lib.decDigits u).head? ≠ some 48 ∨ (Lib.decDigits u).length = 1) ∧ (1 ≤ u → (Lib.decDigits u).head? ≠ some 48) := by
  induction u using Nat.strongRecOn with
  | _ u ih =>
    have dig (k : Nat) (hk : k < 10) : isDig (UInt8.ofNat (48 + k)) = true ∧ (UInt8.ofNat (48 + k)).toNat = 48 + k := by
      have e : (UInt8.ofNat (48 + k)).toNat = 48 + k := by rw [UInt8.toNat_ofNat']; omega
      exact ⟨isDig_iff.2 (by omega), e⟩
    rw [Lib.decDigits]
    by_cases h : u < 10
    · rw [dif_pos h]
      obtain ⟨d1, d2⟩ := dig u h
      refine ⟨by simp, by rw [List.all_cons, d1]; rfl, by show 0 * 10 + ((UInt8.ofNat (48 + u)).toNat - 48) = u; rw [d2]; omega, .inr rfl, fun h1 e => ?_⟩
      have e' : UInt8.ofNat (48 + u) = 48 := Option.some.inj e
      have := congrArg UInt8.toNat e'
      rw [d2] at this
      have : 48 + u = 48 := this
      omega
    · rw [dif_neg h]
      obtain ⟨i1, i2, i3, i4, i5⟩ := ih (u / 10) (by omega)
      obtain ⟨d1, d2⟩ := dig (u % 10) (by omega)
      refine ⟨by simp, by rw [List.all_append, i2, List.all_cons, d1]; rfl, ?_, ?_, fun _ => ?_⟩
      · unfold valD at i3 ⊢
        rw [valFrom_snoc, i3, d2]; omega
      · left; rw [head_append_ne i1]; exact i5 (by omega)
      · rw [head_append_ne i1]; exact i5 (by omega)

def isNeg : List UInt8 → Bool | c :: _ => c == 45 | [] => false
def digs (w : List UInt8) : List UInt8 := if isNeg w = true then w.tail else w
/-- The number that is so written, with at most so many digits. -/
def readNum (most : Nat) (w : List UInt8) : Option Int :=
  if (digs w).length < 1 ∨ most < (digs w).length then none
  else if (digs w).all isDig = false then none
  else if (digs w).head? = some 48 ∧ (isNeg w = true ∨ 1 < w.length) then none
  else some (if isNeg w = true then -(valD (digs w) : Int) else (valD (digs w) : Int))

theorem readNum_itoa {most : Nat} {w : List UInt8} {n : Int} (h : readNum most w = some n) : w = Lib.itoa n := by
  unfold readNum at h
  split at h
  · cases h
  rename_i h1
  split at h
  · cases h
  rename_i h2
  split at h
  · cases h
  rename_i h3
  have hall : (digs w).all isDig = true := by simpa using h2
  have hne : digs w ≠ [] := by intro e; rw [e] at h1; simp at h1
  injection h with h
  by_cases hn : isNeg w = true
  · rw [if_pos hn] at h
    have hh : (digs w).head? ≠ some 48 := fun e => h3 ⟨e, .inl hn⟩
    obtain ⟨e1, e2⟩ := decDigits_val _ _ rfl hne hall (.inl hh)
    have e3 := e2 hh
    rw [← h, Lib.itoa_neg _ e3, e1]
    cases w with
    | nil => simp [isNeg] at hn
    | cons c r =>
      have : c = 45 := by simpa [isNeg] using hn
      subst this
      unfold digs; rw [if_pos hn]; rfl
  · rw [if_neg hn] at h
    have hw : digs w = w := by unfold digs; rw [if_neg hn]
    rw [hw] at h3 hne hall h
    have hh : w.head? ≠ some 48 ∨ w.length = 1 := by
      by_cases e : w.head? = some 48
      · right
        have : ¬ 1 < w.length := fun h5 => h3 ⟨e, .inr h5⟩
        have := List.length_pos_iff.2 hne
        omega
      · exact .inl e
    obtain ⟨e1, _⟩ := decDigits_val _ _ rfl hne hall hh
    rw [← h, Lib.itoa_nonneg, e1]

theorem isNeg_digit {l : List UInt8} (hne : l ≠ []) (h : l.all isDig = true) : isNeg l = false := by
  cases l with
  | nil => exact absurd rfl hne
  | cons c r =>
    have h1 : isDig c = true ∧ r.all isDig = true := by simpa using h
    have := isDig_iff.1 h1.1
    unfold isNeg
    rw [beq_eq_false_iff_ne]
    intro e
    subst e
    have : (45 : UInt8).toNat = 45 := rfl
    omega

theorem decDigits_len {u k : Nat} (h : u < 10 ^ k) (hk : 1 ≤ k) : (Lib.decDigits u).length ≤ k := by
  induction k generalizing u with
  | zero => omega
  | succ k ih =>
    rw [Lib.decDigits]
    by_cases h10 : u < 10
    · rw [dif_pos h10]; simp
    · rw [dif_neg h10]
      have hk1 : 1 ≤ k := by
        rcases Nat.eq_zero_or_pos k with rfl | hk'
        · simp at h; omega
        · exact hk'
      have := ih (u := u / 10) (by rw [Nat.pow_succ] at h; omega) hk1
      simp; omega

theorem readNum_of (n : Int) (h0 : -1000000000 ≤ n) (h1 : n ≤ 1000000000) : readNum 10 (Lib.itoa n) = some n := by
  by_cases hn : 0 ≤ n
  · obtain ⟨u, rfl⟩ := Int.eq_ofNat_of_zero_le hn
    obtain ⟨d1, d2, d3, d4, d5⟩ := decDigits_ok u
    have hl := decDigits_len (u := u) (k := 10) (by omega) (by omega)
    have hp := List.length_pos_iff.2 d1
    rw [Lib.itoa_nonneg]
    have hN := isNeg_digit d1 d2
    have hD : digs (Lib.decDigits u) = Lib.decDigits u := by unfold digs; rw [hN]; rfl
    unfold readNum
    rw [hD, hN, d2, d3, if_neg (by omega), if_neg (by simp), if_neg]
    · simp
    · rintro ⟨e, e2 | e2⟩
      · cases e2
      · rcases d4 with d4 | d4
        · exact d4 e
        · omega
  · obtain ⟨u, rfl⟩ : ∃ u : Nat, n = -(u : Int) := ⟨n.natAbs, by omega⟩
    obtain ⟨d1, d2, d3, d4, d5⟩ := decDigits_ok u
    have hl := decDigits_len (u := u) (k := 10) (by omega) (by omega)
    have hp := List.length_pos_iff.2 d1
    rw [Lib.itoa_neg u (by omega)]
    have hN : isNeg (45 :: Lib.decDigits u) = true := rfl
    have hD : digs (45 :: Lib.decDigits u) = Lib.decDigits u := by unfold digs; rw [if_pos hN]; rfl
    unfold readNum
    rw [hD, hN, d2, d3, if_neg (by omega), if_neg (by simp), if_neg]
    · simp
    · rintro ⟨e, _⟩
      exact d5 (by omega) e

/-- What ParseInt at base 10 and 64 bits gives, if it gives a number. -/
def parseI (w : List UInt8) : Option Int := match Lib.parseIntB 64 w with | .ok v => some v | _ => none
theorem parseM_digits (l : List UInt8) (hd : l.all isDig = true) : ∀ a, valFrom a l ≤ 100000000000000 → Lib.parseUintM (2 ^ 64 - 1) a l = .ok (valFrom a l) := by
  induction l with
  | nil => intro a _; rfl
  | cons c l ih =>
    intro a h
    have h1 : isDig c = true ∧ l.all isDig = true := by simpa using hd
    have hc := isDig_iff.1 h1.1
    rw [valFrom_cons] at h ⊢
    have hge := valFrom_ge l (a * 10 + (c.toNat - 48))
    rw [Lib.parseUintM, if_pos hc, if_neg (by omega), if_neg (by omega)]
    exact ih h1.2 _ h
theorem parseI_itoa (n : Int) (h0 : -1000000000 ≤ n) (h1 : n ≤ 1000000000) : parseI (Lib.itoa n) = some n := by
  by_cases hn : 0 ≤ n
  · obtain ⟨u, rfl⟩ := Int.eq_ofNat_of_zero_le hn
    obtain ⟨d1, d2, d3, _, _⟩ := decDigits_ok u
    rw [Lib.itoa_nonneg]
    have hp := parseM_digits _ d2 0 (by unfold valD at d3; rw [d3]; omega)
    unfold valD at d3
    rw [d3] at hp
    unfold parseI Lib.parseIntB
    cases hx : Lib.decDigits u with
    | nil => exact absurd hx d1
    | cons c r =>
      rw [hx] at d2 hp
      have hcd : isDig c = true ∧ r.all isDig = true := by simpa using d2
      have hc := isDig_iff.1 hcd.1
      have hu : Lib.parseUintB 64 (c :: r) = .ok u := by unfold Lib.parseUintB; rw [if_neg (by simp)]; exact hp
      simp only
      rw [if_neg (by omega), hu]
      simp only
      rw [if_neg (by intro h; have := h.2; simp at this; omega), if_neg (by intro h; have := h.1; omega), if_neg (by omega)]
  · obtain ⟨u, rfl⟩ : ∃ u : Nat, n = -(u : Int) := ⟨n.natAbs, by omega⟩
    obtain ⟨d1, d2, d3, _, _⟩ := decDigits_ok u
    rw [Lib.itoa_neg u (by omega)]
    have hp := parseM_digits _ d2 0 (by unfold valD at d3; rw [d3]; omega)
    unfold valD at d3
    rw [d3] at hp
    have hu : Lib.parseUintB 64 (Lib.decDigits u) = .ok u := by unfold Lib.parseUintB; rw [if_neg d1]; exact hp
    unfold parseI Lib.parseIntB
    have h45 : (45 : UInt8).toNat = 45 := rfl
    simp only [h45]
    rw [if_pos (by simp), hu]
    simp only
    rw [if_neg (by intro h; exact h.1 trivial), if_neg (by intro h; have := h.2; simp at this; omega), if_pos trivial]

theorem itoa_no (n : Int) (x : UInt8) (hx : x ∈ Lib.itoa n) : x ≠ 32 := by
  unfold Lib.itoa at hx
  have key (u : Nat) (hm : x ∈ Lib.decDigits u) : x ≠ 32 := by
    have := isDig_iff.1 (List.all_eq_true.1 (decDigits_ok u).2.1 x hm)
    intro e; subst e
    have : (32 : UInt8).toNat = 32 := rfl
    omega
  split at hx
  · rcases List.mem_cons.1 hx with e | e
    · subst e; decide
    · exact key _ e
  · exact key _ hx

/-- The words between the bytes c. -/
def spl (c : UInt8) : List UInt8 → List (List UInt8)
  | [] => [[]]
  | b :: r => if b = c then [] :: spl c r else match spl c r with
    | [] => [[b]]
    | w :: ws => (b :: w) :: ws
theorem spl_ne (c : UInt8) (l : List UInt8) : spl c l ≠ [] := by
  cases l with
  | nil => simp [spl]
  | cons b r =>
    unfold spl
    split
    · simp
    · split <;> simp
theorem spl_cut (c : UInt8) : ∀ (a b : List UInt8), c ∉ a → spl c (a ++ c :: b) = a :: spl c b
  | [], b, _ => by simp [spl]
  | x :: a, b, h => by
    have hx : x ≠ c := fun e => h (by simp [e])
    have ha : c ∉ a := fun e => h (by simp [e])
    rw [List.cons_append, spl, if_neg hx, spl_cut c a b ha]
theorem spl_whole (c : UInt8) : ∀ (a : List UInt8), c ∉ a → spl c a = [a]
  | [], _ => rfl
  | x :: a, h => by
    have hx : x ≠ c := fun e => h (by simp [e])
    have ha : c ∉ a := fun e => h (by simp [e])
    rw [spl, if_neg hx, spl_whole c a ha]
theorem cat_cons (by_ w : List UInt8) (ws : List (List UInt8)) (h : ws ≠ []) : cat by_ (w :: ws) = w ++ by_ ++ cat by_ ws := by
  cases ws with
  | nil => exact absurd rfl h
  | cons v r => rw [cat]
theorem cat_spl (c : UInt8) : ∀ l : List UInt8, cat [c] (spl c l) = l
  | [] => rfl
  | b :: r => by
    have ih := cat_spl c r
    unfold spl
    split
    · rename_i e
      rw [cat_cons _ _ _ (spl_ne c r), ih, e]; rfl
    · split
      · rename_i e; exact absurd e (spl_ne c r)
      · rename_i w ws e
        rw [e] at ih
        cases ws with
        | nil => simp only [cat] at ih ⊢; rw [ih]
        | cons v u => rw [cat_cons _ _ _ (by simp)] at ih ⊢; rw [← ih]; rfl
theorem spl_cat (c : UInt8) : ∀ ws : List (List UInt8), ws ≠ [] → (∀ w ∈ ws, c ∉ w) → spl c (cat [c] ws) = ws
  | [], h, _ => absurd rfl h
  | [w], _, hw => by simpa [cat] using spl_whole c w (hw w (by simp))
  | w :: v :: r, _, hw => by
    rw [cat_cons _ _ _ (by simp), List.append_assoc]
    show spl c (w ++ c :: cat [c] (v :: r)) = _
    rw [spl_cut c w _ (hw w (by simp)), spl_cat c (v :: r) (by simp) (fun x hx => hw x (by simp [hx]))]

/-- How the model reads a row; how the program does, from the words that SplitN gives it. -/
def specRead (s : List UInt8) : List Int × Bool :=
  if s = [45] then ([], true) else match (spl 32 s).mapM (readNum 10) with
    | none => ([], false)
    | some r => if rowOkB r = true then (r, true) else ([], false)
def implRead (s : List UInt8) (ws : List (List UInt8)) : List Int × Bool :=
  if s = [45] then ([], true) else match ws.mapM parseI with
    | none => ([], false)
    | some r => if showL r = s then (r, true) else ([], false)

theorem mapM_some {α β : Type} {f : α → Option β} : ∀ {l : List α} {r : List β}, l.mapM f = some r → l.length = r.length ∧ ∀ (i : Nat) (a : α) (b : β), l[i]? = some a → r[i]? = some b → f a = some b
  | [], r, h => by
    have : r = [] := by simpa using h.symm
    subst this; exact ⟨rfl, by simp⟩
  | a :: l, r, h => by
    simp only [List.mapM_cons, Option.bind_eq_bind, Option.bind_eq_some_iff, Option.pure_def, Option.some.injEq] at h
    obtain ⟨b, hb, r', hr', rfl⟩ := h
    obtain ⟨h1, h2⟩ := mapM_some hr'
    refine ⟨by simp [h1], fun i x y hx hy => ?_⟩
    cases i with
    | zero => simp at hx hy; subst hx; subst hy; exact hb
    | succ i => exact h2 i x y (by simpa using hx) (by simpa using hy)
theorem mapM_map {α β γ : Type} (f : β → Option γ) (g : α → β) (k : α → γ) : ∀ (l : List α), (∀ a ∈ l, f (g a) = some (k a)) → (l.map g).mapM f = some (l.map k)
  | [], _ => rfl
  | a :: l, h => by
    simp only [List.map_cons, List.mapM_cons, h a (by simp), mapM_map f g k l (fun x hx => h x (by simp [hx]))]
    rfl
theorem words_of {ws : List (List UInt8)} {r : List Int} (h : ws.mapM (readNum 10) = some r) : ws = r.map Lib.itoa := by
  obtain ⟨hl, hi⟩ := mapM_some h
  apply List.ext_getElem?
  intro i
  rw [List.getElem?_map]
  by_cases hlt : i < ws.length
  · have h1 : ws[i]? = some ws[i] := List.getElem?_eq_getElem hlt
    have h2 : r[i]? = some (r[i]'(by omega)) := List.getElem?_eq_getElem (by omega)
    rw [h1, h2]
    simp only [Option.map_some]
    rw [← readNum_itoa (hi i _ _ h1 h2)]
  · rw [List.getElem?_eq_none (by omega), List.getElem?_eq_none (by omega)]; rfl
theorem numbersL_cat (r : List Int) : numbersL r = cat [32] (r.map Lib.itoa) := by
  unfold numbersL catT numT
  rw [List.map_map]
  have e1 : bl ⟨#[32]⟩ = [32] := rfl
  have e2 : (bl ∘ fun n : Int => (⟨(Lib.itoa n).toArray⟩ : ByteArray)) = Lib.itoa := by
    funext n; exact bl_mk _
  rw [e1, e2]

/-- Both read alike, if the words are all words of the text wherever these are seven or fewer. -/
theorem read_same (s : List UInt8) (ws : List (List UInt8)) (hw : (spl 32 s).length ≤ 7 → ws = spl 32 s) : implRead s ws = specRead s := by
  unfold implRead specRead
  by_cases h45 : s = [45]
  · rw [if_pos h45, if_pos h45]
  rw [if_neg h45, if_neg h45]
  cases hs : (spl 32 s).mapM (readNum 10) with
  | some r =>
    simp only
    have hwords := words_of hs
    by_cases hok : rowOkB r = true
    · rw [if_pos hok]
      obtain ⟨hall, h6⟩ := rowOkB_all hok
      have hlen : (spl 32 s).length ≤ 7 := by rw [hwords]; simp; omega
      have hws := hw hlen
      have hp : ws.mapM parseI = some r := by
        rw [hws, hwords]
        have := mapM_map parseI Lib.itoa id r (fun n hn => by
          have := cell_of_B (List.all_eq_true.1 hall n hn)
          exact parseI_itoa n this.1 this.2)
        simpa using this
      have hr0 : r ≠ [] := by intro e; subst e; exact spl_ne 32 s (by simpa using hwords)
      have hshow : showL r = s := by
        unfold showL
        rw [if_pos hok, if_neg hr0, numbersL_cat, ← hwords, cat_spl]
      rw [hp]
      simp only
      rw [if_pos hshow]
    · rw [if_neg hok]
      cases hp : ws.mapM parseI with
      | none => rfl
      | some q =>
        simp only
        by_cases hq : showL q = s
        · exfalso
          have hqok : rowOkB q = true := by
            by_cases hq1 : rowOkB q = true
            · exact hq1
            · exfalso
              unfold showL at hq
              rw [if_neg hq1] at hq
              rw [← hq] at hwords hs
              have : (spl 32 []).mapM (readNum 10) = none := by rfl
              rw [this] at hs; cases hs
          obtain ⟨hall, h6⟩ := rowOkB_all hqok
          have hq0 : q ≠ [] := by
            intro e; subst e
            unfold showL at hq
            rw [if_pos hqok, if_pos rfl] at hq
            exact h45 hq.symm
          unfold showL at hq
          rw [if_pos hqok, if_neg hq0, numbersL_cat] at hq
          have hsp : spl 32 s = q.map Lib.itoa := by
            rw [← hq]
            refine spl_cat 32 _ (by simpa using hq0) (fun w hw' => ?_)
            obtain ⟨n, _, rfl⟩ := List.mem_map.1 hw'
            exact fun hm => itoa_no n 32 hm rfl
          have h3 : (spl 32 s).mapM (readNum 10) = some q := by
            rw [hsp]
            have := mapM_map (readNum 10) Lib.itoa id q (fun n hn => by
              have := cell_of_B (List.all_eq_true.1 hall n hn)
              exact readNum_of n this.1 this.2)
            simpa using this
          rw [h3] at hs
          injection hs with hs
          exact hok (hs ▸ hqok)
        · rw [if_neg hq]
  | none =>
    simp only
    cases hp : ws.mapM parseI with
    | none => rfl
    | some q =>
      simp only
      by_cases hq : showL q = s
      · exfalso
        have hqok : rowOkB q = true := by
          by_cases hq1 : rowOkB q = true
          · exact hq1
          · exfalso
            unfold showL at hq
            rw [if_neg hq1] at hq
            have h1 : ws = [[]] := by
              have := hw (by rw [← hq]; simp [spl])
              rw [this, ← hq]; rfl
            rw [h1] at hp
            have : ([[]] : List (List UInt8)).mapM parseI = none := by rfl
            rw [this] at hp; cases hp
        obtain ⟨hall, h6⟩ := rowOkB_all hqok
        have hq0 : q ≠ [] := by
          intro e; subst e
          unfold showL at hq
          rw [if_pos hqok, if_pos rfl] at hq
          exact h45 hq.symm
        unfold showL at hq
        rw [if_pos hqok, if_neg hq0, numbersL_cat] at hq
        have hsp : spl 32 s = q.map Lib.itoa := by
          rw [← hq]
          refine spl_cat 32 _ (by simpa using hq0) (fun w hw' => ?_)
          obtain ⟨n, _, rfl⟩ := List.mem_map.1 hw'
          exact fun hm => itoa_no n 32 hm rfl
        have h3 : (spl 32 s).mapM (readNum 10) = some q := by
          rw [hsp]
          have := mapM_map (readNum 10) Lib.itoa id q (fun n hn => by
            have := cell_of_B (List.all_eq_true.1 hall n hn)
            exact readNum_of n this.1 this.2)
          simpa using this
        rw [h3] at hs
        cases hs
      · rw [if_neg hq]
end Go.Proofs.YtejgofhpjkebbaaDoor
