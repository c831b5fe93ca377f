/- Texts joined: Deed1, DeedThy, CndThy, CndV, Arr0, CndL, QuietB: contracts and plain facts; each says its own below. -/
import Derived.Test.YtdpokfjempdchaaGreatDoorJC
import Derived.Test.YtdpokfjempdchaaGreatDoorJA
import Derived.Test.YtdpokfjempdchaaGreatDoorJB
import Derived.Test.YtdpokfjempdchaaGreatDoorJK1
import Derived.Lib.IndexMore
import Derived.Test.YtdpokfjempdchaaGreatDoorCnd0
import Derived.StillTailTactics
import Derived.Deep.QuietTactic
import Derived.BigQuiet
/- A deed: what DeedOk says of it, of the model and of the program; the laws' copies and sizes of one; nothing that lay has turned. -/
namespace Go.Proofs.YtdpokfjempdchaaGreatDoor
open Go.RowKit

/-- What a deed's kind asks of how many numbers there are. -/
def kindB (k : Int) (n : Nat) : Bool := if k = 1 ∨ k = 3 then decide (0 < n) else if k = 2 ∨ k = 4 ∨ k = 5 then decide (n = 1) else decide (k = 6) && decide (n = 0)
def deedB (k : Int) (s : ByteArray) (zs : List Int) : Bool := nameB s && (rowOkB zs && kindB k zs.length)
theorem deedB_name {k : Int} {s : ByteArray} {zs : List Int} (h : nameB s = false) : deedB k s zs = false := by unfold deedB; rw [h]; rfl
theorem deedB_row {k : Int} {s : ByteArray} {zs : List Int} (h : rowOkB zs = false) : deedB k s zs = false := by unfold deedB; rw [h, Bool.false_and, Bool.and_false]
theorem deedB_is {k : Int} {s : ByteArray} {zs : List Int} (h : nameB s = true) (h2 : rowOkB zs = true) : deedB k s zs = kindB k zs.length := by unfold deedB; rw [h, h2]; rfl
theorem deedB_all {k : Int} {s : ByteArray} {zs : List Int} (h : deedB k s zs = true) : nameB s = true ∧ rowOkB zs = true ∧ kindB k zs.length = true := by
  unfold deedB at h
  rw [Bool.and_eq_true, Bool.and_eq_true] at h
  exact h
theorem rowOkB_six {zs : List Int} (h : rowOkB zs = true) : zs.length ≤ 6 := by
  unfold rowOkB at h
  rw [Bool.and_eq_true] at h
  exact of_decide_eq_true h.2
theorem kind_cases (k : Int) : k = 1 ∨ k = 2 ∨ k = 3 ∨ k = 4 ∨ k = 5 ∨ k = 6 ∨ (k ≠ 1 ∧ k ≠ 2 ∧ k ≠ 3 ∧ k ≠ 4 ∧ k ≠ 5 ∧ k ≠ 6) := by omega

/-- A deed in memory: its value. -/
def deedV (k : Int) (s : ByteArray) (A : Option Addr) (n c : Nat) : Value := .agg #[.int .i64 k, .string s, .slice A n c]

def SzD (s : ByteArray) (n : Nat) (w : World) (e : Ending) (w' : World) : Prop :=
  ∃ x, e = .returned (.int .i64 x) ∧ (0 ≤ x → s.size ≤ 1048576 ∧ n ≤ 1048576) ∧ Below w.heap.size w w'
/-- A deed that the laws copied. -/
def DeedAt (k : Int) (s : ByteArray) (zs : List Int) (w : World) (e : Ending) (w' : World) : Prop :=
  ∃ g, e = .returned (.agg #[.int .i64 k, .string s, .slice (some ⟨g, 0, none⟩) zs.length zs.length]) ∧ w.heap.size ≤ g ∧ Blk w' g 2 (i64s zs) ∧ Below w.heap.size w w'
end Go.Proofs.YtdpokfjempdchaaGreatDoor

/- Deeds as texts: how they are shown, how the model and the program read them, and that both read alike: plain facts. -/
namespace Go.Proofs.YtdpokfjempdchaaGreatDoor
open Go.RowKit

/-- The word of a kind; the kind of a word. -/
def wordL (k : Int) : List UInt8 := if k = 1 then [112, 117, 116] else if k = 2 then [99, 117, 116] else if k = 3 then [115, 101, 116] else if k = 4 then [109, 117, 115, 116] else if k = 5 then [109, 97, 107, 101] else if k = 6 then [100, 114, 111, 112] else []
def kindL (l : List UInt8) : Int := if l = [112, 117, 116] then 1 else if l = [99, 117, 116] then 2 else if l = [115, 101, 116] then 3 else if l = [109, 117, 115, 116] then 4 else if l = [109, 97, 107, 101] then 5 else if l = [100, 114, 111, 112] then 6 else 0
theorem word_kind {l : List UInt8} (h : kindL l ≠ 0) : wordL (kindL l) = l := by
  unfold kindL at h ⊢
  repeat' split
  all_goals first | (rename_i h1; rw [h1]; rfl) | (simp_all)
theorem kind_word {k : Int} (h : 1 ≤ k) (h6 : k ≤ 6) : kindL (wordL k) = k := by
  obtain rfl | rfl | rfl | rfl | rfl | rfl : k = 1 ∨ k = 2 ∨ k = 3 ∨ k = 4 ∨ k = 5 ∨ k = 6 := by omega
  all_goals decide
theorem word_no (k : Int) : (32 : UInt8) ∉ wordL k := by
  unfold wordL
  repeat' split
  all_goals decide
theorem kindB_kind {k : Int} {n : Nat} (h : kindB k n = true) : 1 ≤ k ∧ k ≤ 6 ∧ (n = 0 ↔ k = 6) := by
  unfold kindB at h
  split at h
  · have := of_decide_eq_true h; omega
  · split at h
    · have := of_decide_eq_true h; omega
    · rw [Bool.and_eq_true] at h
      have h1 := of_decide_eq_true h.1
      have h2 := of_decide_eq_true h.2
      omega

/-- The text of a right deed; the text of any. -/
def deedL (k : Int) (n : List UInt8) (zs : List Int) : List UInt8 := wordL k ++ 32 :: (n ++ (if zs = [] then [] else 32 :: numbersL zs))
def showD (k : Int) (s : ByteArray) (zs : List Int) : List UInt8 := if deedB k s zs = true then deedL k (bl s) zs else []

def mkB (l : List UInt8) : ByteArray := ⟨l.toArray⟩
theorem mkB_bl (s : ByteArray) : mkB (bl s) = s := rfl
theorem bl_mkB (l : List UInt8) : bl (mkB l) = l := bl_mk l
theorem name_no32 {s : ByteArray} (h : nameB s = true) : (32 : UInt8) ∉ bl s ∧ bl s ≠ [] := by
  unfold nameB at h
  rw [Bool.and_eq_true] at h
  refine ⟨fun hx => ?_, fun e => ?_⟩
  · have := List.all_eq_true.1 h.1 32 hx
    revert this; decide
  · have h2 := h.2
    have : s.size = 0 := by rw [← bl_length, e]; rfl
    rw [this] at h2
    revert h2; decide

/-- What reading a text as a deed answers: kind, name, row, and whether it is one. -/
structure RD where
  k : Int
  n : ByteArray
  z : List Int
  ok : Bool
def zeroD : RD := ⟨0, ⟨#[]⟩, [], false⟩
def finD (k : Int) (n : ByteArray) (zs : List Int) : RD := if deedB k n zs = true then ⟨k, n, zs, true⟩ else zeroD
/-- The model's way. -/
def specReadD (s : List UInt8) : RD :=
  if (spl 32 s).length < 2 then zeroD
  else if (spl 32 s).length = 2 then finD (kindL ((spl 32 s)[0]?.getD [])) (mkB ((spl 32 s)[1]?.getD [])) []
  else if (specRead (cat [32] ((spl 32 s).drop 2))).2 = false ∨ (specRead (cat [32] ((spl 32 s).drop 2))).1 = [] then zeroD
  else finD (kindL ((spl 32 s)[0]?.getD [])) (mkB ((spl 32 s)[1]?.getD [])) (specRead (cat [32] ((spl 32 s).drop 2))).1
/-- The program's way. -/
def endD (s : List UInt8) (k : Int) (n : ByteArray) (zs : List Int) : RD := if deedB k n zs = true ∧ showD k n zs = s then ⟨k, n, zs, true⟩ else zeroD
def cutA (s : List UInt8) : List UInt8 := (Lib.cut s [32]).1
def cutR (s : List UInt8) : List UInt8 := (Lib.cut s [32]).2.1
def cutM (s : List UInt8) : Bool := (Lib.cut s [32]).2.2
def implReadD (s : List UInt8) : RD :=
  if cutM (cutR s) = true then
    (if (specRead (cutR (cutR s))).2 = true then endD s (kindL (cutA s)) (mkB (cutA (cutR s))) (specRead (cutR (cutR s))).1 else zeroD)
  else endD s (kindL (cutA s)) (mkB (cutA (cutR s))) []

theorem has_cut (c : UInt8) : ∀ l : List UInt8, c ∉ l ∨ ∃ a b, c ∉ a ∧ l = a ++ c :: b
  | [] => .inl (by simp)
  | x :: l => by
    by_cases hx : x = c
    · exact .inr ⟨[], l, by simp, by rw [hx]; rfl⟩
    · rcases has_cut c l with h | ⟨a, b, ha, rfl⟩
      · exact .inl (by simp only [List.mem_cons, not_or]; exact ⟨fun e => hx e.symm, h⟩)
      · exact .inr ⟨x :: a, b, by simp only [List.mem_cons, not_or]; exact ⟨fun e => hx e.symm, ha⟩, rfl⟩
theorem indexByte_no {c : UInt8} : ∀ {l : List UInt8}, c ∉ l → Lib.indexByte l c = -1
  | [], _ => rfl
  | x :: l, h => by
    have hx : x ≠ c := fun e => h (by simp [e])
    have hl : c ∉ l := fun e => h (by simp [e])
    unfold Lib.indexByte
    rw [indexByte_no hl]
    simp [hx]
theorem indexByte_at {c : UInt8} {b : List UInt8} : ∀ {a : List UInt8}, c ∉ a → Lib.indexByte (a ++ c :: b) c = a.length
  | [], _ => by simp [Lib.indexByte]
  | x :: a, h => by
    have hx : x ≠ c := fun e => h (by simp [e])
    have hl : c ∉ a := fun e => h (by simp [e])
    rw [List.cons_append]
    unfold Lib.indexByte
    rw [indexByte_at hl]
    have h1 : ((a.length : Int) == -1) = false := by rw [beq_eq_false_iff_ne]; omega
    simp [hx, h1]
theorem cut_no {c : UInt8} {l : List UInt8} (h : c ∉ l) : Lib.cut l [c] = (l, [], false) := by
  unfold Lib.cut
  rw [Lib.index_one, indexByte_no h, if_neg (by omega)]
theorem cut_at {c : UInt8} {a b : List UInt8} (h : c ∉ a) : Lib.cut (a ++ c :: b) [c] = (a, b, true) := by
  unfold Lib.cut
  rw [Lib.index_one, indexByte_at h, if_pos (by omega)]
  simp

theorem read_shown {s : List UInt8} {zs : List Int} (h : specRead s = (zs, true)) (h0 : zs ≠ []) : numbersL zs = s := by
  unfold specRead at h
  split at h
  · exact absurd (by simpa using (congrArg Prod.fst h).symm) h0
  · split at h
    · simp at h
    · rename_i r hr
      split at h
      · have e : r = zs := by simpa using h
        subst e
        rw [numbersL_cat, ← words_of hr, cat_spl]
      · simp at h
theorem deedB_nil {k : Int} {n : ByteArray} (h : deedB k n [] = true) : k = 6 := ((kindB_kind (deedB_all h).2.2).2.2).1 rfl
theorem specReadD_0 {s : List UInt8} (h : (32 : UInt8) ∉ s) : specReadD s = zeroD := by
  unfold specReadD
  rw [spl_whole 32 s h, if_pos (by simp)]
theorem specReadD_1 {a b : List UInt8} (ha : (32 : UInt8) ∉ a) (hb : (32 : UInt8) ∉ b) : specReadD (a ++ 32 :: b) = finD (kindL a) (mkB b) [] := by
  unfold specReadD
  rw [spl_cut 32 a b ha, spl_whole 32 b hb, if_neg (by simp), if_pos (by simp)]
  rfl
theorem specReadD_2 {a n c : List UInt8} (ha : (32 : UInt8) ∉ a) (hn : (32 : UInt8) ∉ n) : specReadD (a ++ 32 :: (n ++ 32 :: c)) = if (specRead c).2 = false ∨ (specRead c).1 = [] then zeroD else finD (kindL a) (mkB n) (specRead c).1 := by
  have hc : 0 < (spl 32 c).length := List.length_pos_iff.2 (spl_ne 32 c)
  have hd : cat [32] ((a :: n :: spl 32 c).drop 2) = c := cat_spl 32 c
  unfold specReadD
  rw [spl_cut 32 a _ ha, spl_cut 32 n c hn, if_neg (by simp only [List.length_cons]; omega), if_neg (by simp only [List.length_cons]; omega), hd]
  rfl
theorem implReadD_0 {s : List UInt8} (h : (32 : UInt8) ∉ s) : implReadD s = zeroD := by
  have h2 : Lib.cut [] [(32 : UInt8)] = ([], [], false) := cut_no (by simp)
  have e1 : cutR s = [] := by unfold cutR; rw [cut_no h]
  unfold implReadD
  rw [e1, if_neg (by unfold cutM; rw [h2]; simp)]
  unfold endD
  rw [if_neg]
  rintro ⟨h3, _⟩
  refine (name_no32 (deedB_all h3).1).2 ?_
  unfold cutA
  rw [h2]; rfl
theorem implReadD_1 {a b : List UInt8} (ha : (32 : UInt8) ∉ a) (hb : (32 : UInt8) ∉ b) : implReadD (a ++ 32 :: b) = endD (a ++ 32 :: b) (kindL a) (mkB b) [] := by
  have e1 : cutR (a ++ 32 :: b) = b := by unfold cutR; rw [cut_at ha]
  have e2 : cutA (a ++ 32 :: b) = a := by unfold cutA; rw [cut_at ha]
  have e3 : cutA b = b := by unfold cutA; rw [cut_no hb]
  unfold implReadD
  rw [e1, e2, e3, if_neg (by unfold cutM; rw [cut_no hb]; simp)]
theorem implReadD_2 {a n c : List UInt8} (ha : (32 : UInt8) ∉ a) (hn : (32 : UInt8) ∉ n) : implReadD (a ++ 32 :: (n ++ 32 :: c)) = if (specRead c).2 = true then endD (a ++ 32 :: (n ++ 32 :: c)) (kindL a) (mkB n) (specRead c).1 else zeroD := by
  have e1 : cutR (a ++ 32 :: (n ++ 32 :: c)) = n ++ 32 :: c := by unfold cutR; rw [cut_at ha]
  have e2 : cutA (a ++ 32 :: (n ++ 32 :: c)) = a := by unfold cutA; rw [cut_at ha]
  have e3 : cutA (n ++ 32 :: c) = n := by unfold cutA; rw [cut_at hn]
  have e4 : cutR (n ++ 32 :: c) = c := by unfold cutR; rw [cut_at hn]
  unfold implReadD
  rw [e1, e2, e3, e4, if_pos (by unfold cutM; rw [cut_at hn])]
theorem readD_same (s : List UInt8) : implReadD s = specReadD s := by
  rcases has_cut 32 s with h | ⟨a, b, ha, rfl⟩
  · rw [implReadD_0 h, specReadD_0 h]
  · rcases has_cut 32 b with hb | ⟨n, c, hn, rfl⟩
    · rw [implReadD_1 ha hb, specReadD_1 ha hb]
      unfold endD finD
      by_cases hd : deedB (kindL a) (mkB b) [] = true
      · have hs : showD (kindL a) (mkB b) [] = a ++ 32 :: b := by
          unfold showD deedL
          rw [if_pos hd, bl_mkB, word_kind (by rw [deedB_nil hd]; decide), if_pos rfl, List.append_nil]
        rw [if_pos hd, if_pos ⟨hd, hs⟩]
      · rw [if_neg hd, if_neg (fun h => hd h.1)]
    · rw [implReadD_2 ha hn, specReadD_2 ha hn]
      obtain ⟨zs, ok, hp⟩ : ∃ zs ok, specRead c = (zs, ok) := ⟨_, _, rfl⟩
      rw [hp]
      cases ok with
      | false => rw [if_neg (by simp), if_pos (.inl rfl)]
      | true =>
        rw [if_pos rfl]
        show endD _ _ _ zs = (if true = false ∨ zs = [] then zeroD else finD _ _ zs)
        by_cases hz : zs = []
        · rw [if_pos (.inr hz)]
          subst hz
          unfold endD
          rw [if_neg]
          rintro ⟨h1, h2⟩
          unfold showD deedL at h2
          rw [if_pos h1, bl_mkB, word_kind (by rw [deedB_nil h1]; decide), if_pos rfl, List.append_nil] at h2
          have := congrArg List.length h2
          simp only [List.length_append, List.length_cons] at this
          omega
        · rw [if_neg (by simp [hz])]
          unfold endD finD
          by_cases hd : deedB (kindL a) (mkB n) zs = true
          · have hs : showD (kindL a) (mkB n) zs = a ++ 32 :: (n ++ 32 :: c) := by
              unfold showD deedL
              have hk := kindB_kind (deedB_all hd).2.2
              rw [if_pos hd, bl_mkB, word_kind (by omega), if_neg hz, read_shown hp hz]
            rw [if_pos hd, if_pos ⟨hd, hs⟩]
          · rw [if_neg hd, if_neg (fun h => hd h.1)]

/-- What a right row shows as is read as that row. -/
theorem read_numbers {zs : List Int} (h : rowOkB zs = true) (h0 : zs ≠ []) : specRead (numbersL zs) = (zs, true) := by
  obtain ⟨hall, _⟩ := rowOkB_all h
  have hw : spl 32 (numbersL zs) = zs.map Lib.itoa := by
    rw [numbersL_cat]
    exact spl_cat 32 _ (by simpa using h0) (fun w hw => by
      obtain ⟨n, _, rfl⟩ := List.mem_map.1 hw
      exact fun hx => itoa_no n 32 hx rfl)
  have hm : (spl 32 (numbersL zs)).mapM (readNum 10) = some zs := by
    rw [hw]
    have := mapM_map (readNum 10) Lib.itoa id zs (fun n hn => by
      have := cell_of_B (List.all_eq_true.1 hall n hn)
      exact readNum_of n this.1 this.2)
    simpa using this
  unfold specRead
  rw [if_neg ?_, hm]
  · simp only; rw [if_pos h]
  · intro e
    rw [e] at hm
    have : (spl 32 [45]).mapM (readNum 10) = none := by rfl
    rw [this] at hm; cases hm
/-- A deed is read from its text. -/
theorem readD_show {k : Int} {s : ByteArray} {zs : List Int} (h : deedB k s zs = true) : specReadD (showD k s zs) = ⟨k, s, zs, true⟩ := by
  obtain ⟨h1, h2, h3⟩ := deedB_all h
  obtain ⟨k1, k6, kz⟩ := kindB_kind h3
  obtain ⟨n32, _⟩ := name_no32 h1
  unfold showD deedL
  rw [if_pos h]
  by_cases hz : zs = []
  · subst hz
    rw [if_pos rfl, List.append_nil, specReadD_1 (word_no k) n32]
    unfold finD
    rw [kind_word k1 k6, mkB_bl, if_pos h]
  · rw [if_neg hz, specReadD_2 (word_no k) n32, read_numbers h2 hz, if_neg (by simp [hz])]
    unfold finD
    rw [kind_word k1 k6, mkB_bl, if_pos h]
/-- What was read is the deed whose text it is. -/
theorem show_readD {s : List UInt8} (h : (specReadD s).ok = true) : deedB (specReadD s).k (specReadD s).n (specReadD s).z = true ∧ showD (specReadD s).k (specReadD s).n (specReadD s).z = s := by
  rw [← readD_same] at h ⊢
  unfold implReadD at h ⊢
  have key : ∀ k n zs, (endD s k n zs).ok = true → deedB (endD s k n zs).k (endD s k n zs).n (endD s k n zs).z = true ∧ showD (endD s k n zs).k (endD s k n zs).n (endD s k n zs).z = s := by
    intro k n zs hh
    unfold endD at hh ⊢
    split at hh
    · rename_i h1; rw [if_pos h1]; exact h1
    · exact absurd hh (by simp [zeroD])
  split at h
  · split at h
    · rename_i h1 h2
      rw [if_pos h1, if_pos h2]
      exact key _ _ _ h
    · exact absurd h (by simp [zeroD])
  · rename_i h1
    rw [if_neg h1]
    exact key _ _ _ h
end Go.Proofs.YtdpokfjempdchaaGreatDoor

/- Conds as texts: how they are shown, how the model reads them, how the program does, and that both read alike. Nothing of the program is named. -/
namespace Go.Proofs.YtdpokfjempdchaaGreatDoor
open Go.RowKit

def opL (o : Int) : UInt8 := if o = 1 then 60 else if o = 2 then 61 else 62
def opC (b : UInt8) : Int := if b = 60 then 1 else if b = 61 then 2 else if b = 62 then 3 else 0
def otherL (c : Cnd) : List UInt8 := if c.i = true then Lib.itoa c.t else 36 :: Lib.itoa c.t
def showC (c : Cnd) : List UInt8 := 36 :: (Lib.itoa c.p ++ opL c.o :: otherL c)
def showCs (l : List Cnd) : List UInt8 := if rightB l = true then (if l = [] then [45] else cat [44] (l.map showC)) else []

theorem opC_opL {o : Int} (h1 : 1 ≤ o) (h3 : o ≤ 3) : opC (opL o) = o := by
  have : o = 1 ∨ o = 2 ∨ o = 3 := by omega
  rcases this with rfl | rfl | rfl <;> rfl
theorem opL_opC {b : UInt8} (h : 1 ≤ opC b) : opL (opC b) = b := by
  unfold opC at h ⊢
  split
  · rename_i e; rw [e]; rfl
  · split
    · rename_i e; rw [e]; rfl
    · split
      · rename_i e; rw [e]; rfl
      · rename_i h1 h2 h3
        rw [if_neg h1, if_neg h2, if_neg h3] at h
        omega
theorem itoa_in (n : Int) (x : UInt8) (hx : x ∈ Lib.itoa n) : x = 45 ∨ isDig x = true := by
  unfold Lib.itoa at hx
  split at hx
  · rcases List.mem_cons.1 hx with e | e
    · exact .inl e
    · exact .inr (List.all_eq_true.1 (decDigits_ok _).2.1 x e)
  · exact .inr (List.all_eq_true.1 (decDigits_ok _).2.1 x hx)
theorem itoa_not (n : Int) {c : UInt8} (h1 : c ≠ 45) (h2 : isDig c = false) : c ∉ Lib.itoa n := fun h => by
  rcases itoa_in n c h with e | e
  · exact h1 e
  · rw [h2] at e; cases e
theorem showC_in (c : Cnd) (x : UInt8) (hx : x ∈ showC c) : x = 36 ∨ x = opL c.o ∨ x = 45 ∨ isDig x = true := by
  unfold showC otherL at hx
  rcases List.mem_cons.1 hx with e | e
  · exact .inl e
  rcases List.mem_append.1 e with e | e
  · exact .inr (.inr (itoa_in _ _ e))
  rcases List.mem_cons.1 e with e | e
  · exact .inr (.inl e)
  split at e
  · exact .inr (.inr (itoa_in _ _ e))
  · rcases List.mem_cons.1 e with e | e
    · exact .inl e
    · exact .inr (.inr (itoa_in _ _ e))
theorem opL_is (o : Int) : opL o = 60 ∨ opL o = 61 ∨ opL o = 62 := by
  unfold opL
  split
  · exact .inl rfl
  · split
    · exact .inr (.inl rfl)
    · exact .inr (.inr rfl)
theorem showC_no (c : Cnd) : (44 : UInt8) ∉ showC c := fun h => by
  rcases showC_in c _ h with e | e | e | e
  · exact absurd e (by decide)
  · rcases opL_is c.o with h | h | h <;> (rw [h] at e; exact absurd e (by decide))
  · exact absurd e (by decide)
  · exact absurd e (by decide)

/-- A cond of its text, as the model reads it. -/
def readC (s : List UInt8) : Option Cnd :=
  match s with
  | a :: b :: o :: d :: r =>
    if a = 36 then
      match readNum 9 [b], readNum 9 (if d = 36 then r else d :: r) with
      | some p, some n => if condB ⟨p, opC o, n, decide (d ≠ 36)⟩ = true then some ⟨p, opC o, n, decide (d ≠ 36)⟩ else none
      | _, _ => none
    else none
  | _ => none
def specReadCs (s : List UInt8) : List Cnd × Bool :=
  if s = [45] then ([], true) else match (spl 44 s).mapM readC with
    | none => ([], false)
    | some l => if l.length ≤ 3 then (l, true) else ([], false)
/-- What stands on a side of an op: a number, and whether it is a place. -/
def readI (t : List UInt8) : Option (Int × Bool) :=
  match t with
  | 36 :: r => (parseI r).map fun n => (n, true)
  | _ => (parseI t).map fun n => (n, false)
def bothI (o : Int) (t : List UInt8 × List UInt8) : Option Cnd :=
  match readI t.1, readI t.2 with
  | some (p, _), some (n, q) => some ⟨p, o, n, !q⟩
  | _, _ => none
/-- A cond of its text, as the program reads it (it asks at the end whether it is shown so). -/
def implC (s : List UInt8) : Option Cnd :=
  if (60 : UInt8) ∈ s then bothI 1 ((Lib.cut s [60]).1, (Lib.cut s [60]).2.1)
  else if (61 : UInt8) ∈ s then bothI 2 ((Lib.cut s [61]).1, (Lib.cut s [61]).2.1)
  else if (62 : UInt8) ∈ s then bothI 3 ((Lib.cut s [62]).1, (Lib.cut s [62]).2.1)
  else none
def implReadCs (s : List UInt8) (ws : List (List UInt8)) : List Cnd × Bool :=
  if s = [45] then ([], true) else match ws.mapM implC with
    | none => ([], false)
    | some l => if showCs l = s then (l, true) else ([], false)

theorem itoa_one {p : Int} (h0 : 0 ≤ p) (h5 : p ≤ 5) : ∃ b, Lib.itoa p = [b] ∧ b ≠ 36 := by
  obtain ⟨u, rfl⟩ := Int.eq_ofNat_of_zero_le h0
  refine ⟨UInt8.ofNat (48 + u), ?_, ?_⟩
  · rw [Lib.itoa_nonneg, Lib.decDigits, dif_pos (by omega)]
  · have : u = 0 ∨ u = 1 ∨ u = 2 ∨ u = 3 ∨ u = 4 ∨ u = 5 := by omega
    rcases this with rfl | rfl | rfl | rfl | rfl | rfl <;> decide
theorem readNum_small {n : Int} (h0 : -1000 ≤ n) (h1 : n ≤ 1000) : readNum 9 (Lib.itoa n) = some n := by
  by_cases hn : 0 ≤ n
  · obtain ⟨u, rfl⟩ := Int.eq_ofNat_of_zero_le hn
    obtain ⟨d1, d2, d3, d4, d5⟩ := decDigits_ok u
    have hl := decDigits_len (u := u) (k := 9) (by omega) (by omega)
    have hp := List.length_pos_iff.2 d1
    rw [Lib.itoa_nonneg]
    have hN := isNeg_digit d1 d2
    have hD : digs (Lib.decDigits u) = Lib.decDigits u := by unfold digs; rw [hN]; rfl
    unfold readNum
    rw [hD, hN, d2, d3, if_neg (by omega), if_neg (by simp), if_neg]
    · simp
    · rintro ⟨e, e2 | e2⟩
      · cases e2
      · rcases d4 with d4 | d4
        · exact d4 e
        · omega
  · obtain ⟨u, rfl⟩ : ∃ u : Nat, n = -(u : Int) := ⟨n.natAbs, by omega⟩
    obtain ⟨d1, d2, d3, d4, d5⟩ := decDigits_ok u
    have hl := decDigits_len (u := u) (k := 9) (by omega) (by omega)
    have hp := List.length_pos_iff.2 d1
    rw [Lib.itoa_neg u (by omega)]
    have hN : isNeg (45 :: Lib.decDigits u) = true := rfl
    have hD : digs (45 :: Lib.decDigits u) = Lib.decDigits u := by unfold digs; rw [if_pos hN]; rfl
    unfold readNum
    rw [hD, hN, d2, d3, if_neg (by omega), if_neg (by simp), if_neg]
    · simp
    · rintro ⟨e, _⟩
      exact d5 (by omega) e
theorem itoa_cons (n : Int) : ∃ d r, Lib.itoa n = d :: r ∧ d ≠ 36 := by
  cases h : Lib.itoa n with
  | nil => exact absurd (itoa_pos n) (by rw [h]; simp)
  | cons d r =>
    refine ⟨d, r, rfl, fun e => ?_⟩
    exact itoa_not n (c := 36) (by decide) (by decide) (by rw [h, e]; simp)
theorem condB_other {c : Cnd} (h : condB c = true) : -1000 ≤ c.t ∧ c.t ≤ 1000 := by
  rw [condB_iff] at h
  rcases h.2.2 with h | h <;> omega
/-- The model reads what is shown of a right cond, -/
theorem readC_show {c : Cnd} (h : condB c = true) : readC (showC c) = some c := by
  obtain ⟨hp, ho, ht⟩ := condB_iff.1 h
  obtain ⟨b, hb, _⟩ := itoa_one hp.1 hp.2
  obtain ⟨d, r, hd, hd36⟩ := itoa_cons c.t
  have hx := condB_other h
  have hp9 : readNum 9 [b] = some c.p := by rw [← hb]; exact readNum_small (by omega) (by omega)
  have hn9 : readNum 9 (d :: r) = some c.t := by rw [← hd]; exact readNum_small hx.1 hx.2
  unfold showC otherL
  rw [hb, hd]
  obtain ⟨p, o, t, i⟩ := c
  cases i with
  | true =>
    show readC (36 :: b :: opL o :: d :: r) = _
    unfold readC
    simp only [if_true, if_neg hd36]
    rw [hp9, hn9]
    simp only
    rw [opC_opL ho.1 ho.2, decide_eq_true hd36, if_pos h]
  | false =>
    show readC (36 :: b :: opL o :: 36 :: d :: r) = _
    unfold readC
    simp only [if_true]
    rw [hp9, hn9]
    simp only
    rw [opC_opL ho.1 ho.2]
    simp only [ne_eq, not_true_eq_false, decide_false]
    rw [if_pos h]
/-- and nothing else. -/
theorem show_readC {s : List UInt8} {c : Cnd} (h : readC s = some c) : condB c = true ∧ showC c = s := by
  unfold readC at h
  split at h
  · rename_i a b o d r
    split at h
    · rename_i ha
      subst ha
      split at h
      · rename_i p n hp hn
        split at h
        · rename_i hc
          injection h with h
          subst h
          refine ⟨hc, ?_⟩
          obtain ⟨_, ho, _⟩ := condB_iff.1 hc
          have e1 := readNum_itoa hp
          have e2 := readNum_itoa hn
          unfold showC otherL
          simp only
          rw [← e1, opL_opC ho.1, ← e2]
          by_cases hd : d = 36
          · simp [hd]
          · simp [hd]
        · cases h
      · cases h
    · cases h
  · cases h

theorem parseI_small {n : Int} (h0 : -1000 ≤ n) (h1 : n ≤ 1000) : parseI (Lib.itoa n) = some n := parseI_itoa n (by omega) (by omega)
theorem readI_place {n : Int} (h0 : -1000 ≤ n) (h1 : n ≤ 1000) : readI (36 :: Lib.itoa n) = some (n, true) := by
  show (parseI (Lib.itoa n)).map (fun n => (n, true)) = _
  rw [parseI_small h0 h1]; rfl
theorem readI_number {n : Int} (h0 : -1000 ≤ n) (h1 : n ≤ 1000) : readI (Lib.itoa n) = some (n, false) := by
  obtain ⟨d, r, hd, hd36⟩ := itoa_cons n
  have e := parseI_small h0 h1
  rw [hd] at e ⊢
  unfold readI
  split
  · rename_i h
    injection h with h1 _
    exact absurd h1 hd36
  · rw [e]; rfl
theorem bothI_show {c : Cnd} (h : condB c = true) : bothI c.o (36 :: Lib.itoa c.p, otherL c) = some c := by
  obtain ⟨hp, ho, ht⟩ := condB_iff.1 h
  have hx := condB_other h
  obtain ⟨p, o, t, i⟩ := c
  unfold bothI otherL
  simp only at *
  rw [readI_place (by omega) (by omega)]
  cases i with
  | true => rw [if_pos rfl, readI_number hx.1 hx.2]; rfl
  | false => rw [if_neg (by simp), readI_place hx.1 hx.2]; rfl
theorem showC_has (c : Cnd) : opL c.o ∈ showC c := by unfold showC; simp
theorem showC_ahead (c : Cnd) {b : UInt8} (h1 : b ≠ 36) (h2 : b ≠ 45) (h3 : isDig b = false) : b ∉ 36 :: Lib.itoa c.p := fun h => by
  rcases List.mem_cons.1 h with e | e
  · exact h1 e
  · exact itoa_not _ h2 h3 e
theorem showC_not (c : Cnd) {b : UInt8} (h1 : b ≠ 36) (h2 : b ≠ 45) (h3 : isDig b = false) (h4 : b ≠ opL c.o) : b ∉ showC c := fun h => by
  rcases showC_in c _ h with e | e | e | e
  · exact h1 e
  · exact h4 e
  · exact h2 e
  · rw [h3] at e; cases e
theorem implC_show {c : Cnd} (h : condB c = true) : implC (showC c) = some c := by
  obtain ⟨hp, ho, ht⟩ := condB_iff.1 h
  have hb := bothI_show h
  have hs : showC c = (36 :: Lib.itoa c.p) ++ opL c.o :: otherL c := rfl
  have hcut : ∀ b, b = opL c.o → Lib.cut (showC c) [b] = (36 :: Lib.itoa c.p, otherL c, true) := by
    intro b e
    subst e
    rw [hs]
    refine cut_at (showC_ahead c ?_ ?_ ?_)
    all_goals (rcases opL_is c.o with e | e | e <;> (rw [e]; decide))
  have : c.o = 1 ∨ c.o = 2 ∨ c.o = 3 := by omega
  unfold implC
  rcases this with e | e | e
  · have hL : opL c.o = 60 := by rw [e]; rfl
    rw [if_pos (by rw [← hL]; exact showC_has c), hcut 60 hL.symm, ← hb, e]
  · have hL : opL c.o = 61 := by rw [e]; rfl
    rw [if_neg (showC_not c (by decide) (by decide) (by decide) (by rw [hL]; decide)), if_pos (by rw [← hL]; exact showC_has c), hcut 61 hL.symm, ← hb, e]
  · have hL : opL c.o = 62 := by rw [e]; rfl
    rw [if_neg (showC_not c (by decide) (by decide) (by decide) (by rw [hL]; decide)), if_neg (showC_not c (by decide) (by decide) (by decide) (by rw [hL]; decide)), if_pos (by rw [← hL]; exact showC_has c), hcut 62 hL.symm, ← hb, e]
theorem parts_of {ws : List (List UInt8)} {l : List Cnd} (h : ws.mapM readC = some l) : ws = l.map showC ∧ ∀ c ∈ l, condB c = true := by
  obtain ⟨hl, hi⟩ := mapM_some h
  constructor
  · apply List.ext_getElem?
    intro i
    rw [List.getElem?_map]
    by_cases hlt : i < ws.length
    · have h1 : ws[i]? = some ws[i] := List.getElem?_eq_getElem hlt
      have h2 : l[i]? = some (l[i]'(by omega)) := List.getElem?_eq_getElem (by omega)
      rw [h1, h2]
      simp only [Option.map_some]
      rw [(show_readC (hi i _ _ h1 h2)).2]
    · rw [List.getElem?_eq_none (by omega), List.getElem?_eq_none (by omega)]; rfl
  · intro c hc
    obtain ⟨i, hlt, rfl⟩ := List.mem_iff_getElem.1 hc
    exact (show_readC (hi i _ _ (List.getElem?_eq_getElem (by omega)) (List.getElem?_eq_getElem hlt))).1
theorem readCs_of {l : List Cnd} (h : ∀ c ∈ l, condB c = true) : (l.map showC).mapM readC = some l ∧ (l.map showC).mapM implC = some l := by
  have h1 := mapM_map readC showC id l (fun c hc => readC_show (h c hc))
  have h2 := mapM_map implC showC id l (fun c hc => implC_show (h c hc))
  exact ⟨by simpa using h1, by simpa using h2⟩
theorem implC_nil : implC [] = none := by decide
theorem showCs_parts {l : List Cnd} {s : List UInt8} (h : showCs l = s) (h0 : s ≠ []) (h45 : s ≠ [45]) : (∀ c ∈ l, condB c = true) ∧ l.length ≤ 3 ∧ l ≠ [] ∧ spl 44 s = l.map showC := by
  unfold showCs at h
  split at h
  · rename_i hr
    split at h
    · exact absurd h.symm h45
    · rename_i hl
      obtain ⟨h1, h2⟩ := rightB_iff.1 hr
      refine ⟨h1, h2, hl, ?_⟩
      rw [← h, spl_cat 44 _ (by simpa using hl) (fun w hw => by obtain ⟨c, _, rfl⟩ := List.mem_map.1 hw; exact showC_no c)]
  · exact absurd h.symm h0
/-- Both read alike, if the words are all words of the text wherever these are three or fewer, and never none. -/
theorem readCs_same (s : List UInt8) (ws : List (List UInt8)) (hw : (spl 44 s).length ≤ 3 → ws = spl 44 s) : implReadCs s ws = specReadCs s := by
  unfold implReadCs specReadCs
  by_cases h45 : s = [45]
  · rw [if_pos h45, if_pos h45]
  rw [if_neg h45, if_neg h45]
  -- what the program finds shown so the model reads
  have hback : ∀ q, ws.mapM implC = some q → showCs q = s → (spl 44 s).mapM readC = some q ∧ q.length ≤ 3 := by
    intro q hq hs
    have h0 : s ≠ [] := by
      intro e
      have e1 : ws = [[]] := by rw [hw (by rw [e]; decide), e]; rfl
      rw [e1] at hq
      have : ([[]] : List (List UInt8)).mapM implC = none := by simp [implC_nil]
      rw [this] at hq; cases hq
    obtain ⟨h1, h2, h3, h4⟩ := showCs_parts hs h0 h45
    rw [h4]
    exact ⟨(readCs_of h1).1, h2⟩
  cases hs : (spl 44 s).mapM readC with
  | none =>
    simp only
    cases hq : ws.mapM implC with
    | none => rfl
    | some q =>
      simp only
      by_cases hsh : showCs q = s
      · have := (hback q hq hsh).1
        rw [hs] at this; cases this
      · rw [if_neg hsh]
  | some l =>
    simp only
    obtain ⟨e1, e2⟩ := parts_of hs
    by_cases h3 : l.length ≤ 3
    · rw [if_pos h3]
      have hws : ws = l.map showC := by rw [hw (by rw [e1]; simpa using h3), e1]
      rw [hws, (readCs_of e2).2]
      simp only
      have hl0 : l ≠ [] := by intro e; subst e; exact spl_ne 44 s (by simpa using e1)
      have hsh : showCs l = s := by
        unfold showCs
        rw [if_pos (rightB_iff.2 ⟨e2, h3⟩), if_neg hl0, ← e1, cat_spl]
      rw [if_pos hsh]
    · rw [if_neg h3]
      cases hq : ws.mapM implC with
      | none => rfl
      | some q =>
        simp only
        by_cases hsh : showCs q = s
        · obtain ⟨h4, h5⟩ := hback q hq hsh
          rw [hs] at h4
          injection h4 with h4
          subst h4
          exact absurd h5 h3
        · rw [if_neg hsh]
/-- What is read of a text is shown so, and what is shown of right conds is read. -/
theorem specReadCs_len (s : List UInt8) : (specReadCs s).1.length ≤ 3 := by
  unfold specReadCs
  split
  · simp
  · split
    · simp
    · split
      · assumption
      · simp
theorem readCs_right {s : List UInt8} {l : List Cnd} (h : specReadCs s = (l, true)) : rightB l = true ∧ showCs l = s := by
  unfold specReadCs at h
  split at h
  · rename_i e
    injection h with h _
    subst h
    exact ⟨rfl, by rw [e]; rfl⟩
  · split at h
    · injection h with _ h; cases h
    · rename_i q hq
      split at h
      · rename_i h3
        injection h with h _
        subst h
        obtain ⟨e1, e2⟩ := parts_of hq
        have hr := rightB_iff.2 ⟨e2, h3⟩
        have hl0 : q ≠ [] := by intro e; subst e; exact spl_ne 44 s (by simpa using e1)
        refine ⟨hr, ?_⟩
        unfold showCs
        rw [if_pos hr, if_neg hl0, ← e1, cat_spl]
      · injection h with _ h; cases h
theorem showC_ne45 (l : List Cnd) (h : l ≠ []) : cat [44] (l.map showC) ≠ [45] ∧ cat [44] (l.map showC) ≠ [] := by
  cases l with
  | nil => exact absurd rfl h
  | cons c r =>
    have hd : ∃ t, cat [44] ((c :: r).map showC) = 36 :: t := by
      cases r with
      | nil => exact ⟨_, rfl⟩
      | cons d q => exact ⟨_, rfl⟩
    obtain ⟨t, ht⟩ := hd
    rw [ht]
    exact ⟨fun e => by injection e with e _; exact absurd e (by decide), by simp⟩
theorem readCs_show {l : List Cnd} (h : rightB l = true) : specReadCs (showCs l) = (l, true) := by
  obtain ⟨h1, h3⟩ := rightB_iff.1 h
  unfold showCs
  rw [if_pos h]
  by_cases hl : l = []
  · rw [if_pos hl, hl]; rfl
  · rw [if_neg hl]
    unfold specReadCs
    rw [if_neg (showC_ne45 l hl).1, spl_cat 44 _ (by simpa using hl) (fun w hw => by obtain ⟨c, _, rfl⟩ := List.mem_map.1 hw; exact showC_no c), (readCs_of h1).1]
    simp only
    rw [if_pos h3]
theorem showCs_empty {l : List Cnd} (h : showCs l = []) : rightB l = false := by
  unfold showCs at h
  split at h
  · split at h
    · cases h
    · rename_i hl; exact absurd h (showC_ne45 l hl).2
  · simpa using ‹¬ rightB l = true›
end Go.Proofs.YtdpokfjempdchaaGreatDoor

/- The answer of a reader of one cond. No condition. -/
namespace Go.Proofs.YtdpokfjempdchaaGreatDoor
open Go.RowKit

def cndV (c : Cnd) : Value := .agg #[.int .i64 c.p, .int .i64 c.o, .int .i64 c.t, .bool c.i]
def cndAns (o : Option Cnd) : Value := match o with | some c => .tuple #[cndV c, .bool true] | none => .tuple #[cndV zeroC, .bool false]
end Go.Proofs.YtdpokfjempdchaaGreatDoor

/- A block whose cells are a function of the place. No program is spoken of. -/
namespace Go.Proofs.YtdpokfjempdchaaGreatDoor
open Go.RowKit

/-- A block that reads as a function of the place. -/
def arr (m : Nat) (f : Nat → Value) : Array Value := ((List.range m).map f).toArray
theorem arr_get {m q : Nat} (f : Nat → Value) (h : q < m) : (arr m f)[q]? = some (f q) := by simp [arr, h]
theorem arr_set (m p : Nat) (f : Nat → Value) (v : Value) : (arr m f).setIfInBounds p v = arr m (fun q => if q = p then v else f q) := by
  apply Array.ext_getElem?
  intro q
  unfold arr
  rw [Array.getElem?_setIfInBounds]
  by_cases hq : p = q
  · subst hq
    by_cases hm : p < m
    · simp [hm]
    · simp [hm]
  · have hq' : ¬ q = p := fun e => hq e.symm
    rw [if_neg hq]
    by_cases hm : q < m
    · simp [hm, hq']
    · simp [hm]
theorem arr_congr {m : Nat} {f g : Nat → Value} (h : ∀ q, q < m → f q = g q) : arr m f = arr m g := by
  unfold arr
  congr 1
  exact List.map_congr_left fun q hq => h q (List.mem_range.1 hq)
end Go.Proofs.YtdpokfjempdchaaGreatDoor

/- The laws' words on lists of conds: copies, sizes, comparing, marks; nothing that lay has turned. -/
namespace Go.Proofs.YtdpokfjempdchaaGreatDoor
open Go.RowKit

theorem Blk.c4 {w : World} {G : Nat} {t : TypeId} {a b c d : Value} (h : Blk w G t #[a, b, c, d]) : w.cell? ⟨G, 0, none⟩ = some a ∧ w.cell? ⟨G, 1, none⟩ = some b ∧ w.cell? ⟨G, 2, none⟩ = some c ∧ w.cell? ⟨G, 3, none⟩ = some d := by
  have d0 := h.cell 0
  have d1 := h.cell 1
  have d2 := h.cell 2
  have d3 := h.cell 3
  simp only [List.getElem?_toArray, List.getElem?_cons_zero, List.getElem?_cons_succ] at d0 d1 d2 d3
  exact ⟨d0, d1, d2, d3⟩
/-- The cells of a list of conds. -/
def ccell (l : List Cnd) (q : Nat) : Value := if q % 4 = 0 then .int .i64 (cx l (q / 4)).p else if q % 4 = 1 then .int .i64 (cx l (q / 4)).o else if q % 4 = 2 then .int .i64 (cx l (q / 4)).t else .bool (cx l (q / 4)).i
theorem ccell_0 (l : List Cnd) (j : Nat) : ccell l (j * 4) = .int .i64 (cx l j).p := by unfold ccell; rw [if_pos (by omega), show j * 4 / 4 = j by omega]
theorem ccell_1 (l : List Cnd) (j : Nat) : ccell l (j * 4 + 1) = .int .i64 (cx l j).o := by unfold ccell; rw [if_neg (by omega), if_pos (by omega), show (j * 4 + 1) / 4 = j by omega]
theorem ccell_2 (l : List Cnd) (j : Nat) : ccell l (j * 4 + 2) = .int .i64 (cx l j).t := by unfold ccell; rw [if_neg (by omega), if_neg (by omega), if_pos (by omega), show (j * 4 + 2) / 4 = j by omega]
theorem ccell_3 (l : List Cnd) (j : Nat) : ccell l (j * 4 + 3) = .bool (cx l j).i := by unfold ccell; rw [if_neg (by omega), if_neg (by omega), if_neg (by omega), show (j * 4 + 3) / 4 = j by omega]
/-- Block g is just the list. -/
def CAt (w : World) (g : Nat) (l : List Cnd) : Prop := Blk w g 44 (arr (4 * l.length) (ccell l))
theorem CAt.on {w w' : World} {g : Nat} {l : List Cnd} (h : CAt w g l) (hb : Below w.heap.size w w') : CAt w' g l := Blk.on h hb
theorem CAt.cells {w : World} {g : Nat} {l : List Cnd} (h : CAt w g l) {j : Nat} (hj : j < l.length) : w.cell? ⟨g, j * 4, none⟩ = some (.int .i64 (cx l j).p) ∧ w.cell? ⟨g, j * 4 + 1, none⟩ = some (.int .i64 (cx l j).o) ∧ w.cell? ⟨g, j * 4 + 2, none⟩ = some (.int .i64 (cx l j).t) ∧ w.cell? ⟨g, j * 4 + 3, none⟩ = some (.bool (cx l j).i) := by
  refine ⟨?_, ?_, ?_, ?_⟩
  · rw [h.cell (j * 4), arr_get _ (by omega), ccell_0]
  · rw [h.cell (j * 4 + 1), arr_get _ (by omega), ccell_1]
  · rw [h.cell (j * 4 + 2), arr_get _ (by omega), ccell_2]
  · rw [h.cell (j * 4 + 3), arr_get _ (by omega), ccell_3]
theorem CAt.cnds {w : World} {g : Nat} {l : List Cnd} (h : CAt w g l) : Cnds w w.heap.size (some ⟨g, 0, none⟩) l := fun _ =>
  ⟨g, 0, rfl, Blk.lt h, fun j hj => by rw [Nat.zero_add]; exact h.cells hj⟩
theorem cx_set (l : List Cnd) (k j : Nat) (c : Cnd) (h : k < l.length) : cx (l.set k c) j = if j = k then c else cx l j := by
  unfold cx
  rw [List.getElem?_set]
  by_cases e : k = j
  · subst e; rw [if_pos rfl, if_pos h, if_pos rfl]; rfl
  · rw [if_neg e, if_neg (fun e' => e e'.symm)]
theorem ccell_set (l : List Cnd) {k : Nat} (hk : k < l.length) (c : Cnd) (q : Nat) : ccell (l.set k c) q = if q = k * 4 + 3 then Value.bool c.i else if q = k * 4 + 2 then .int .i64 c.t else if q = k * 4 + 1 then .int .i64 c.o else if q = k * 4 then .int .i64 c.p else ccell l q := by
  simp only [ccell]
  rw [cx_set l k (q / 4) c hk]
  by_cases e : q / 4 = k
  · subst e
    rw [if_pos rfl]
    have h4 : q % 4 = 0 ∨ q % 4 = 1 ∨ q % 4 = 2 ∨ q % 4 = 3 := by omega
    rcases h4 with h4 | h4 | h4 | h4
    · rw [if_neg (c := q = q / 4 * 4 + 3) (by omega), if_neg (c := q = q / 4 * 4 + 2) (by omega), if_neg (c := q = q / 4 * 4 + 1) (by omega), if_pos (c := q = q / 4 * 4) (by omega), if_pos h4]
    · rw [if_neg (c := q = q / 4 * 4 + 3) (by omega), if_neg (c := q = q / 4 * 4 + 2) (by omega), if_pos (c := q = q / 4 * 4 + 1) (by omega), if_neg (c := q % 4 = 0) (by omega), if_pos h4]
    · rw [if_neg (c := q = q / 4 * 4 + 3) (by omega), if_pos (c := q = q / 4 * 4 + 2) (by omega), if_neg (c := q % 4 = 0) (by omega), if_neg (c := q % 4 = 1) (by omega), if_pos h4]
    · rw [if_pos (c := q = q / 4 * 4 + 3) (by omega), if_neg (c := q % 4 = 0) (by omega), if_neg (c := q % 4 = 1) (by omega), if_neg (c := q % 4 = 2) (by omega)]
  · rw [if_neg e, if_neg (c := q = k * 4 + 3) (by omega), if_neg (c := q = k * 4 + 2) (by omega), if_neg (c := q = k * 4 + 1) (by omega), if_neg (c := q = k * 4) (by omega)]
theorem CAt.set_ {w : World} {g : Nat} {l : List Cnd} (h : CAt w g l) {k : Nat} (hk : k < l.length) (c : Cnd) :
    CAt ((((w.setCell ⟨g, k * 4, none⟩ (.int .i64 c.p)).setCell ⟨g, k * 4 + 1, none⟩ (.int .i64 c.o)).setCell ⟨g, k * 4 + 2, none⟩ (.int .i64 c.t)).setCell ⟨g, k * 4 + 3, none⟩ (.bool c.i)) g (l.set k c) := by
  have B := (((Blk.set_ h (k * 4) (.int .i64 c.p)).set_ (k * 4 + 1) (.int .i64 c.o)).set_ (k * 4 + 2) (.int .i64 c.t)).set_ (k * 4 + 3) (.bool c.i)
  rw [arr_set, arr_set, arr_set, arr_set] at B
  unfold CAt
  rw [List.length_set, ← arr_congr (f := fun q => if q = k * 4 + 3 then Value.bool c.i else if q = k * 4 + 2 then .int .i64 c.t else if q = k * 4 + 1 then .int .i64 c.o else if q = k * 4 then .int .i64 c.p else ccell l q) (fun q _ => (ccell_set l hk c q).symm)]
  exact B
theorem bel_set4 {w w1 : World} {G : Nat} (h : Below w.heap.size w w1) (hG : w.heap.size ≤ G) (i j k m : Nat) (a b c d : Value) : Below w.heap.size w ((((w1.setCell ⟨G, i, none⟩ a).setCell ⟨G, j, none⟩ b).setCell ⟨G, k, none⟩ c).setCell ⟨G, m, none⟩ d) :=
  (((h.setCell (p := ⟨G, i, none⟩) hG _).setCell (p := ⟨G, j, none⟩) hG _).setCell (p := ⟨G, k, none⟩) hG _).setCell (p := ⟨G, m, none⟩) hG _
theorem grown_set4 (w : World) (g i j k m : Nat) (a b c d : Value) : w.grownBy ((((w.setCell ⟨g, i, none⟩ a).setCell ⟨g, j, none⟩ b).setCell ⟨g, k, none⟩ c).setCell ⟨g, m, none⟩ d) (some g) :=
  grown_trans (grown_trans (grown_trans (grown_setCell w g i a) (grown_setCell _ g j b)) (grown_setCell _ g k c)) (grown_setCell _ g m d)

theorem info_cond : (Tryz.prog.info? 44).map (fun i => (i.zero, i.size, i.bytes)) = some (some (.agg #[.int .i64 0, .int .i64 0, .int .i64 0, .bool false]), 4, 32) := by kernel_rfl
theorem make_cond (n : Nat) (hn : n ≤ 1099511627776) (w : World) : (Instr.makeSlice 24 (.int .i64 (n : Int)) (.int .i64 (n : Int))).run Tryz.prog w = .ok (.slice (some ⟨w.heap.size, 0, none⟩) n n) (w.alloc (.cells (madeCells #[.int .i64 0, .int .i64 0, .int .i64 0, .bool false] (n * 4)) 44)) := by
  obtain ⟨i, hi, hz, hs, hby⟩ := info_parts info_cond
  have := run_make (P := Tryz.prog) w 24 44 i (.agg #[.int .i64 0, .int .i64 0, .int .i64 0, .bool false]) Tryz.underlying24 hi hz .i64 .i64 (n : Int) (n : Int) (by omega) (by omega) (by rw [hby]; omega) (by omega)
  rw [hs] at this
  simpa [Value.cells] using this
theorem made_conds (n : Nat) : madeCells #[.int .i64 0, .int .i64 0, .int .i64 0, .bool false] (n * 4) = arr (4 * n) (ccell (List.replicate n zeroC)) := by
  apply Array.ext_getElem?
  intro q
  have hz : ∀ j, cx (List.replicate n zeroC) j = zeroC := fun j => by
    unfold cx
    rw [List.getElem?_replicate]
    split <;> rfl
  by_cases hq : q < 4 * n
  · have hq' : q < n * 4 := by omega
    rw [arr_get _ hq]
    unfold ccell
    rw [hz]
    have h : q % 4 = 0 ∨ q % 4 = 1 ∨ q % 4 = 2 ∨ q % 4 = 3 := by omega
    rcases h with h | h | h | h
    · simp [madeCells, hq', h, zeroC]
    · simp [madeCells, hq', h, zeroC]
    · simp [madeCells, hq', h, zeroC]
    · simp [madeCells, hq', h, zeroC]
  · rw [Array.getElem?_eq_none (by rw [size_madeCells]; omega), Array.getElem?_eq_none (by simp [arr]; omega)]
/-- Copied so far: the first k, then noughts. -/
def cpy (l : List Cnd) (k : Nat) : List Cnd := l.take k ++ List.replicate (l.length - k) zeroC
theorem cpy_length (l : List Cnd) {k : Nat} (h : k ≤ l.length) : (cpy l k).length = l.length := by simp [cpy]; omega
theorem cpy_zero (l : List Cnd) : cpy l 0 = List.replicate l.length zeroC := by simp [cpy]
theorem cpy_all (l : List Cnd) : cpy l l.length = l := by simp [cpy]
theorem cpy_step (l : List Cnd) {k : Nat} (h : k < l.length) : (cpy l k).set k (cx l k) = cpy l (k + 1) := by
  apply List.ext_getElem?
  intro j
  rw [List.getElem?_set, cpy_length l (by omega)]
  unfold cpy
  by_cases e : k = j
  · subst e
    rw [if_pos rfl, if_pos h, List.getElem?_append_left (by simp; omega), List.getElem?_take, if_pos (by omega), cx_eq l k h, List.getElem?_eq_getElem h]
  · rw [if_neg e]
    by_cases hj : j < k
    · rw [List.getElem?_append_left (by simp; omega), List.getElem?_append_left (by simp; omega), List.getElem?_take, List.getElem?_take, if_pos hj, if_pos (by omega)]
    · rw [List.getElem?_append_right (by simp; omega), List.getElem?_append_right (by simp; omega), List.getElem?_replicate, List.getElem?_replicate]
      simp only [List.length_take]
      congr 1
      rw [Nat.min_eq_left (by omega), Nat.min_eq_left (by omega)]
      exact propext ⟨fun h => by omega, fun h => by omega⟩

theorem cnd_ext {a b : Cnd} : a = b ↔ a.p = b.p ∧ a.o = b.o ∧ a.t = b.t ∧ a.i = b.i := by
  cases a; cases b; simp
theorem cnd_eta (c : Cnd) : (⟨c.p, c.o, c.t, c.i⟩ : Cnd) = c := rfl
theorem cx_take_ext {l1 l2 : List Cnd} {k : Nat} (h : k < l1.length) (h' : k < l2.length) (ht : l1.take k = l2.take k) (e : cx l1 k = cx l2 k) : l1.take (k + 1) = l2.take (k + 1) := by
  rw [List.take_succ_eq_append_getElem h, List.take_succ_eq_append_getElem h', ht, ← cx_eq l1 k h, ← cx_eq l2 k h', e]

/-- The slice at A of the list begins block g, none of whose cells is frozen. -/
def CRow (w : World) (A : Option Addr) (g : Nat) (l : List Cnd) : Prop :=
  0 < l.length → A = some ⟨g, 0, none⟩ ∧ ∃ cur : Array Value, Blk w g 44 cur ∧ ∀ q, q < 4 * l.length → cur[q]? = some (ccell l q)
theorem CAt.row {w : World} {g : Nat} {l : List Cnd} (h : CAt w g l) : CRow w (some ⟨g, 0, none⟩) g l := fun _ => ⟨rfl, _, h, fun _ hq => arr_get _ hq⟩
theorem CRow.on {w w' : World} {A : Option Addr} {g : Nat} {l : List Cnd} (h : CRow w A g l) (hb : Below w.heap.size w w') : CRow w' A g l := fun hn => by
  obtain ⟨hA, cur, hB, hc⟩ := h hn
  exact ⟨hA, cur, hB.on hb, hc⟩
theorem CRow.lt {w : World} {A : Option Addr} {g : Nat} {l : List Cnd} (h : CRow w A g l) (hn : 0 < l.length) : g < w.heap.size := by
  obtain ⟨_, cur, hB, _⟩ := h hn
  exact hB.lt
theorem CRow.kept {w w' : World} {A : Option Addr} {g : Nat} {l : List Cnd} {row : Option Nat} (h : CRow w A g l) (hg : w.grownBy w' row) (hne : 0 < l.length → some g ≠ row) : CRow w' A g l := fun hn => by
  obtain ⟨hA, cur, hB, hc⟩ := h hn
  exact ⟨hA, cur, hB.grown hg (hne hn), hc⟩
theorem CRow.cells {w : World} {A : Option Addr} {g : Nat} {l : List Cnd} (h : CRow w A g l) {j : Nat} (hj : j < l.length) : w.cell? ⟨g, j * 4, none⟩ = some (.int .i64 (cx l j).p) ∧ w.cell? ⟨g, j * 4 + 1, none⟩ = some (.int .i64 (cx l j).o) ∧ w.cell? ⟨g, j * 4 + 2, none⟩ = some (.int .i64 (cx l j).t) ∧ w.cell? ⟨g, j * 4 + 3, none⟩ = some (.bool (cx l j).i) := by
  obtain ⟨_, cur, hB, hc⟩ := h (by omega)
  refine ⟨?_, ?_, ?_, ?_⟩
  · rw [hB.cell (j * 4), hc _ (by omega), ccell_0]
  · rw [hB.cell (j * 4 + 1), hc _ (by omega), ccell_1]
  · rw [hB.cell (j * 4 + 2), hc _ (by omega), ccell_2]
  · rw [hB.cell (j * 4 + 3), hc _ (by omega), ccell_3]
theorem CRow.frozen {w : World} {A : Option Addr} {g : Nat} {l : List Cnd} (h : CRow w A g l) (hn : 0 < l.length) (i : Nat) : w.frozen? ⟨g, i, none⟩ = false := by
  obtain ⟨_, cur, hB, _⟩ := h hn
  exact hB.frozen i
theorem CRow.cnds {w : World} {A : Option Addr} {g : Nat} {l : List Cnd} (h : CRow w A g l) : Cnds w w.heap.size A l := fun hn => by
  refine ⟨g, 0, (h hn).1, h.lt hn, fun j hj => ?_⟩
  rw [Nat.zero_add]
  exact h.cells hj
theorem CRow.set_ {w : World} {A : Option Addr} {g : Nat} {l : List Cnd} (h : CRow w A g l) {k : Nat} (hk : k < l.length) (c : Cnd) :
    CRow ((((w.setCell ⟨g, k * 4, none⟩ (.int .i64 c.p)).setCell ⟨g, k * 4 + 1, none⟩ (.int .i64 c.o)).setCell ⟨g, k * 4 + 2, none⟩ (.int .i64 c.t)).setCell ⟨g, k * 4 + 3, none⟩ (.bool c.i)) A g (l.set k c) := fun hn => by
  obtain ⟨hA, cur, hB, hc⟩ := h (by omega)
  refine ⟨hA, _, (((hB.set_ (k * 4) (.int .i64 c.p)).set_ (k * 4 + 1) (.int .i64 c.o)).set_ (k * 4 + 2) (.int .i64 c.t)).set_ (k * 4 + 3) (.bool c.i), fun q hq => ?_⟩
  rw [List.length_set] at hq
  have hcq := hc q hq
  have hs : q < cur.size := (Array.getElem?_eq_some_iff.1 hcq).1
  rw [ccell_set l hk, Array.getElem?_setIfInBounds, Array.getElem?_setIfInBounds, Array.getElem?_setIfInBounds, Array.getElem?_setIfInBounds]
  by_cases e3 : q = k * 4 + 3
  · rw [if_pos e3.symm, if_pos e3, if_pos (by simp; omega)]
  rw [if_neg (fun e => e3 e.symm), if_neg e3]
  by_cases e2 : q = k * 4 + 2
  · rw [if_pos e2.symm, if_pos e2, if_pos (by simp; omega)]
  rw [if_neg (fun e => e2 e.symm), if_neg e2]
  by_cases e1 : q = k * 4 + 1
  · rw [if_pos e1.symm, if_pos e1, if_pos (by simp; omega)]
  rw [if_neg (fun e => e1 e.symm), if_neg e1]
  by_cases e0 : q = k * 4
  · rw [if_pos e0.symm, if_pos e0, if_pos (by omega)]
  rw [if_neg (fun e => e0 e.symm), if_neg e0, hcq]

/-- The marks of a cond, and of a list. -/
def mkC (a : Int) : Cnd := ⟨a, a + 1, a + 1 + 1, (a + 1 + 1 + 1) % 3 == 0⟩
def mks (m n : Nat) : List Cnd := (List.range n).map fun (j : Nat) => mkC ((m + 4 * j : Nat) : Int)
theorem mks_length (m n : Nat) : (mks m n).length = n := by simp [mks]
theorem mks_at {m n j : Nat} (h : j < n) : cx (mks m n) j = mkC ((m + 4 * j : Nat) : Int) := by simp [cx, mks, h]
def mking (l : List Cnd) (m j : Nat) : List Cnd := mks m j ++ l.drop j
theorem mking_zero (l : List Cnd) (m : Nat) : mking l m 0 = l := by simp [mking, mks]
theorem mking_all (l : List Cnd) (m : Nat) : mking l m l.length = mks m l.length := by simp [mking]
theorem mking_length (l : List Cnd) (m : Nat) {j : Nat} (h : j ≤ l.length) : (mking l m j).length = l.length := by simp [mking, mks_length]; omega
theorem mking_step (l : List Cnd) (m : Nat) {j : Nat} (h : j < l.length) : (mking l m j).set j (mkC ((m + 4 * j : Nat) : Int)) = mking l m (j + 1) := by
  apply List.ext_getElem?
  intro i
  rw [List.getElem?_set, mking_length l m (by omega)]
  unfold mking
  by_cases e : j = i
  · subst e
    rw [if_pos rfl, if_pos h, List.getElem?_append_left (by rw [mks_length]; omega)]
    simp [mks]
  · rw [if_neg e]
    by_cases hi : i < j
    · rw [List.getElem?_append_left (by rw [mks_length]; omega), List.getElem?_append_left (by rw [mks_length]; omega)]
      simp [mks, hi, show i < j + 1 by omega]
    · rw [List.getElem?_append_right (by rw [mks_length]; omega), List.getElem?_append_right (by rw [mks_length]; omega), mks_length, mks_length, List.getElem?_drop, List.getElem?_drop]
      congr 1; omega
end Go.Proofs.YtdpokfjempdchaaGreatDoor

/- A region that draws its order, whose operations only read and whose callees only make memory: one walk, in the text's order. No condition; nothing of the program is named. -/
namespace Go.Proofs.YtdpokfjempdchaaGreatDoor
open Go.RowKit

/-- A world that has come of w while nothing that lay has turned. -/
structure BelW (w : World) where
  v : World
  bel : Below w.heap.size w v
instance (w : World) : Inhabited (BelW w) := ⟨⟨w, Below.refl _ _⟩⟩
theorem wp_quiet_bel {P : Program} {id : Nat} {Q : Exit → Act → World → Prop} {a : Act} {w : World} {l : List Oper} (hm : P.follows .mixedOrders = true) (hB : Region.lexB .any l.toArray = true)
    (h : wpQuiet P l.toArray (fun w' => ∃ p : BelW w, w' = p.v) (fun a' => ∀ w', (∃ p : BelW w, w' = p.v) → Q .normal a' w') l a) : (Code.region id l.toArray true).wp P Q a w :=
  wp_region_quiet (C := fun w' => ∃ p : BelW w, w' = p.v) hm hB ⟨⟨w.drewN 1, bel_drewN (Below.refl _ _) 1⟩, rfl⟩ (by simpa using h)
theorem bel_of {P : Program} {f : FuncId} {args : Array Value} {w : World} {p : BelW w} {v : Value} (h : Calls P f args p.v fun e w' => e = .returned v ∧ Below p.v.heap.size p.v w') :
    Calls P f args p.v fun e w'' => e = .returned v ∧ ∃ q : BelW w, w'' = q.v :=
  h.mono fun _ w' ⟨he, hb⟩ => ⟨he, ⟨w', bel_step p.bel hb⟩, rfl⟩
theorem bel_same {P : Program} {f : FuncId} {args : Array Value} {w : World} {p : BelW w} {v : Value} (h : Calls P f args p.v fun e w' => e = .returned v ∧ p.v = w') :
    Calls P f args p.v fun e w'' => e = .returned v ∧ ∃ q : BelW w, w'' = q.v :=
  h.mono fun _ _ ⟨he, hb⟩ => ⟨he, p, hb.symm⟩
theorem cell_bel {w : World} {b o : Nat} {v : Value} (hb : b < w.heap.size) (h : w.cell? ⟨b, o, none⟩ = some v) : ∀ p : BelW w, p.v.cell? ⟨b, o, none⟩ = some v := fun p => (p.bel.cell hb).trans h
end Go.Proofs.YtdpokfjempdchaaGreatDoor
