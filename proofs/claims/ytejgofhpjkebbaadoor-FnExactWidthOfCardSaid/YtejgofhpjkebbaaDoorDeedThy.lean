/- Deeds as texts: how they are shown, how the model and the program read them, and that both read alike: plain facts. -/
import Derived.Test.YtejgofhpjkebbaaDoorRead0
import Derived.Test.YtejgofhpjkebbaaDoorDeed1
import Derived.Lib.IndexMore
namespace Go.Proofs.YtejgofhpjkebbaaDoor
open Go.RowKit

/-- The word of a kind; the kind of a word. -/
def wordL (k : Int) : List UInt8 := if k = 1 then [112, 117, 116] else if k = 2 then [99, 117, 116] else if k = 3 then [115, 101, 116] else if k = 4 then [109, 117, 115, 116] else if k = 5 then [109, 97, 107, 101] else if k = 6 then [100, 114, 111, 112] else []
def kindL (l : List UInt8) : Int := if l = [112, 117, 116] then 1 else if l = [99, 117, 116] then 2 else if l = [115, 101, 116] then 3 else if l = [109, 117, 115, 116] then 4 else if l = [109, 97, 107, 101] then 5 else if l = [100, 114, 111, 112] then 6 else 0
theorem word_kind {l : List UInt8} (h : kindL l ≠ 0) : wordL (kindL l) = l := by
  unfold kindL at h ⊢
  repeat' split
  all_goals first | (rename_i h1; rw [h1]; rfl) | (simp_all)
theorem kind_word {k : Int} (h : 1 ≤ k) (h6 : k ≤ 6) : kindL (wordL k) = k := by
  obtain rfl | rfl | rfl | rfl | rfl | rfl : k = 1 ∨ k = 2 ∨ k = 3 ∨ k = 4 ∨ k = 5 ∨ k = 6 := by omega
  all_goals decide
theorem word_no (k : Int) : (32 : UInt8) ∉ wordL k := by
  unfold wordL
  repeat' split
  all_goals decide
theorem kindB_kind {k : Int} {n : Nat} (h : kindB k n = true) : 1 ≤ k ∧ k ≤ 6 ∧ (n = 0 ↔ k = 6) := by
  unfold kindB at h
  split at h
  · have := of_decide_eq_true h; omega
  · split at h
    · have := of_decide_eq_true h; omega
    · rw [Bool.and_eq_true] at h
      have h1 := of_decide_eq_true h.1
      have h2 := of_decide_eq_true h.2
      omega

/-- The text of a right deed; the text of any. -/
def deedL (k : Int) (n : List UInt8) (zs : List Int) : List UInt8 := wordL k ++ 32 :: (n ++ (if zs = [] then [] else 32 :: numbersL zs))
def showD (k : Int) (s : ByteArray) (zs : List Int) : List UInt8 := if deedB k s zs = true then deedL k (bl s) zs else []

def mkB (l : List UInt8) : ByteArray := ⟨l.toArray⟩
theorem mkB_bl (s : ByteArray) : mkB (bl s) = s := rfl
theorem bl_mkB (l : List UInt8) : bl (mkB l) = l := bl_mk l
theorem name_no32 {s : ByteArray} (h : nameB s = true) : (32 : UInt8) ∉ bl s ∧ bl s ≠ [] := by
  unfold nameB at h
  rw [Bool.and_eq_true] at h
  refine ⟨fun hx => ?_, fun e => ?_⟩
  · have := List.all_eq_true.1 h.1 32 hx
    revert this; decide
  · have h2 := h.2
    have : s.size = 0 := by rw [← bl_length, e]; rfl
    rw [this] at h2
    revert h2; decide

/-- What reading a text as a deed answers: kind, name, row, and whether it is one. -/
structure RD where
  k : Int
  n : ByteArray
  z : List Int
  ok : Bool
def zeroD : RD := ⟨0, ⟨#[]⟩, [], false⟩
def finD (k : Int) (n : ByteArray) (zs : List Int) : RD := if deedB k n zs = true then ⟨k, n, zs, true⟩ else zeroD
/-- The model's way. -/
def specReadD (s : List UInt8) : RD :=
  if (spl 32 s).length < 2 then zeroD
  else if (spl 32 s).length = 2 then finD (kindL ((spl 32 s)[0]?.getD [])) (mkB ((spl 32 s)[1]?.getD [])) []
  else if (specRead (cat [32] ((spl 32 s).drop 2))).2 = false ∨ (specRead (cat [32] ((spl 32 s).drop 2))).1 = [] then zeroD
  else finD (kindL ((spl 32 s)[0]?.getD [])) (mkB ((spl 32 s)[1]?.getD [])) (specRead (cat [32] ((spl 32 s).drop 2))).1
/-- The program's way. -/
def endD (s : List UInt8) (k : Int) (n : ByteArray) (zs : List Int) : RD := if deedB k n zs = true ∧ showD k n zs = s then ⟨k, n, zs, true⟩ else zeroD
def cutA (s : List UInt8) : List UInt8 := (Lib.cut s [32]).1
def cutR (s : List UInt8) : List UInt8 := (Lib.cut s [32]).2.1
def cutM (s : List UInt8) : Bool := (Lib.cut s [32]).2.2
def implReadD (s : List UInt8) : RD :=
  if cutM (cutR s) = true then
    (if (specRead (cutR (cutR s))).2 = true then endD s (kindL (cutA s)) (mkB (cutA (cutR s))) (specRead (cutR (cutR s))).1 else zeroD)
  else endD s (kindL (cutA s)) (mkB (cutA (cutR s))) []

theorem has_cut (c : UInt8) : ∀ l : List UInt8, c ∉ l ∨ ∃ a b, c ∉ a ∧ l = a ++ c :: b
  | [] => .inl (by simp)
  | x :: l => by
    by_cases hx : x = c
    · exact .inr ⟨[], l, by simp, by rw [hx]; rfl⟩
    · rcases has_cut c l with h | ⟨a, b, ha, rfl⟩
      · exact .inl (by simp only [List.mem_cons, not_or]; exact ⟨fun e => hx e.symm, h⟩)
      · exact .inr ⟨x :: a, b, by simp only [List.mem_cons, not_or]; exact ⟨fun e => hx e.symm, ha⟩, rfl⟩
theorem indexByte_no {c : UInt8} : ∀ {l : List UInt8}, c ∉ l → Lib.indexByte l c = -1
  | [], _ => rfl
  | x :: l, h => by
    have hx : x ≠ c := fun e => h (by simp [e])
    have hl : c ∉ l := fun e => h (by simp [e])
    unfold Lib.indexByte
    rw [indexByte_no hl]
    simp [hx]
theorem indexByte_at {c : UInt8} {b : List UInt8} : ∀ {a : List UInt8}, c ∉ a → Lib.indexByte (a ++ c :: b) c = a.length
  | [], _ => by simp [Lib.indexByte]
  | x :: a, h => by
    have hx : x ≠ c := fun e => h (by simp [e])
    have hl : c ∉ a := fun e => h (by simp [e])
    rw [List.cons_append]
    unfold Lib.indexByte
    rw [indexByte_at hl]
    have h1 : ((a.length : Int) == -1) = false := by rw [beq_eq_false_iff_ne]; omega
    simp [hx, h1]
theorem cut_no {c : UInt8} {l : List UInt8} (h : c ∉ l) : Lib.cut l [c] = (l, [], false) := by
  unfold Lib.cut
  rw [Lib.index_one, indexByte_no h, if_neg (by omega)]
theorem cut_at {c : UInt8} {a b : List UInt8} (h : c ∉ a) : Lib.cut (a ++ c :: b) [c] = (a, b, true) := by
  unfold Lib.cut
  rw [Lib.index_one, indexByte_at h, if_pos (by omega)]
  simp

theorem read_shown {s : List UInt8} {zs : List Int} (h : specRead s = (zs, true)) (h0 : zs ≠ []) : numbersL zs = s := by
  unfold specRead at h
  split at h
  · exact absurd (by simpa using (congrArg Prod.fst h).symm) h0
  · split at h
    · simp at h
    · rename_i r hr
      split at h
      · have e : r = zs := by simpa using h
        subst e
        rw [numbersL_cat, ← words_of hr, cat_spl]
      · simp at h
theorem deedB_nil {k : Int} {n : ByteArray} (h : deedB k n [] = true) : k = 6 := ((kindB_kind (deedB_all h).2.2).2.2).1 rfl
theorem specReadD_0 {s : List UInt8} (h : (32 : UInt8) ∉ s) : specReadD s = zeroD := by
  unfold specReadD
  rw [spl_whole 32 s h, if_pos (by simp)]
theorem specReadD_1 {a b : List UInt8} (ha : (32 : UInt8) ∉ a) (hb : (32 : UInt8) ∉ b) : specReadD (a ++ 32 :: b) = finD (kindL a) (mkB b) [] := by
  unfold specReadD
  rw [spl_cut 32 a b ha, spl_whole 32 b hb, if_neg (by simp), if_pos (by simp)]
  rfl
theorem specReadD_2 {a n c : List UInt8} (ha : (32 : UInt8) ∉ a) (hn : (32 : UInt8) ∉ n) : specReadD (a ++ 32 :: (n ++ 32 :: c)) = if (specRead c).2 = false ∨ (specRead c).1 = [] then zeroD else finD (kindL a) (mkB n) (specRead c).1 := by
  have hc : 0 < (spl 32 c).length := List.length_pos_iff.2 (spl_ne 32 c)
  have hd : cat [32] ((a :: n :: spl 32 c).drop 2) = c := cat_spl 32 c
  unfold specReadD
  rw [spl_cut 32 a _ ha, spl_cut 32 n c hn, if_neg (by simp only [List.length_cons]; omega), if_neg (by simp only [List.length_cons]; omega), hd]
  rfl
theorem implReadD_0 {s : List UInt8} (h : (32 : UInt8) ∉ s) : implReadD s = zeroD := by
  have h2 : Lib.cut [] [(32 : UInt8)] = ([], [], false) := cut_no (by simp)
  have e1 : cutR s = [] := by unfold cutR; rw [cut_no h]
  unfold implReadD
  rw [e1, if_neg (by unfold cutM; rw [h2]; simp)]
  unfold endD
  rw [if_neg]
  rintro ⟨h3, _⟩
  refine (name_no32 (deedB_all h3).1).2 ?_
  unfold cutA
  rw [h2]; rfl
theorem implReadD_1 {a b : List UInt8} (ha : (32 : UInt8) ∉ a) (hb : (32 : UInt8) ∉ b) : implReadD (a ++ 32 :: b) = endD (a ++ 32 :: b) (kindL a) (mkB b) [] := by
  have e1 : cutR (a ++ 32 :: b) = b := by unfold cutR; rw [cut_at ha]
  have e2 : cutA (a ++ 32 :: b) = a := by unfold cutA; rw [cut_at ha]
  have e3 : cutA b = b := by unfold cutA; rw [cut_no hb]
  unfold implReadD
  rw [e1, e2, e3, if_neg (by unfold cutM; rw [cut_no hb]; simp)]
theorem implReadD_2 {a n c : List UInt8} (ha : (32 : UInt8) ∉ a) (hn : (32 : UInt8) ∉ n) : implReadD (a ++ 32 :: (n ++ 32 :: c)) = if (specRead c).2 = true then endD (a ++ 32 :: (n ++ 32 :: c)) (kindL a) (mkB n) (specRead c).1 else zeroD := by
  have e1 : cutR (a ++ 32 :: (n ++ 32 :: c)) = n ++ 32 :: c := by unfold cutR; rw [cut_at ha]
  have e2 : cutA (a ++ 32 :: (n ++ 32 :: c)) = a := by unfold cutA; rw [cut_at ha]
  have e3 : cutA (n ++ 32 :: c) = n := by unfold cutA; rw [cut_at hn]
  have e4 : cutR (n ++ 32 :: c) = c := by unfold cutR; rw [cut_at hn]
  unfold implReadD
  rw [e1, e2, e3, e4, if_pos (by unfold cutM; rw [cut_at hn])]
theorem readD_same (s : List UInt8) : implReadD s = specReadD s := by
  rcases has_cut 32 s with h | ⟨a, b, ha, rfl⟩
  · rw [implReadD_0 h, specReadD_0 h]
  · rcases has_cut 32 b with hb | ⟨n, c, hn, rfl⟩
    · rw [implReadD_1 ha hb, specReadD_1 ha hb]
      unfold endD finD
      by_cases hd : deedB (kindL a) (mkB b) [] = true
      · have hs : showD (kindL a) (mkB b) [] = a ++ 32 :: b := by
          unfold showD deedL
          rw [if_pos hd, bl_mkB, word_kind (by rw [deedB_nil hd]; decide), if_pos rfl, List.append_nil]
        rw [if_pos hd, if_pos ⟨hd, hs⟩]
      · rw [if_neg hd, if_neg (fun h => hd h.1)]
    · rw [implReadD_2 ha hn, specReadD_2 ha hn]
      obtain ⟨zs, ok, hp⟩ : ∃ zs ok, specRead c = (zs, ok) := ⟨_, _, rfl⟩
      rw [hp]
      cases ok with
      | false => rw [if_neg (by simp), if_pos (.inl rfl)]
      | true =>
        rw [if_pos rfl]
        show endD _ _ _ zs = (if true = false ∨ zs = [] then zeroD else finD _ _ zs)
        by_cases hz : zs = []
        · rw [if_pos (.inr hz)]
          subst hz
          unfold endD
          rw [if_neg]
          rintro ⟨h1, h2⟩
          unfold showD deedL at h2
          rw [if_pos h1, bl_mkB, word_kind (by rw [deedB_nil h1]; decide), if_pos rfl, List.append_nil] at h2
          have := congrArg List.length h2
          simp only [List.length_append, List.length_cons] at this
          omega
        · rw [if_neg (by simp [hz])]
          unfold endD finD
          by_cases hd : deedB (kindL a) (mkB n) zs = true
          · have hs : showD (kindL a) (mkB n) zs = a ++ 32 :: (n ++ 32 :: c) := by
              unfold showD deedL
              have hk := kindB_kind (deedB_all hd).2.2
              rw [if_pos hd, bl_mkB, word_kind (by omega), if_neg hz, read_shown hp hz]
            rw [if_pos hd, if_pos ⟨hd, hs⟩]
          · rw [if_neg hd, if_neg (fun h => hd h.1)]

/-- What a right row shows as is read as that row. -/
theorem read_numbers {zs : List Int} (h : rowOkB zs = true) (h0 : zs ≠ []) : specRead (numbersL zs) = (zs, true) := by
  obtain ⟨hall, _⟩ := rowOkB_all h
  have hw : spl 32 (numbersL zs) = zs.map Lib.itoa := by
    rw [numbersL_cat]
    exact spl_cat 32 _ (by simpa using h0) (fun w hw => by
      obtain ⟨n, _, rfl⟩ := List.mem_map.1 hw
      exact fun hx => itoa_no n 32 hx rfl)
  have hm : (spl 32 (numbersL zs)).mapM (readNum 10) = some zs := by
    rw [hw]
    have := mapM_map (readNum 10) Lib.itoa id zs (fun n hn => by
      have := cell_of_B (List.all_eq_true.1 hall n hn)
      exact readNum_of n this.1 this.2)
    simpa using this
  unfold specRead
  rw [if_neg ?_, hm]
  · simp only; rw [if_pos h]
  · intro e
    rw [e] at hm
    have : (spl 32 [45]).mapM (readNum 10) = none := by rfl
    rw [this] at hm; cases hm
/-- A deed is read from its text. -/
theorem readD_show {k : Int} {s : ByteArray} {zs : List Int} (h : deedB k s zs = true) : specReadD (showD k s zs) = ⟨k, s, zs, true⟩ := by
  obtain ⟨h1, h2, h3⟩ := deedB_all h
  obtain ⟨k1, k6, kz⟩ := kindB_kind h3
  obtain ⟨n32, _⟩ := name_no32 h1
  unfold showD deedL
  rw [if_pos h]
  by_cases hz : zs = []
  · subst hz
    rw [if_pos rfl, List.append_nil, specReadD_1 (word_no k) n32]
    unfold finD
    rw [kind_word k1 k6, mkB_bl, if_pos h]
  · rw [if_neg hz, specReadD_2 (word_no k) n32, read_numbers h2 hz, if_neg (by simp [hz])]
    unfold finD
    rw [kind_word k1 k6, mkB_bl, if_pos h]
/-- What was read is the deed whose text it is. -/
theorem show_readD {s : List UInt8} (h : (specReadD s).ok = true) : deedB (specReadD s).k (specReadD s).n (specReadD s).z = true ∧ showD (specReadD s).k (specReadD s).n (specReadD s).z = s := by
  rw [← readD_same] at h ⊢
  unfold implReadD at h ⊢
  have key : ∀ k n zs, (endD s k n zs).ok = true → deedB (endD s k n zs).k (endD s k n zs).n (endD s k n zs).z = true ∧ showD (endD s k n zs).k (endD s k n zs).n (endD s k n zs).z = s := by
    intro k n zs hh
    unfold endD at hh ⊢
    split at hh
    · rename_i h1; rw [if_pos h1]; exact h1
    · exact absurd hh (by simp [zeroD])
  split at h
  · split at h
    · rename_i h1 h2
      rw [if_pos h1, if_pos h2]
      exact key _ _ _ h
    · exact absurd h (by simp [zeroD])
  · rename_i h1
    rw [if_neg h1]
    exact key _ _ _ h
end Go.Proofs.YtejgofhpjkebbaaDoor
