/- The program's splitNodes: the words of each node of a text; nothing that lay has turned. For texts of at most 2^20 bytes. -/
import Derived.Test.YtpadhcoboapodaaGreatDoorJV6
import Derived.Test.YtpadhcoboapodaaGreatDoorJV2
import Derived.Maps.AppendAt
namespace Go.Proofs.YtpadhcoboapodaaGreatDoor
open Go.RowKit

/-- The words of one node, in a slice. -/
structure WN where
  v : Value
  ws : List ByteArray
def wordsN (es : List WN) : List (List (List UInt8)) := es.map fun e => e.ws.map bl
theorem wordsN_snoc (es : List WN) (e : WN) : wordsN (es ++ [e]) = wordsN es ++ [e.ws.map bl] := by simp [wordsN]
theorem wordsN_length (es : List WN) : (wordsN es).length = es.length := by simp [wordsN]
/-- What the automaton has still to do, by label. -/
def SplC (T : ByteArray) (R : Option (List (List (List UInt8)))) (l F K : Nat) (N : List (List (List UInt8))) (W : List (List UInt8)) : Prop :=
  if l = 0 then K < T.size ∧ autoN N W [] ((bl T).drop K) = R
  else if l = 1 then F ≤ K ∧ K + 1 < T.size ∧ autoN N W (((bl T).drop F).take (K + 1 - F)) ((bl T).drop (K + 1)) = R
  else if l = 2 then F < K ∧ K + 1 < T.size ∧ autoN N (W ++ [((bl T).drop F).take (K - F)]) [] ((bl T).drop (K + 1)) = R
  else F < K ∧ K < T.size ∧ autoE (N ++ [W ++ [((bl T).drop F).take (K - F)]]) ((bl T).drop (K + 1)) = R
structure SplM (T : ByteArray) (w0 : World) (v4 v5 : Value) (es : List WN) (ws : List ByteArray) (G0 : Nat) (w : World) : Prop where
  nodes : w.ownsRow w0.heap.size 28 1 v4 es.length (es.map WN.v)
  each : ∀ e ∈ es, w.ownsRow w0.heap.size 9 1 e.v e.ws.length (strl e.ws) ∧ ∀ g, e.v.ownBlock = some g → g < G0
  words : w.ownsRow G0 9 1 v5 ws.length (strl ws)
  lo : w0.heap.size ≤ G0
  hi : G0 ≤ w.heap.size
  bel : Below w0.heap.size w0 w
/-- How many and how long. -/
structure SplZ (T : ByteArray) (K : Nat) (es : List WN) (ws : List ByteArray) : Prop where
  wl : ws.length ≤ K
  el : es.length ≤ K
  wz : ∀ x ∈ ws, x.size ≤ T.size
  ez : ∀ e ∈ es, e.ws.length ≤ T.size ∧ ∀ x ∈ e.ws, x.size ≤ T.size
def SplJ (T : ByteArray) (R : Option (List (List (List UInt8)))) (w0 : World) (l : Nat) (a : Act) (w : World) : Prop :=
  ∃ (v4 v5 : Value) (F K : Nat) (u8 u9 u10 u11 u12 u13 u14 u15 u16 u17 u18 u19 u20 u21 u22 u23 u24 u25 u26 u27 u28 u29 u30 u31 u32 u33 u34 u35 u36 u37 u38 u39 u40 u41 u42 u43 u44 u45 u46 u47 u48 u49 u50 u51 u52 u53 u54 u55 u56 u57 : Value), a = { tmps := #[.string T, undef, .slice none 0 0, .bool false, v4, v5, .int .i64 (F : Nat), .int .i64 (K : Nat), u8, u9, u10, u11, u12, u13, u14, u15, u16, u17, u18, u19, u20, u21, u22, u23, u24, u25, u26, u27, u28, u29, u30, u31, u32, u33, u34, u35, u36, u37, u38, u39, u40, u41, u42, u43, u44, u45, u46, u47, u48, u49, u50, u51, u52, u53, u54, u55, u56, u57], defers := [] } ∧ ∃ es ws G0, SplM T w0 v4 v5 es ws G0 w ∧ SplZ T K es ws ∧ SplC T R l F K (wordsN es) (ws.map bl)
def SplAns (T : ByteArray) (R : Option (List (List (List UInt8)))) (w : World) (e : Ending) (w' : World) : Prop :=
  (R = none → e = .returned (.tuple #[.slice none 0 0, .bool false])) ∧ Below w.heap.size w w' ∧ ∀ q, R = some q → ∃ A c es, e = .returned (.tuple #[.slice A es.length c, .bool true]) ∧ wordsN es = q ∧ w'.ownsRow w.heap.size 28 1 (.slice A es.length c) es.length (es.map WN.v) ∧ (∀ e ∈ es, w'.ownsRow w.heap.size 9 1 e.v e.ws.length (strl e.ws)) ∧ es.length ≤ T.size ∧ ∀ e ∈ es, e.ws.length ≤ T.size ∧ ∀ x ∈ e.ws, x.size ≤ T.size
theorem splAns_no {T : ByteArray} {w w' : World} {e : Ending} (he : e = .returned (.tuple #[.slice none 0 0, .bool false])) (hb : Below w.heap.size w w') : SplAns T none w e w' := ⟨fun _ => he, hb, fun q h => by cases h⟩
theorem byte_at (T : ByteArray) {K : Nat} (h : K < T.size) : (bl T).drop K = T[K] :: (bl T).drop (K + 1) := by
  have h2 : K < (bl T).length := by rw [bl_length]; exact h
  rw [List.drop_eq_getElem_cons h2]
  congr 1
theorem last_byte (s : ByteArray) {K : Nat} (h : K < (s ++ (⟨#[59]⟩ : ByteArray)).size) (hne : (s ++ (⟨#[59]⟩ : ByteArray))[K] ≠ 59) : K + 1 < (s ++ (⟨#[59]⟩ : ByteArray)).size := by
  have hl : (s ++ (⟨#[59]⟩ : ByteArray)).size = s.size + 1 := by rw [ByteArray.size_append]; rfl
  rcases Nat.lt_or_ge (K + 1) (s ++ (⟨#[59]⟩ : ByteArray)).size with h1 | h1
  · exact h1
  · exfalso
    obtain rfl : K = s.size := by omega
    apply hne
    have h2 := byte_at _ h
    rw [bl_append] at h2
    rw [List.drop_append_of_le_length (by rw [bl_length]; exact Nat.le_refl _), List.drop_eq_nil_iff.2 (by rw [bl_length]; exact Nat.le_refl _), List.nil_append] at h2
    have h3 : bl (⟨#[59]⟩ : ByteArray) = [59] := rfl
    rw [h3] at h2
    injection h2 with h4 _
    rw [← h4]
theorem take_more {t : List UInt8} {F K : Nat} {b : UInt8} (hF : F ≤ K) (hb : t.drop K = b :: t.drop (K + 1)) : (t.drop F).take (K + 1 - F) = (t.drop F).take (K - F) ++ [b] := by
  have h1 : (t.drop F).drop (K - F) = b :: t.drop (K + 1) := by rw [List.drop_drop, show F + (K - F) = K by omega]; exact hb
  have h2 : K - F < (t.drop F).length := by
    rcases Nat.lt_or_ge (K - F) (t.drop F).length with h | h
    · exact h
    · rw [List.drop_eq_nil_iff.2 h] at h1; cases h1
  rw [show K + 1 - F = (K - F) + 1 by omega, List.take_succ_eq_append_getElem h2]
  congr 2
  rw [List.drop_eq_getElem_cons h2] at h1
  injection h1
theorem take_some {t : List UInt8} {F K : Nat} (hF : F < K) (hK : K ≤ t.length) : (t.drop F).take (K - F) ≠ [] := fun e => by
  have := congrArg List.length e
  rw [List.length_take, List.length_drop] at this
  simp at this
  omega
theorem SplM.grownW {T : ByteArray} {w0 w w' : World} {v4 v5 v5' : Value} {es : List WN} {ws : List ByteArray} {G0 : Nat} {x : ByteArray} {o : Obj} (h : SplM T w0 v4 v5 es ws G0 w) (hg : (w.alloc o).grownBy w' v5.ownBlock) (hw : w'.ownsRow G0 9 1 v5' (ws.length + 1) (strl ws ++ [.string x])) : SplM T w0 v4 v5' es (ws ++ [x]) G0 w' := by
  have hs := hg.size
  rw [World.size_alloc] at hs
  have hlo := h.lo
  have hhi := h.hi
  refine ⟨(h.nodes.alloc o).kept hg (own_ne (h.nodes.alloc o) (h.words.alloc o) (by decide)), fun e he => ?_, by simpa [strl] using hw, h.lo, by omega, (h.bel.alloc h.bel.size o).grown hg (by rw [World.size_alloc]; omega) (fun g hgg => by have := (h.words.lt g hgg).1; omega)⟩
  obtain ⟨h1, h2⟩ := h.each e he
  refine ⟨(h1.alloc o).kept hg ?_, h2⟩
  cases hb : e.v.ownBlock with
  | none => exact .inl rfl
  | some g => exact .inr fun e2 => by have h3 := (h.words.lt g e2.symm).1; have := h2 g hb; omega
theorem SplM.grownN {T : ByteArray} {w0 w w' : World} {v4 v5 v4' : Value} {es : List WN} {ws : List ByteArray} {G0 : Nat} {o : Obj} (h : SplM T w0 v4 v5 es ws G0 w) (hg : (w.alloc o).grownBy w' v4.ownBlock) (hw : w'.ownsRow w0.heap.size 28 1 v4' (es.length + 1) (es.map WN.v ++ [v5])) : SplM T w0 v4' (.slice none 0 0) (es ++ [⟨v5, ws⟩]) [] w'.heap.size w' := by
  have hs := hg.size
  rw [World.size_alloc] at hs
  have hlo := h.lo
  have hhi := h.hi
  have hb2 : Below w0.heap.size w0 w' := (h.bel.alloc h.bel.size o).grown hg (by rw [World.size_alloc]; omega) (fun g hgg => (h.nodes.lt g hgg).1)
  refine ⟨by simpa using hw, fun e he => ?_, World.ownsRow_nil _ _ _ _, hb2.size, Nat.le_refl _, hb2⟩
  rcases List.mem_append.1 he with he | he
  · obtain ⟨h1, h2⟩ := h.each e he
    have h3 := (h1.alloc o).kept hg (own_ne (h1.alloc o) (h.nodes.alloc o) (by decide))
    exact ⟨h3, fun g hgg => (h3.lt g hgg).2⟩
  · obtain rfl : e = ⟨v5, ws⟩ := by simpa using he
    have h3 := (h.words.alloc o).kept hg (own_ne (h.words.alloc o) (h.nodes.alloc o) (by decide))
    refine ⟨?_, fun g hgg => (h3.lt g hgg).2⟩
    refine ⟨h3.1, ?_⟩
    rcases h3.2 with h4 | ⟨g, cap, cur, h4, h5, h6⟩
    · exact .inl h4
    · exact .inr ⟨g, cap, cur, h4, by omega, h6⟩
theorem keep_nodes {w w' : World} {b b' sz sz' n n' : Nat} {v v' : Value} {xs xs' : List Value} {o : Obj} (h : w.ownsRow b 28 sz v n xs) (h' : w.ownsRow b' 9 sz' v' n' xs') (hg : (w.alloc o).grownBy w' v'.ownBlock) : w'.ownsRow b 28 sz v n xs := (h.alloc o).kept hg (own_ne (h.alloc o) (h'.alloc o) (by decide))
theorem info_words : (Tryz.prog.info? 28).map (fun i => (i.zero, i.size, i.bytes)) = some (some (.slice none 0 0), 1, 24) := by kernel_rfl
theorem reads_newP (w : World) (t : TypeId) (v : Value) : Reads (w.alloc (.cells #[v] t)) (w.heap.size + 1) 1 (some ⟨w.heap.size, 0, none⟩) 1 [v] := ⟨rfl, fun _ => ⟨_, rfl, Nat.lt_succ_self _, cell_one_new _ _ _⟩⟩
set_option maxRecDepth 1000000 in
set_option maxHeartbeats 8000000 in
theorem splitNodes_any (s : ByteArray) (w : World) (hs : s.size ≤ 1048576) :
    Calls Tryz.prog 12 #[.string s] w (SplAns (s ++ ⟨#[59]⟩) (splitN (bl s)) w) := by
  obtain ⟨i0, hi0, hz0, hz1, hz2⟩ := info_parts info_str
  obtain ⟨i1, hi1, hy0, hy1, hy2⟩ := info_parts info_words
  have hap : autoN [] [] [] (bl (s ++ (⟨#[59]⟩ : ByteArray))) = splitN (bl s) := by rw [bl_append]; exact auto_split (bl s)
  have hTs : (s ++ (⟨#[59]⟩ : ByteArray)).size = s.size + 1 := by rw [ByteArray.size_append]; rfl
  have HLB := Lib.hid (fun K (h : K < (s ++ (⟨#[59]⟩ : ByteArray)).size) => last_byte s h)
  obtain ⟨T, hT⟩ : ∃ T, s ++ (⟨#[59]⟩ : ByteArray) = T := ⟨_, rfl⟩
  rw [hT] at hap hTs HLB ⊢
  have HT := Lib.hid hT
  have HTS := Lib.hid hTs
  obtain ⟨R, hR⟩ : ∃ R, splitN (bl s) = R := ⟨_, rfl⟩
  rw [hR] at hap ⊢
  have HAP := Lib.hid hap
  have hTsz : T.size ≤ 1048577 := by omega
  have hT0 : 0 < T.size := by omega
  clear hT hR hap hTs
  go_enter Tryz.func12, Tryz.ntmps12
  go_wp2_with fail
  apply scope4 (SplJ T R w) (fun a _ => T.size - (intOf (a.tmps.getD 7 undef)).toNat)
  case h0 => rfl
  case h1 => rfl
  case h2 => rfl
  case h3 => rfl
  case first =>
    intro H0
    go_wp2_with fail
    rw [HT.out]
    go_step3
    rename_i hKK
    refine hKK _ _ ?_
    refine H0 _ _ ⟨.slice none 0 0, .slice none 0 0, 0, 0, _, _, _, _, _, _, _, _, _, _, _, _, _, _, _, _, _, _, _, _, _, _, _, _, _, _, _, _, _, _, _, _, _, _, _, _, _, _, _, _, _, _, _, _, _, _, _, _, _, _, rfl, [], [], w.heap.size, ⟨World.ownsRow_nil _ _ _ _, (fun e he => by cases he), World.ownsRow_nil _ _ _ _, Nat.le_refl _, Nat.le_refl _, Below.refl _ _⟩, ⟨by simp, by simp, (fun x hx => by cases hx), (fun e he => by cases he)⟩, ?_⟩
    show (if (0 : Nat) = 0 then _ else _)
    rw [if_pos rfl]
    exact ⟨hT0, HAP.out⟩
  case p1 =>
    rintro a wr ⟨v4, v5, F, K, u8, u9, u10, u11, u12, u13, u14, u15, u16, u17, u18, u19, u20, u21, u22, u23, u24, u25, u26, u27, u28, u29, u30, u31, u32, u33, u34, u35, u36, u37, u38, u39, u40, u41, u42, u43, u44, u45, u46, u47, u48, u49, u50, u51, u52, u53, u54, u55, u56, u57, rfl, es, ws, G0, hM, hZ, hC⟩
    obtain ⟨hFK, hK, hA⟩ : F ≤ K ∧ K + 1 < T.size ∧ autoN (wordsN es) (ws.map bl) (((bl T).drop F).take (K + 1 - F)) ((bl T).drop (K + 1)) = R := hC
    have HM := Lib.hid (And.intro hM (And.intro hZ (And.intro hFK hA)))
    clear hM hZ hA hFK
    obtain ⟨K1, hK1⟩ : ∃ K1, K + 1 = K1 := ⟨_, rfl⟩
    have HK1 := Lib.hid hK1
    have hK1l : K1 < T.size := by omega
    have hK1i : (K1 : Int) < (T.size : Int) := by omega
    have hK10 : (0 : Int) ≤ (K1 : Int) := by omega
    have hw1 : IntKind.i64.wrap ((K : Int) + 1) = (K1 : Int) := by rw [IntKind.wrap_i64]; omega
    have hget := Lib.hid (byte_at T hK1l)
    have hne := Lib.hid (take_some (t := bl T) (F := F) (K := K1) (by have := HM.out.2.2.1; omega) (by rw [bl_length]; omega))
    have HZ2 := Lib.hid (show SplZ T K1 es ws from ⟨by have := HM.out.2.1.wl; omega, by have := HM.out.2.1.el; omega, HM.out.2.1.wz, HM.out.2.1.ez⟩)
    have HA2 := Lib.hid (show autoN (wordsN es) (ws.map bl) (((bl T).drop F).take (K1 - F)) (T[K1] :: (bl T).drop (K1 + 1)) = R by
      have := HM.out.2.2.2
      rw [HK1.out, hget.out] at this
      exact this)
    clear hK1
    by_cases h32 : T[K1] = 32
    · have hb : ((T[K1].toNat : Int) == 32) = true := by rw [h32]; rfl
      have HC2 := Lib.hid (show SplC T R 2 F K1 (wordsN es) (ws.map bl) by
        show F < K1 ∧ K1 + 1 < T.size ∧ _
        refine ⟨by have := HM.out.2.2.1; have := HK1.out; omega, HLB.out K1 hK1l (by rw [h32]; decide), ?_⟩
        have := HA2.out
        rw [h32, auto_word hne.out] at this
        exact this)
      clear h32
      go_wp2
      go_step3
      refine ⟨by decide, ⟨v4, v5, F, K1, _, _, _, _, _, _, _, _, _, _, _, _, _, _, _, _, _, _, _, _, _, _, _, _, _, _, _, _, _, _, _, _, _, _, _, _, _, _, _, _, _, _, _, _, _, _, _, _, _, _, rfl, es, ws, G0, HM.out.1, HZ2.out, HC2.out⟩, ?_⟩
      show T.size - K1 < T.size - K
      have := HK1.out
      omega
    · have hb : ((T[K1].toNat : Int) == 32) = false := by rw [beq_eq_false_iff_ne]; intro e; apply h32; exact UInt8.toNat_inj.1 (by show T[K1].toNat = 32; omega)
      by_cases h59 : T[K1] = 59
      · have hb9 : ((T[K1].toNat : Int) == 59) = true := by rw [h59]; rfl
        have HC2 := Lib.hid (show SplC T R 3 F K1 (wordsN es) (ws.map bl) by
          show F < K1 ∧ K1 < T.size ∧ _
          refine ⟨by have := HM.out.2.2.1; have := HK1.out; omega, hK1l, ?_⟩
          have := HA2.out
          rw [h59, auto_node hne.out] at this
          exact this)
        clear h32 h59
        go_wp2
        go_step3
        refine ⟨by decide, ⟨v4, v5, F, K1, _, _, _, _, _, _, _, _, _, _, _, _, _, _, _, _, _, _, _, _, _, _, _, _, _, _, _, _, _, _, _, _, _, _, _, _, _, _, _, _, _, _, _, _, _, _, _, _, _, _, rfl, es, ws, G0, HM.out.1, HZ2.out, HC2.out⟩, ?_⟩
        show T.size - K1 < T.size - K
        have := HK1.out
        omega
      · have hb9 : ((T[K1].toNat : Int) == 59) = false := by rw [beq_eq_false_iff_ne]; intro e; apply h59; exact UInt8.toNat_inj.1 (by show T[K1].toNat = 59; omega)
        have HC2 := Lib.hid (show SplC T R 1 F K1 (wordsN es) (ws.map bl) by
          show F ≤ K1 ∧ K1 + 1 < T.size ∧ _
          refine ⟨by have := HM.out.2.2.1; have := HK1.out; omega, HLB.out K1 hK1l h59, ?_⟩
          rw [take_more (by have := HM.out.2.2.1; have := HK1.out; omega) hget.out, ← auto_go h32 h59]
          exact HA2.out)
        clear h32 h59
        go_wp2
        go_step3
        refine ⟨by decide, ⟨v4, v5, F, K1, _, _, _, _, _, _, _, _, _, _, _, _, _, _, _, _, _, _, _, _, _, _, _, _, _, _, _, _, _, _, _, _, _, _, _, _, _, _, _, _, _, _, _, _, _, _, _, _, _, _, rfl, es, ws, G0, HM.out.1, HZ2.out, HC2.out⟩, ?_⟩
        show T.size - K1 < T.size - K
        have := HK1.out
        omega
  case p0' =>
    intro H1
    rintro a wr ⟨v4, v5, F, K, u8, u9, u10, u11, u12, u13, u14, u15, u16, u17, u18, u19, u20, u21, u22, u23, u24, u25, u26, u27, u28, u29, u30, u31, u32, u33, u34, u35, u36, u37, u38, u39, u40, u41, u42, u43, u44, u45, u46, u47, u48, u49, u50, u51, u52, u53, u54, u55, u56, u57, rfl, es, ws, G0, hM, hZ, hC⟩
    obtain ⟨hK, hA⟩ : K < T.size ∧ autoN (wordsN es) (ws.map bl) [] ((bl T).drop K) = R := hC
    rw [byte_at T hK] at hA
    have HM := Lib.hid (And.intro hM (And.intro hZ hA))
    have hKi : (K : Int) < (T.size : Int) := by omega
    have hK0 : (0 : Int) ≤ (K : Int) := by omega
    clear hM hZ hA
    by_cases h32 : T[K] = 32
    · have hb : ((T[K].toNat : Int) == 32) = true := by rw [h32]; rfl
      have HN := Lib.hid (show R = none by rw [← HM.out.2.2]; exact auto_begin_no (.inl h32))
      clear h32
      go_wp2
      simp only [jumps4]
      go_ret2
      rw [HN.out]
      exact splAns_no rfl HM.out.1.bel
    · have hb : ((T[K].toNat : Int) == 32) = false := by rw [beq_eq_false_iff_ne]; intro e; apply h32; exact UInt8.toNat_inj.1 (by show T[K].toNat = 32; omega)
      by_cases h59 : T[K] = 59
      · have hb9 : ((T[K].toNat : Int) == 59) = true := by rw [h59]; rfl
        have HN := Lib.hid (show R = none by rw [← HM.out.2.2]; exact auto_begin_no (.inr h59))
        clear h32 h59
        go_wp2
        simp only [jumps4]
        go_ret2
        rw [HN.out]
        exact splAns_no rfl HM.out.1.bel
      · have hb9 : ((T[K].toNat : Int) == 59) = false := by rw [beq_eq_false_iff_ne]; intro e; apply h59; exact UInt8.toNat_inj.1 (by show T[K].toNat = 59; omega)
        have HC2 := Lib.hid (show SplC T R 1 K K (wordsN es) (ws.map bl) by
          show K ≤ K ∧ K + 1 < T.size ∧ _
          refine ⟨Nat.le_refl _, HLB.out K hK h59, ?_⟩
          rw [take_more (Nat.le_refl _) (byte_at T hK), Nat.sub_self, List.take_zero, ← auto_go h32 h59]
          exact HM.out.2.2)
        clear h32 h59
        go_wp2
        go_step3
        rename_i hKK
        refine hKK _ _ ?_
        refine wp_mono (H1 _ _ ⟨v4, v5, K, K, _, _, _, _, _, _, _, _, _, _, _, _, _, _, _, _, _, _, _, _, _, _, _, _, _, _, _, _, _, _, _, _, _, _, _, _, _, _, _, _, _, _, _, _, _, _, _, _, _, _, rfl, es, ws, G0, HM.out.1, HM.out.2.1, HC2.out⟩) ?_
        intro e a' w' hq
        exact hq
  case p2 =>
    rintro a wr ⟨v4, v5, F, K, u8, u9, u10, u11, u12, u13, u14, u15, u16, u17, u18, u19, u20, u21, u22, u23, u24, u25, u26, u27, u28, u29, u30, u31, u32, u33, u34, u35, u36, u37, u38, u39, u40, u41, u42, u43, u44, u45, u46, u47, u48, u49, u50, u51, u52, u53, u54, u55, u56, u57, rfl, es, ws, G0, hM, hZ, hC⟩
    obtain ⟨hFK, hK, hA⟩ : F < K ∧ K + 1 < T.size ∧ autoN (wordsN es) (ws.map bl ++ [((bl T).drop F).take (K - F)]) [] ((bl T).drop (K + 1)) = R := hC
    obtain ⟨A5, c5, rfl⟩ := own_form hM.words
    have HM := Lib.hid (And.intro hM (And.intro hZ hA))
    have hsz := hM.bel.size
    have hhi := hM.hi
    have hwl := hZ.wl
    clear hM hZ hA
    obtain ⟨n, hn⟩ : ∃ n, ws.length = n := ⟨_, rfl⟩
    have HN := Lib.hid hn
    rw [hn] at hwl ⊢
    obtain ⟨K1, hK1⟩ : ∃ K1, K + 1 = K1 := ⟨_, rfl⟩
    have HK1 := Lib.hid hK1
    have hw1 : IntKind.i64.wrap ((K : Int) + 1) = (K1 : Int) := by rw [IntKind.wrap_i64]; omega
    have hF0 : (0 : Int) ≤ (F : Int) := by omega
    have hFi : (F : Int) ≤ (K : Int) := by omega
    have hKi : (K : Int) ≤ (T.size : Int) := by omega
    have HX := Lib.hid (show wr.ownsRow G0 9 1 (.slice A5 n c5) n (strl ws) by have := HM.out.1.words; rw [hn] at this; exact this)
    clear hn hK1
    go_wp2_with (at_builtin; refine wpList_append_any _ (by rfl) (.tmp 26) (.tmp 31) 28 (by rfl) G0 9 i0 (.string ⟨#[]⟩) 1 16 Tryz.underlying28 hi0 hz0 hz1 hz2 rfl (by decide) (.slice A5 n c5) n (strl ws) (by rfl) (HX.out.alloc _) _ (some ⟨wr.heap.size, 0, none⟩) 1 1 [.string (T.extract F K)] (by rfl) (reads_newP _ _ _) (by simp [Value.oneCell']) (by simp only [maxLen]; omega) (by omega) (by rw [World.size_alloc]; omega) ?_; intro v3 w3 hown3 hgrow3 _)
    have HM3 := Lib.hid (show SplM T w v4 v3 es (ws ++ [T.extract F K]) G0 w3 by
      have h1 := HM.out.1
      have h2 := hgrow3
      have h3 := hown3
      rw [← HN.out] at h2 h3
      exact h1.grownW h2 h3)
    have HC3 := Lib.hid (show SplC T R 0 F K1 (wordsN es) ((ws ++ [T.extract F K]).map bl) by
      show K1 < T.size ∧ _
      refine ⟨by have := HK1.out; omega, ?_⟩
      have e := piece_bl T F K
      unfold piece at e
      rw [List.map_append, List.map_cons, List.map_nil, e, ← HK1.out]
      exact HM.out.2.2)
    have HZ3 := Lib.hid (show SplZ T K1 es (ws ++ [T.extract F K]) from ⟨by rw [List.length_append, HN.out]; have := HK1.out; simp; omega, by have := HM.out.2.1.el; have := HK1.out; omega, fun x hx => by
      rcases List.mem_append.1 hx with hx | hx
      · exact HM.out.2.1.wz x hx
      · obtain rfl : x = T.extract F K := by simpa using hx
        rw [ByteArray.size_extract]; omega, HM.out.2.1.ez⟩)
    clear hown3 hgrow3
    go_step3
    refine ⟨by decide, ⟨v4, v3, F, K1, _, _, _, _, _, _, _, _, _, _, _, _, _, _, _, _, _, _, _, _, _, _, _, _, _, _, _, _, _, _, _, _, _, _, _, _, _, _, _, _, _, _, _, _, _, _, _, _, _, _, rfl, es, _, G0, HM3.out, HZ3.out, HC3.out⟩, ?_⟩
    show T.size - K1 < T.size - K
    have := HK1.out
    omega
  case p3 =>
    rintro a wr ⟨v4, v5, F, K, u8, u9, u10, u11, u12, u13, u14, u15, u16, u17, u18, u19, u20, u21, u22, u23, u24, u25, u26, u27, u28, u29, u30, u31, u32, u33, u34, u35, u36, u37, u38, u39, u40, u41, u42, u43, u44, u45, u46, u47, u48, u49, u50, u51, u52, u53, u54, u55, u56, u57, rfl, es, ws, G0, hM, hZ, hC⟩
    obtain ⟨hFK, hK, hA⟩ : F < K ∧ K < T.size ∧ autoE (wordsN es ++ [ws.map bl ++ [((bl T).drop F).take (K - F)]]) ((bl T).drop (K + 1)) = R := hC
    obtain ⟨A5, c5, rfl⟩ := own_form hM.words
    obtain ⟨A4, c4, rfl⟩ := own_form hM.nodes
    have HM := Lib.hid (And.intro hM (And.intro hZ hA))
    have hsz := hM.bel.size
    have hhi := hM.hi
    have hwl := hZ.wl
    have hel := hZ.el
    clear hM hZ hA
    obtain ⟨n, hn⟩ : ∃ n, ws.length = n := ⟨_, rfl⟩
    have HN := Lib.hid hn
    obtain ⟨m, hm⟩ : ∃ m, es.length = m := ⟨_, rfl⟩
    have HMM := Lib.hid hm
    rw [hn] at hwl ⊢
    rw [hm] at hel ⊢
    obtain ⟨K1, hK1⟩ : ∃ K1, K + 1 = K1 := ⟨_, rfl⟩
    have HK1 := Lib.hid hK1
    have hw1 : IntKind.i64.wrap ((K : Int) + 1) = (K1 : Int) := by rw [IntKind.wrap_i64]; omega
    have hF0 : (0 : Int) ≤ (F : Int) := by omega
    have hFi : (F : Int) ≤ (K : Int) := by omega
    have hKi : (K : Int) ≤ (T.size : Int) := by omega
    have HX := Lib.hid (show wr.ownsRow G0 9 1 (.slice A5 n c5) n (strl ws) by have := HM.out.1.words; rw [hn] at this; exact this)
    clear hn hm hK1
    have HY0 := Lib.hid (show wr.ownsRow w.heap.size 28 1 (.slice A4 m c4) m (es.map WN.v) by have := HM.out.1.nodes; rw [HMM.out] at this; exact this)
    have hsl := HK1.out
    go_upto_region 17 with (first | (at_builtin; (refine wpList_append_any _ (by rfl) (.tmp 36) (.tmp 41) 28 (by rfl) G0 9 i0 (.string ⟨#[]⟩) 1 16 Tryz.underlying28 hi0 hz0 hz1 hz2 rfl (by decide) (.slice A5 n c5) n (strl ws) (by rfl) (HX.out.alloc _) _ (some ⟨wr.heap.size, 0, none⟩) 1 1 [.string (T.extract F K)] (by rfl) (reads_newP _ _ _) (by simp [Value.oneCell']) (by simp only [maxLen]; omega) (by omega) (by rw [World.size_alloc]; omega) ?_; intro v3 w3 hown3 hgrow3 _; have HY := Lib.hid (keep_nodes HY0.out HX.out hgrow3); have hs3 := hgrow3.size; rw [World.size_alloc] at hs3; obtain ⟨A3, c3, hv3⟩ := own_form hown3; subst hv3)) | (at_builtin; refine wpList_append_any _ (by rfl) (.tmp 35) (.tmp 43) 37 (by rfl) w.heap.size 28 i1 (.slice none 0 0) 1 24 Tryz.underlying37 hi1 hy0 hy1 hy2 rfl (by decide) (.slice A4 m c4) m (es.map WN.v) (by rfl) (HY.out.alloc _) _ (some ⟨w3.heap.size, 0, none⟩) 1 1 [.slice A3 (n + 1) c3] (by rfl) (reads_newP _ _ _) (by simp [Value.oneCell']) (by simp only [maxLen]; omega) (by omega) (by rw [World.size_alloc]; omega) ?_; intro v7 w7 hown7 hgrow7 _))
    have HM3 := Lib.hid (show SplM T w (.slice A4 es.length c4) (.slice A3 (ws.length + 1) c3) es (ws ++ [T.extract F K]) G0 w3 by
      have h1 := HM.out.1
      have h2 := hgrow3
      have h3 := hown3
      rw [← HN.out] at h2 h3
      exact h1.grownW h2 h3)
    have HM7 := Lib.hid (show SplM T w v7 (.slice none 0 0) (es ++ [⟨.slice A3 (ws.length + 1) c3, ws ++ [T.extract F K]⟩]) [] w7.heap.size w7 by
      have h1 := HM3.out
      have h2 := hgrow7
      have h3 := hown7
      rw [← HMM.out, ← HN.out] at h3
      rw [← HMM.out, ← HN.out] at h2
      exact h1.grownN h2 h3)
    have hwN : wordsN (es ++ [(⟨.slice A3 (ws.length + 1) c3, ws ++ [T.extract F K]⟩ : WN)]) = wordsN es ++ [ws.map bl ++ [((bl T).drop F).take (K - F)]] := by
      have e := piece_bl T F K
      unfold piece at e
      rw [wordsN_snoc, List.map_append, List.map_cons, List.map_nil, e]
    have HWN := Lib.hid hwN
    have HZ7 := Lib.hid (show SplZ T (K + 2) (es ++ [(⟨.slice A3 (ws.length + 1) c3, ws ++ [T.extract F K]⟩ : WN)]) [] ∧ (es ++ [(⟨.slice A3 (ws.length + 1) c3, ws ++ [T.extract F K]⟩ : WN)]).length ≤ T.size from by
      have h1 := HM.out.2.1
      have hel2 : (es ++ [(⟨.slice A3 (ws.length + 1) c3, ws ++ [T.extract F K]⟩ : WN)]).length = m + 1 := by rw [List.length_append, HMM.out]; rfl
      refine ⟨⟨by simp, by rw [hel2]; omega, (fun x hx => by cases hx), fun e he => ?_⟩, by rw [hel2]; omega⟩
      rcases List.mem_append.1 he with he | he
      · exact h1.ez e he
      · obtain rfl : e = ⟨.slice A3 (ws.length + 1) c3, ws ++ [T.extract F K]⟩ := by simpa using he
        refine ⟨by rw [List.length_append, HN.out]; simp; omega, fun x hx => ?_⟩
        rcases List.mem_append.1 hx with hx | hx
        · exact h1.wz x hx
        · obtain rfl : x = T.extract F K := by simpa using hx
          rw [ByteArray.size_extract]; omega)
    have HA7 := Lib.hid (show autoE (wordsN (es ++ [(⟨.slice A3 (ws.length + 1) c3, ws ++ [T.extract F K]⟩ : WN)])) ((bl T).drop K1) = R by rw [HWN.out, ← HK1.out]; exact HM.out.2.2)
    generalize hee : es ++ [(⟨.slice A3 (ws.length + 1) c3, ws ++ [T.extract F K]⟩ : WN)] = es7 at *
    obtain ⟨A7, c7, rfl⟩ := own_form HM7.out.nodes
    clear hown3 hgrow3 hown7 hgrow7 hwN hsl hee
    by_cases hend : K1 = T.size
    · have hbe : ((K1 : Int) == (T.size : Int)) = true := by rw [beq_iff_eq]; omega
      have HR2 := Lib.hid (show R = some (wordsN es7) by
        rw [← HA7.out, List.drop_eq_nil_iff.2 (by rw [bl_length]; omega)]; rfl)
      clear hend
      go_wp2
      simp only [jumps4]
      go_ret2
      refine ⟨(fun h => by rw [HR2.out] at h; cases h), HM7.out.bel, fun q hq => ?_⟩
      rw [HR2.out] at hq
      obtain rfl := Option.some.inj hq
      exact ⟨A7, c7, es7, rfl, rfl, HM7.out.nodes, fun e he => (HM7.out.each e he).1, HZ7.out.2, HZ7.out.1.ez⟩
    · have hbe : ((K1 : Int) == (T.size : Int)) = false := by rw [beq_eq_false_iff_ne]; omega
      have hK1l : K1 < T.size := by have := HK1.out; omega
      have hK1i : (K1 : Int) < (T.size : Int) := by omega
      have hget := Lib.hid (byte_at T hK1l)
      clear hend
      by_cases h32 : T[K1] = 32
      · have hb : ((T[K1].toNat : Int) != 32) = false := by rw [h32]; rfl
        obtain ⟨K2, hK2⟩ : ∃ K2, K1 + 1 = K2 := ⟨_, rfl⟩
        have HK2 := Lib.hid hK2
        have hw2 : IntKind.i64.wrap ((K1 : Int) + 1) = (K2 : Int) := by rw [IntKind.wrap_i64]; omega
        have HC7 := Lib.hid (show SplC T R 0 F K2 (wordsN es7) ([].map bl) by
          show K2 < T.size ∧ _
          refine ⟨by have := HLB.out K1 hK1l (by rw [h32]; decide); omega, ?_⟩
          have := HA7.out
          rw [hget.out, h32, autoE_cons, if_pos rfl, hK2] at this
          exact this)
        clear h32 hK2
        go_wp2
        go_step3
        refine ⟨by decide, ⟨.slice A7 es7.length c7, .slice none 0 0, F, K2, _, _, _, _, _, _, _, _, _, _, _, _, _, _, _, _, _, _, _, _, _, _, _, _, _, _, _, _, _, _, _, _, _, _, _, _, _, _, _, _, _, _, _, _, _, _, _, _, _, _, rfl, es7, [], w7.heap.size, HM7.out, ?_, HC7.out⟩, ?_⟩
        · have := HZ7.out.1
          rw [show K + 2 = K2 by have := HK1.out; have := HK2.out; omega] at this
          exact this
        · show T.size - K2 < T.size - K
          have := HK1.out
          have := HK2.out
          omega
      · have hb : ((T[K1].toNat : Int) != 32) = true := by
          rw [bne_iff_ne]
          intro e
          apply h32
          exact UInt8.toNat_inj.1 (by show T[K1].toNat = 32; omega)
        have HR2 := Lib.hid (show R = none by rw [← HA7.out, hget.out, autoE_cons, if_neg h32])
        clear h32
        go_wp2
        simp only [jumps4]
        go_ret2
        rw [HR2.out]
        exact splAns_no rfl HM7.out.bel
end Go.Proofs.YtpadhcoboapodaaGreatDoor
