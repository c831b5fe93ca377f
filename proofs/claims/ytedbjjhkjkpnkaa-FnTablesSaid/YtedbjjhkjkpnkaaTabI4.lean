/- Contracts of the program's copyOfTable and Taken: a table of the call's own; nothing that lay has turned. -/
import Derived.Test.YtedbjjhkjkpnkaaTab5
import Derived.Test.YtedbjjhkjkpnkaaJC
import Derived.Test.YtedbjjhkjkpnkaaTabI3
import Derived.Test.YtedbjjhkjkpnkaaJB
namespace Go.Proofs.Ytedbjjhkjkpnkaa
open Go.RowKit

/-- The cells of a block of n rows of which those of es are laid. -/
def part (es : List Ent) (n : Nat) : List Value := rowCs es ++ List.replicate (n - es.length) (.slice none 0 0)
theorem part_zero (n : Nat) : part [] n = List.replicate n (.slice none 0 0) := by simp [part, rowCs]
theorem part_all (es : List Ent) : part es es.length = rowCs es := by simp [part]
theorem part_get {es : List Ent} {n : Nat} (h : es.length < n) : (part es n)[es.length]? = some (.slice none 0 0) := by
  unfold part
  rw [List.getElem?_append_right (by rw [rowCs_length]; omega), rowCs_length, Nat.sub_self, List.getElem?_replicate, if_pos (by omega)]
theorem part_step {es : List Ent} {n : Nat} (h : es.length < n) (e0 : Ent) : (part es n).set es.length (.slice e0.A e0.r.length e0.c) = part (es ++ [e0]) n := by
  unfold part
  rw [List.set_append_right _ _ (by rw [rowCs_length]; omega), rowCs_length, Nat.sub_self, rowCs_append, List.length_append]
  obtain ⟨m, hm⟩ : ∃ m, n - es.length = m + 1 := ⟨n - es.length - 1, by omega⟩
  rw [hm, List.replicate_succ, List.set_cons_zero, show n - (es.length + [e0].length) = m by simp; omega]
  simp [rowCs]
theorem made_part (n : Nat) : madeCells #[Value.slice none 0 0] n = (part [] n).toArray := by
  apply Array.toList_inj.1
  rw [toList_madeCells_one, part_zero]
/-- Rows that are being laid into block g. -/
def PRows (w : World) (lo g : Nat) (es : List Ent) (n : Nat) : Prop := Blk w g 45 (part es n).toArray ∧ EntsAt w lo (some g) es ∧ lo ≤ g ∧ es.length ≤ n
theorem PRows.step {wr w1 : World} {lo g n k : Nat} {es : List Ent} {r : List Int} {A1 : Option Addr} {cap1 g1 : Nat} (h : PRows wr lo g es n) (hk : es.length = k) (hlt : k < n) (hb : Below wr.heap.size wr w1) (hR : Row w1 2 A1 r g1) (hg1 : wr.heap.size ≤ g1) :
    PRows (w1.setCell ⟨g, k, none⟩ (.slice A1 r.length cap1)) lo g (es ++ [⟨r, 0, A1, cap1, g1⟩]) n := by
  obtain ⟨hB, hE, hlo, hn⟩ := h
  have hgl := hB.lt
  subst hk
  have hB1 := (hB.below hb hgl).set_ es.length (.slice A1 r.length cap1)
  rw [List.setIfInBounds_toArray, part_step hlt ⟨r, 0, A1, cap1, g1⟩] at hB1
  have hE1 := hE.on hb
  have hE2 : EntsAt w1 lo (some g) (es ++ [⟨r, 0, A1, cap1, g1⟩]) := by
    have := hE1.ins (k := es.length) (e0 := ⟨r, 0, A1, cap1, g1⟩) hR (fun hn => ⟨by show lo ≤ g1; omega, fun e => by have e' : g1 = g := Option.some.inj e; omega, fun e he hn' => by have := hE.lt e he hn'; show e.g ≠ g1; omega⟩)
    simpa using this
  exact ⟨hB1, hE2.set_ _ _, hlo, by simp; omega⟩
/-- What a copy of a table leaves: the table, its rows in block g, of their number. -/
def CopyTab (s : ByteArray) (wd : Int) (rows : List (List Int)) (w : World) (e : Ending) (w' : World) : Prop :=
  ∃ g es, e = .returned (.agg #[.string s, .int .i64 wd, .slice (some ⟨g, 0, none⟩) rows.length rows.length]) ∧ Blk w' g 45 (rowCs es).toArray ∧ EntsAt w' w.heap.size (some g) es ∧ w.heap.size ≤ g ∧ es.map Ent.r = rows ∧ Below w.heap.size w w'
set_option maxRecDepth 100000 in
set_option maxHeartbeats 8000000 in
theorem copyOfTable_any (s : ByteArray) (wd : Int) (A : Option Addr) (c : Nat) (rows : List (List Int)) (w : World) (hR : Rws w w.heap.size A rows) (hl : rows.length ≤ 274877906944) :
    Calls Try.prog 60 #[.agg #[.string s, .int .i64 wd, .slice A rows.length c]] w (CopyTab s wd rows w) := by
  have hmk := fun wx => make_rows rows.length (by omega) wx
  have bc := (bel_two (w := w) (.cells #[.string s, .int .i64 wd, .slice A rows.length c] 28) (.cells #[.string ⟨#[]⟩, .int .i64 0, .slice none 0 0] 28)).alloc (by simp; omega) (.cells (madeCells #[Value.slice none 0 0] rows.length) 45)
  have BG := ((Blk.new w 28 #[.string s, .int .i64 wd, .slice A rows.length c]).alloc (.cells #[.string ⟨#[]⟩, .int .i64 0, .slice none 0 0] 28)).alloc (.cells (madeCells #[Value.slice none 0 0] rows.length) 45)
  have BR := (Blk.new (w.alloc (.cells #[.string s, .int .i64 wd, .slice A rows.length c] 28)) 28 #[.string ⟨#[]⟩, .int .i64 0, .slice none 0 0]).alloc (.cells (madeCells #[Value.slice none 0 0] rows.length) 45)
  have BM := Blk.new ((w.alloc (.cells #[.string s, .int .i64 wd, .slice A rows.length c] 28)).alloc (.cells #[.string ⟨#[]⟩, .int .i64 0, .slice none 0 0] 28)) 45 (madeCells #[Value.slice none 0 0] rows.length)
  have e2 : (w.alloc (.cells #[.string s, .int .i64 wd, .slice A rows.length c] 28)).heap.size = w.heap.size + 1 := by simp
  have e3 : ((w.alloc (.cells #[.string s, .int .i64 wd, .slice A rows.length c] 28)).alloc (.cells #[.string ⟨#[]⟩, .int .i64 0, .slice none 0 0] 28)).heap.size = w.heap.size + 1 + 1 := by simp
  rw [e2] at BR
  rw [e3, made_part] at BM
  have P0 : PRows _ (w.heap.size + 1 + 1) (w.heap.size + 1 + 1) [] rows.length := ⟨BM, EntsAt.nil _ _ _, Nat.le_refl _, Nat.zero_le _⟩
  clear e2 e3 BM
  go_enter Try.func60, Try.ntmps60
  go_wp2
  clear hmk
  rw [made_part] at bc BG BR ⊢
  generalize ((w.alloc (.cells #[.string s, .int .i64 wd, .slice A rows.length c] 28)).alloc (.cells #[.string ⟨#[]⟩, .int .i64 0, .slice none 0 0] 28)).alloc (.cells (part [] rows.length).toArray 45) = wb at *
  generalize hGG : w.heap.size = G at *
  have HGG := Lib.hid hGG
  clear hGG
  go_loopw [13] (fun i wr => ∃ (k : Nat) (es : List Ent), k ≤ rows.length ∧ i = .int .i64 k ∧ Blk wr G 28 #[.string s, .int .i64 wd, .slice A rows.length c] ∧ Blk wr (G + 1) 28 #[.string ⟨#[]⟩, .int .i64 0, .slice none 0 0] ∧ PRows wr (G + 1 + 1) (G + 1 + 1) es rows.length ∧ es.map Ent.r = rows.take k ∧ Below G w wr) (fun i _ => rows.length - (intOf i).toNat)
  case atStart => exact ⟨0, [], Nat.zero_le _, rfl, BG, BR, P0, by simp, bc⟩
  case round =>
    clear BG BR P0 bc
    obtain ⟨k, es, hk, rfl, BG, BR, hP, he, hW⟩ := hrel
    have HE := Lib.hid he
    have hel : es.length = k := by have := congrArg List.length HE.out; simp at this; omega
    have hOl := hP.1.lt
    clear he
    by_cases hlt : k < rows.length
    · obtain ⟨b, off, Ar, cap, rfl, hb, h1, h2, h3⟩ := (hR.below hW).here1 hlt
      have h2r := h2.more (show G ≤ wr.heap.size by omega)
      have hk0 : (0 : Int) ≤ (k : Int) := Int.natCast_nonneg _
      have HEL := Lib.hid hel
      clear hel
      go_wp2_with fail
      refine (copyOfRow_row Ar cap (rr rows k) wr h2r h3).mono ?_
      rintro e w1 ⟨A1, cap1, g1, rfl, hg1, hR1, hb1⟩
      have hP1 := hP.step (cap1 := cap1) HEL.out hlt hb1 hR1 hg1
      have m1 : w1.cell? ⟨G + 1 + 1, k, none⟩ = some (.slice none 0 0) := by
        have := (hP.1.below hb1 hOl).cell k
        rw [List.getElem?_toArray] at this
        rw [this]
        have e1 := part_get (es := es) (n := rows.length) (by rw [HEL.out]; exact hlt)
        rwa [HEL.out] at e1
      have f1 := (hP.1.below hb1 hOl).frozen k
      have BG1 := BG.below hb1 BG.lt
      have BR1 := BR.below hb1 BR.lt
      have hW1 : Below G w w1 := hW.trans (hb1.mono (by omega))
      have BG2 := BG1.far (p := ⟨G + 1 + 1, k, none⟩) (by simp; omega) (.slice A1 (rr rows k).length cap1)
      have BR2 := BR1.far (p := ⟨G + 1 + 1, k, none⟩) (by simp) (.slice A1 (rr rows k).length cap1)
      have hW2 := hW1.setCell (p := ⟨G + 1 + 1, k, none⟩) (by simp; omega) (.slice A1 (rr rows k).length cap1)
      have HP := Lib.hid (show (es ++ [(⟨rr rows k, 0, A1, cap1, g1⟩ : Ent)]).map Ent.r = rows.take (k + 1) by rw [List.map_append, HE.out, List.take_succ_eq_append_getElem hlt, ← rr_eq hlt]; rfl)
      have HP1 := Lib.hid hP1
      have HBG := Lib.hid BG2
      have HBR := Lib.hid BR2
      clear hP1 BG2 BR2 BG1 BR1 hW1 hP BG BR hW h1 h2 h2r hR1 hb1 hg1
      go_wp2
      go_roundw
      case rel => exact ⟨k + 1, _, by omega, by go_num, HBG.out, HBR.out, HP1.out, HP.out, hW2⟩
      case measure => simp [intOf]; omega
    · have hd : decide (k < rows.length) = false := by simpa using hlt
      have hkn : k = rows.length := by omega
      obtain ⟨hB, hEn, _, _⟩ := hP
      rw [show rows.length = es.length by omega, part_all] at hB
      have HE2 := Lib.hid (show es.map Ent.r = rows by rw [HE.out, List.take_of_length_le (by omega)])
      have g0 := BG.cell 0
      have g1 := BG.cell 1
      have r0 := BR.cell 0
      have r1 := BR.cell 1
      have r2 := BR.cell 2
      have fr0 := BR.frozen 0
      have fr1 := BR.frozen 1
      have fr2 := BR.frozen 2
      simp only [List.getElem?_toArray, List.getElem?_cons_zero, List.getElem?_cons_succ] at g0 g1 r0 r1 r2
      clear hel hkn HE BG BR
      go_wp2
      refine bodyPost_ret (v := .agg #[.string s, .int .i64 wd, .slice (some ⟨G + 1 + 1, 0, none⟩) rows.length rows.length]) (by simp [results, Try.f60, go_sem, *]) rfl ?_
      refine ⟨G + 1 + 1, es, rfl, ?_, ?_, by rw [HGG.out]; omega, HE2.out, ?_⟩
      · exact ((hB.far (p := ⟨G + 1, 0, none⟩) (by simp) _).far (p := ⟨G + 1, 1, none⟩) (by simp) _).far (p := ⟨G + 1, 2, none⟩) (by simp) _
      · have hne : ∀ e ∈ es, 0 < e.r.length → e.g ≠ G + 1 := fun e he hn => by have := ((hEn.1 e he).2 hn).1; omega
        rw [HGG.out]
        exact (((hEn.far ⟨G + 1, 0, none⟩ _ hne).far ⟨G + 1, 1, none⟩ _ hne).far ⟨G + 1, 2, none⟩ _ hne).lower (by omega)
      · rw [HGG.out]
        exact ((hW.setCell (p := ⟨G + 1, 0, none⟩) (by simp) _).setCell (p := ⟨G + 1, 1, none⟩) (by simp) _).setCell (p := ⟨G + 1, 2, none⟩) (by simp) _
end Go.Proofs.Ytedbjjhkjkpnkaa
