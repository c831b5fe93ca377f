/- The contract of the program's TableIn: a table of the call's own; nothing that lay has turned. -/
import Derived.Test.YtedbjjhkjkpnkaaBas3
namespace Go.Proofs.Ytedbjjhkjkpnkaa
open Go.RowKit

theorem copyTab_w {s : ByteArray} {wd : Int} {rows : List (List Int)} {w : World} {e : Ending} {w' : World} (h : CopyTab s wd rows w e w') :
    ∃ A c es, e = .returned (.agg #[.string s, .int .i64 wd, .slice A rows.length c]) ∧ WRows w' w.heap.size (.slice A rows.length c) es ∧ es.map Ent.r = rows ∧ Below w.heap.size w w' := by
  obtain ⟨g, es, he, hB, hE, hlo, hr, hb⟩ := h
  have hl : es.length = rows.length := by rw [← hr, List.length_map]
  refine ⟨_, _, es, he, ?_, hr, hb⟩
  rw [← hl]
  exact WRows.of_blk hB (by rw [List.take_of_length_le (by rw [rowCs_length]; exact Nat.le_refl _)]) hE hlo
theorem wans_end0 {w w7 : World} {G lo : Nat} {s : ByteArray} {wd : Int} {rows : List (List Int)} {u a0 a1 : Value} {es : List Ent} (hG : w.heap.size = G) (hO : WRows w7 lo u es) (hlo : G < lo) (he : es.map Ent.r = rows) (hW : Below G w w7) :
    WTab w.heap.size s wd rows (.agg #[.string s, .int .i64 wd, u]) (((w7.setCell ⟨G, 0, none⟩ a0).setCell ⟨G, 1, none⟩ a1).setCell ⟨G, 2, none⟩ u) ∧ Below w.heap.size w (((w7.setCell ⟨G, 0, none⟩ a0).setCell ⟨G, 1, none⟩ a1).setCell ⟨G, 2, none⟩ u) := by
  subst hG
  refine ⟨⟨u, es, rfl, ?_, he⟩, ?_⟩
  · exact WRows.lower (lo := lo) (((hO.keep hO.inside (fun b hb _ => Below.heap_setCell w7 ⟨w.heap.size, 0, none⟩ _ b (by simp; omega))).keep (hi := w7.heap.size) hO.inside (fun b hb _ => Below.heap_setCell _ ⟨w.heap.size, 1, none⟩ _ b (by simp; omega))).keep (hi := w7.heap.size) hO.inside (fun b hb _ => Below.heap_setCell _ ⟨w.heap.size, 2, none⟩ _ b (by simp; omega))) (by omega)
  · exact ((hW.setCell (p := ⟨w.heap.size, 0, none⟩) (by simp) _).setCell (p := ⟨w.heap.size, 1, none⟩) (by simp) _).setCell (p := ⟨w.heap.size, 2, none⟩) (by simp) _
theorem inT_fit {ts : List TB} (n : ByteArray) (hf : fitT 1048576 ts) : (inT ts n).rows.length ≤ 1048576 ∧ ∀ j, j < (inT ts n).rows.length → (rr (inT ts n).rows j).length ≤ 1048576 := by
  unfold inT
  split
  · rename_i hi; exact (hf _ hi).2
  · exact ⟨Nat.zero_le _, fun j hj => absurd hj (by simp [zeroT])⟩
set_option maxRecDepth 100000 in
set_option maxHeartbeats 4000000 in
theorem implTableIn_any (A : Option Addr) (c : Nat) (ts : List TB) (n : ByteArray) (w : World) (hT : Tabs w w.heap.size A ts) (hf : fitT 1048576 ts) (hl : ts.length ≤ 1048576) :
    Calls Try.prog 84 #[.slice A ts.length c, .string n] w (WAns (inT ts n).n (inT ts n).wd (inT ts n).rows (inB6 ts n) w) := by
  have bc := (Below.refl w.heap.size w).alloc (Nat.le_refl _) (.cells #[.string ⟨#[]⟩, .int .i64 0, .slice none 0 0] 28)
  have BR := Blk.new w 28 #[.string ⟨#[]⟩, .int .i64 0, .slice none 0 0]
  have HFT := Lib.hid hf
  clear hf
  go_enter Try.func84, Try.ntmps84
  go_wp2
  generalize w.alloc (.cells #[.string ⟨#[]⟩, .int .i64 0, .slice none 0 0] 28) = wb at *
  obtain ⟨G, hG⟩ : ∃ G, w.heap.size = G := ⟨_, rfl⟩
  have HG := Lib.hid hG
  rw [hG] at bc BR ⊢
  clear hG
  go_loopw [10] (fun i wr => ∃ k : Nat, k ≤ ts.length ∧ i = .int .i64 k ∧ fndN ts n = k + fndN (ts.drop k) n ∧ Blk wr G 28 #[.string ⟨#[]⟩, .int .i64 0, .slice none 0 0] ∧ Below G w wr) (fun i _ => ts.length - (intOf i).toNat)
  case atStart => exact ⟨0, Nat.zero_le _, rfl, by simp, BR, bc⟩
  case round =>
    clear BR bc
    obtain ⟨k, hk, rfl, hfd, BR, hW⟩ := hrel
    have HF := Lib.hid hfd
    clear hfd
    have hTr : Tabs wr wr.heap.size A ts := hT.on (by rw [HG.out]; exact hW)
    have hGl := BR.lt
    clear hT
    by_cases hlt : k < ts.length
    · obtain ⟨b, off, Ar, cr, rfl, hb, c0, c1, c2, hR⟩ := hTr.here hlt
      obtain ⟨f1, f2, _⟩ := HFT.out k hlt
      have bb := (Below.refl wr.heap.size wr).alloc (Nat.le_refl _) (.cells #[.string (tx ts k).n, .int .i64 (tx ts k).wd, .slice Ar (tx ts k).rows.length cr] 28)
      have hcm := same_name (tx ts k).n n
      have hk0 : (0 : Int) ≤ (k : Int) := Int.natCast_nonneg _
      have hk1 : (k : Int) < (ts.length : Int) := by omega
      clear hTr
      by_cases hn : (tx ts k).n = n
      · rw [decide_eq_true hn] at hcm
        have HI := Lib.hid (show inT ts n = tx ts k ∧ inB6 ts n = true by
          have : fndN ts n = k := by rw [HF.out, fndN_yes hlt hn]; rfl
          unfold inT inB6
          rw [this, if_pos hlt]; exact ⟨rfl, decide_eq_true hlt⟩)
        clear hn HF
        have hRb := hR.on bb
        have BRb := BR.on bb
        have hWb : Below G w _ := hW.trans (bb.mono (by omega))
        go_wp2_with fail
        generalize hwb : wr.alloc (.cells #[.string (tx ts k).n, .int .i64 (tx ts k).wd, .slice Ar (tx ts k).rows.length cr] 28) = wx at *
        have hsx : G < wx.heap.size := BRb.lt
        clear hwb
        refine (copyOfTable_any (tx ts k).n (tx ts k).wd Ar cr (tx ts k).rows wx hRb (by omega)).mono ?_
        rintro e w2 hct
        obtain ⟨Au, cu, es, rfl, hO2, he2, hb2⟩ := copyTab_w hct
        have BR2 := BRb.on hb2
        have hW2 : Below G w w2 := hWb.trans (hb2.mono (by omega))
        have HE2 := Lib.hid he2
        have r0 := BR2.cell 0
        have r1 := BR2.cell 1
        have r2 := BR2.cell 2
        have fr0 := BR2.frozen 0
        have fr1 := BR2.frozen 1
        have fr2 := BR2.frozen 2
        simp only [List.getElem?_toArray, List.getElem?_cons_zero, List.getElem?_cons_succ] at r0 r1 r2
        clear he2 BR BRb BR2 c0 c1 c2 hR hRb hb2 bb hct hWb
        go_wp2
        refine bodyPost_ret (v := .tuple #[.agg #[.string (tx ts k).n, .int .i64 (tx ts k).wd, .slice Au (tx ts k).rows.length cu], .bool true]) (by simp [results, Try.f84, go_sem, *]) rfl ?_
        rw [HI.out.1, HI.out.2]
        exact ⟨_, rfl, wans_end0 HG.out hO2 hsx HE2.out hW2⟩
      · rw [decide_eq_false hn] at hcm
        have HR := Lib.hid (show fndN ts n = k + 1 + fndN (ts.drop (k + 1)) n by rw [HF.out, fndN_no hlt hn]; omega)
        have BRb := BR.on bb
        have hWb : Below G w _ := hW.trans (bb.mono (by omega))
        clear hn HF bb BR hW
        go_wp2
        go_roundw
        case rel => exact ⟨k + 1, by omega, by go_num, HR.out, BRb, hWb⟩
        case measure => simp [intOf]; omega
    · have hd : decide (k < ts.length) = false := by simpa using hlt
      have HI := Lib.hid (show inT ts n = zeroT ∧ inB6 ts n = false by
        have : ¬ fndN ts n < ts.length := by rw [HF.out]; omega
        exact ⟨if_neg this, decide_eq_false this⟩)
      have r0 := BR.cell 0
      have r1 := BR.cell 1
      have r2 := BR.cell 2
      have fr0 := BR.frozen 0
      have fr1 := BR.frozen 1
      have fr2 := BR.frozen 2
      simp only [List.getElem?_toArray, List.getElem?_cons_zero, List.getElem?_cons_succ] at r0 r1 r2
      clear BR hTr HF
      go_wp2
      refine bodyPost_ret (v := .tuple #[.agg #[.string ⟨#[]⟩, .int .i64 0, .slice none 0 0], .bool false]) (by simp [results, Try.f84, go_sem, *]) rfl ?_
      rw [HI.out.1, HI.out.2]
      exact ⟨_, rfl, wans_end0 HG.out (lo := wr.heap.size) (es := []) ⟨.inl ⟨rfl, rfl⟩, EntsAt.nil _ _ _⟩ hGl rfl hW⟩
end Go.Proofs.Ytedbjjhkjkpnkaa
