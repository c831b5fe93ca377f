/- The contract of the program's BagOf: the bag of its rows in memory of its own; nothing that lay has turned. For slices of at most 2^20 rows, each of at most 2^40. -/
import Derived.Test.YtoncfodlffofdaaBagOf2
namespace Go.Proofs.Ytoncfodlffofdaa
open Go.RowKit

/-- How many the heap's variable holds. -/
def lenAt (p : Nat) (w : World) : Nat := match w.cell? ⟨p, 0, none⟩ with | some (.slice _ n _) => n | _ => 0
theorem HP.len {w : World} {lo p g cap : Nat} {es : List Ent} (h : HP w lo p g cap es) : lenAt p w = es.length := by
  have := h.1.cell 0
  unfold lenAt
  rw [this]; rfl
theorem OBag.top {w w' : World} {lo s : Nat} {v : Value} {es : List Ent} (h : OBag w s v es) (hw : Within lo s w w') : OBag w' s v es :=
  h.keep h.inside fun b h1 h2 => hw.block b h2 (by omega)
theorem HP.far {w w' : World} {lo p g cap gb : Nat} {es : List Ent} (h : HP w lo p g cap es) (hg : w.grownBy w' (some gb)) (h1 : g < gb) (h2 : p < gb) : HP w' lo p g cap es := by
  have hlt := h.2.2.lt
  refine ⟨h.1.grown hg (fun e => by have := Option.some.inj e; omega), h.2.1, own_keepB h.2.2.1 fun r e => hg.block r (h.2.2.1.lt r e).2 (fun e2 => by have : g = r := Option.some.inj e; have := Option.some.inj e2; omega), fun e he => ⟨(h.2.2.2 e he).1.keep fun q hq => ?_, (h.2.2.2 e he).2⟩⟩
  exact World.cell?_of_block (hg.block q.block (by omega) (fun e2 => by have := Option.some.inj e2; have := h.2.1; omega))
theorem slicesEqual_yes (A A' : Option Addr) (c c' : Nat) (zs ys : List Int) (w : World) (B B' : Nat) (hI : Ints w B A zs) (hI' : Ints w B' A' ys) (hl : zs.length ≤ 1099511627776) (hl' : ys.length ≤ 1099511627776) (h : zs = ys) :
    Calls Try.prog 98 #[.slice A zs.length c, .slice A' ys.length c'] w fun e w' => e = .returned (.bool true) ∧ ∃ n, w' = w.drewN n := by rw [← decide_eq_true h]; exact slicesEqual_any A A' c c' zs ys w B B' hI hI' hl hl'
theorem slicesEqual_no (A A' : Option Addr) (c c' : Nat) (zs ys : List Int) (w : World) (B B' : Nat) (hI : Ints w B A zs) (hI' : Ints w B' A' ys) (hl : zs.length ≤ 1099511627776) (hl' : ys.length ≤ 1099511627776) (h : ¬ zs = ys) :
    Calls Try.prog 98 #[.slice A zs.length c, .slice A' ys.length c'] w fun e w' => e = .returned (.bool false) ∧ ∃ n, w' = w.drewN n := by rw [← decide_eq_false h]; exact slicesEqual_any A A' c c' zs ys w B B' hI hI' hl hl'

theorem assert_count (v : Value) (x : TypeId) (w : World) : (Instr.typeAssert (.iface 34 v) x 34 true).run Try.prog w = .ok (.tuple #[v, .bool true]) w := by
  simp [Instr.typeAssert, run_underlying Try.underlying34]

set_option maxRecDepth 100000 in
set_option maxHeartbeats 8000000 in
theorem implBagOf_any (A : Option Addr) (c : Nat) (rows : List (List Int)) (w : World) (hB : Rws w w.heap.size A rows) (hl : rows.length ≤ 1048576) :
    Calls Try.prog 83 #[.slice A rows.length c] w (OwnBag w.heap.size (bagOfL rows) w) := by
  have hta := assert_count
  have HLe := Lib.hid (show ∀ r ∈ rows, r.length ≤ 1099511627776 from fun r hr => by
    obtain ⟨j, hj, rfl⟩ := List.getElem_of_mem hr
    obtain ⟨_, _, _, _, hc⟩ := hB (by omega)
    obtain ⟨_, _, _, _, h4⟩ := hc j hj
    rwa [rr_eq hj] at h4)
  obtain ⟨i0, hi0, hz0, hz1, hz2⟩ := info_parts info_count
  have hmk := make_heap rows.length (by omega) w
  have hE0 : HC (w.alloc (.cells (madeCells #[.slice none 0 0, .int .i64 0] (rows.length * 2)) 34)) w.heap.size w.heap.size rows.length [] := ⟨World.ownsRow_made w _ rows.length (Nat.le_refl _) (by simp only [maxLen]; omega) (size_madeCells _ _), fun e he => by cases he⟩
  have b0 := (Below.refl w.heap.size w).alloc (Nat.le_refl _) (.cells (madeCells #[.slice none 0 0, .int .i64 0] (rows.length * 2)) 34)
  have b1 := b0.alloc b0.size (.cells #[.slice (some ⟨w.heap.size, 0, none⟩) 0 rows.length] 123)
  have hE1 : HP ((w.alloc (.cells (madeCells #[.slice none 0 0, .int .i64 0] (rows.length * 2)) 34)).alloc (.cells #[.slice (some ⟨w.heap.size, 0, none⟩) 0 rows.length] 123)) w.heap.size (w.heap.size + 1) w.heap.size rows.length [] := by
    refine ⟨?_, by omega, hE0.on ((Below.refl _ _).alloc (Nat.le_refl _) _)⟩
    have := Blk.new (w.alloc (.cells (madeCells #[.slice none 0 0, .int .i64 0] (rows.length * 2)) 34)) 123 #[.slice (some ⟨w.heap.size, 0, none⟩) 0 rows.length]
    rwa [World.size_alloc] at this
  clear hE0 b0
  go_enter Try.func83, Try.ntmps83
  go_wp2
  go_loopw [15] (fun s wr => ∃ (k g cap : Nat) (es : List Ent), k ≤ rows.length ∧ s = .int .i64 k ∧ HP wr w.heap.size (w.heap.size + 1) g cap es ∧ es.map Ent.r = rows.take k ∧ Below w.heap.size w wr) (fun s _ => rows.length - (intOf s).toNat)
  case atStart => exact ⟨0, w.heap.size, rows.length, [], Nat.zero_le _, rfl, hE1, rfl, b1⟩
  case round =>
    obtain ⟨k, g, cap, es, hk, rfl, hH, he, hW⟩ := hrel
    have hel : es.length = k := by have := congrArg List.length he; simp at this; omega
    have HE := Lib.hid he
    have HEL := Lib.hid hel
    have hel2 : es.length ≤ 1048576 := by omega
    have hpl := hH.1.lt
    have hp0 : wr.cell? ⟨w.heap.size + 1, 0, none⟩ = some (.slice (some ⟨g, 0, none⟩) es.length cap) := hH.1.cell 0
    have hpf := hH.1.frozen 0
    clear he hel hE1 b1 hmk
    by_cases hlt : k < rows.length
    · obtain ⟨b, off, rfl, hblt, hc⟩ := hB (by omega)
      obtain ⟨Ar, cr, c1, c3, c4⟩ := hc k hlt
      have h1 : wr.cell? ⟨b, off + k, none⟩ = some (.slice Ar (rr rows k).length cr) := (hW.cell hblt).trans c1
      have h3 := c3.below hW
      clear hc c1 c3
      have hw0 : w.heap.size ≤ wr.heap.size := hW.size
      go_wp2_with (at_builtin; refine wpList_append_any _ rfl (.tmp 19) (.tmp 22) 123 rfl w.heap.size 34 i0 _ 2 32 Try.underlying123 hi0 hz0 hz1 hz2 rfl (by decide) _ _ (entCells es) rfl (hH.2.2.1.alloc _) _ (some ⟨wr.heap.size, 0, none⟩) 1 1 [.slice Ar (rr rows k).length cr, .int .i64 1] rfl (reads_new2 wr _ _ _) (by simp [Value.oneCell']) (by simp only [maxLen]; omega) (by omega) (by rw [World.size_alloc]; omega) ?_; intro v2 w2 hown2 hg2 hat2; obtain ⟨g2, cap2, hv2, hC2⟩ := hH.2.2.push (e := ⟨rr rows k, 1, Ar, cr, 0⟩) hg2 hown2 hat2 ⟨h3, c4, rfl⟩; subst hv2; have hB2 := (hH.1.alloc _).grown hg2 (fun e => hH.ne (Option.some.inj e)); have q0 : w2.cell? ⟨w.heap.size + 1, 0, none⟩ = some (.slice (some ⟨g, 0, none⟩) es.length cap) := hB2.cell 0; have qf := hB2.frozen 0)
      have hne2 : w.heap.size + 1 ≠ g2 := by
        intro e
        obtain ⟨cur, _, h3, _⟩ := hC2.parts
        unfold Blk at hB2
        rw [← e, hB2] at h3
        injection h3 with h3
        injection h3 with _ h4 _
        exact absurd h4 (by decide)
      have hH2 := HP.put hB2 rfl (by omega) hne2 hC2
      have hW2 : Below w.heap.size w w2 := (hW.alloc hW.size _).grown hg2 (by rw [World.size_alloc]; omega) (fun r e => by have : g = r := Option.some.inj e; have := hH.2.2.lt; omega)
      have hW3 : Below w.heap.size w (w2.setCell ⟨w.heap.size + 1, 0, none⟩ (.slice (some ⟨g2, 0, none⟩) (es ++ [(⟨rr rows k, 1, Ar, cr, 0⟩ : Ent)]).length cap2)) := hW2.setCell (p := ⟨w.heap.size + 1, 0, none⟩) (by simp) _
      have e1 : (es ++ [(⟨rr rows k, 1, Ar, cr, 0⟩ : Ent)]).length = es.length + 1 := by simp
      rw [e1] at hH2 hW3
      clear e1
      have HE2 := Lib.hid (show (es ++ [(⟨rr rows k, 1, Ar, cr, 0⟩ : Ent)]).map Ent.r = rows.take (k + 1) by rw [List.map_append, HE.out, List.take_succ_eq_append_getElem hlt, rr_eq hlt]; rfl)
      have HH2 := Lib.hid hH2
      clear hown2 hg2 hat2 hC2 hB2 hH hW hW2 q0 qf hH2 hp0 hpf h1 h3
      go_wp2
      go_roundw
      case rel => exact ⟨k + 1, g2, cap2, _, by omega, by go_num, HH2.out, HE2.out, hW3⟩
      case measure => simp [intOf]; omega
    · have hd : decide (k < rows.length) = false := by simpa using hlt
      have HEQ := Lib.hid (show es.map Ent.r = rows by rw [HE.out, List.take_of_length_le (by omega)])
      have hgl := hH.2.2.lt
      clear HE HEL hB hp0 hpf
      go_wp2_with fail
      refine (heapInit_any w.heap.size wr.heap.size (w.heap.size + 1) g cap es wr hH hgl.2 (by omega)).mono ?_
      rintro e w2 ⟨⟨v2, rfl⟩, hs, hH2, hl2, hp2, hF2, hW2⟩
      have hlow : w.heap.size ≤ wr.heap.size := hW.size
      have hb2 : Below w.heap.size w w2 := hW.trans (hW2.bel hlow)
      have hgt : g < w2.heap.size := by have := hW2.size; omega
      have hpt : w.heap.size + 1 < w2.heap.size := by have := hW2.size; omega
      have hE3 := OBag.nil (empty_counts w2)
      have b3 := (Below.refl w2.heap.size w2).alloc (Nat.le_refl _) (.cells #[] 34)
      have hH3 := hH2.on b3
      have hb3 : Below w.heap.size w (w2.alloc (.cells #[] 34)) := hb2.trans (b3.mono hb2.size)
      have HPM := Lib.hid (show rows.Perm ([] ++ hs.map Ent.r) by
        have := (hp2.map Ent.r).symm
        rw [HEQ.out] at this
        simpa using this)
      have HF3 := Lib.hid (show HF hs hs.length 0 by rw [hl2]; exact hF2)
      clear hl2 hp2 hF2 hW2 hH2 hH hW hgl HEQ b3
      go_wp2
      go_loopw [6, 7, 8, 9] (fun v _ _ _ wq => ∃ (gb cb : Nat) (bs hs : List Ent) (pre : List (List Int)), v = .slice (some ⟨gb, 0, none⟩) bs.length cb ∧ HP wq w.heap.size (w.heap.size + 1) g cap hs ∧ HF hs hs.length 0 ∧ OB wq w2.heap.size gb cb bs ∧ bs.map Ent.pair = bagOfL pre ∧ rows.Perm (pre ++ hs.map Ent.r) ∧ (∀ f ∈ hs, ∀ q ∈ bagOfL pre, lessB f.r q.1 = false) ∧ Below w.heap.size w wq) (fun _ _ _ _ wq => lenAt (w.heap.size + 1) wq)
      case atStart => exact ⟨w2.heap.size, 0, [], hs, [], rfl, hH3, HF3.out, hE3, rfl, HPM.out, fun f _ q hq => (by cases hq), hb3⟩
      case round =>
        obtain ⟨gb, cb, bs, ts, pre, rfl, hH, hF, hO, hbs, hpm, hle, hW⟩ := hrel
        have HHF := Lib.hid hF
        have HBS := Lib.hid hbs
        have HPM2 := Lib.hid hpm
        have HLE := Lib.hid hle
        have hlen := hH.len
        have HLEN := Lib.hid hlen
        have hp0 : wr.cell? ⟨w.heap.size + 1, 0, none⟩ = some (.slice (some ⟨g, 0, none⟩) ts.length cap) := hH.1.cell 0
        have hpl := hH.1.lt
        have htot : pre.length + ts.length = rows.length := by have := HPM2.out.length_eq; simp at this; omega
        clear hF hbs hpm hle hlen hH3 hE3 HF3 HPM hb3
        have hgb := hO.lt
        by_cases h0 : 0 < ts.length
        · obtain ⟨n, hn⟩ : ∃ n, ts.length = n + 1 := ⟨ts.length - 1, by omega⟩
          have HN := Lib.hid hn
          have hnb : n < 1048576 := by omega
          have hc0 := hH.2.2.2 ts[0] (List.getElem_mem h0)
          rw [← ex_eq h0] at hc0
          have HMEM := Lib.hid (show ex ts 0 ∈ ts by rw [ex_eq h0]; exact List.getElem_mem h0)
          clear hn
          go_wp2_with fail
          refine (heapLen_any _ _ _ wr).mono ?_
          rintro e w' ⟨rfl, rfl⟩
          go_wp2_with fail
          refine (heapPop_any w.heap.size w2.heap.size (w.heap.size + 1) g cap n ts wr hH hgt hpt HN.out (by rw [← HN.out]; exact HHF.out) (by omega)).mono ?_
          rintro e w4 ⟨rfl, fs, hH4, hfl, hpm4, hF4, hmin, hW4⟩
          have hlr : w.heap.size ≤ wr.heap.size := hW.size
          have hIr := hc0.1.below (hW4.bel hlr)
          have hrl : (kx ts 0).length ≤ 1099511627776 := hc0.2.1
          have hn1 : (ex ts 0).n = 1 := hc0.2.2
          have hIr' : Ints w4 w.heap.size (ex ts 0).A (kx ts 0) := hIr
          rw [hn1]
          have hb4 : Below w.heap.size w w4 := hW.trans (hW4.bel hlr)
          have hO4 : OB w4 w2.heap.size gb cb bs := OBag.top hO hW4
          have hpm5 : rows.Perm ((pre ++ [kx ts 0]) ++ fs.map Ent.r) := by
            have h1 := hpm4.map Ent.r
            rw [List.map_cons] at h1
            refine HPM2.out.trans ?_
            rw [List.append_assoc]
            exact List.Perm.append_left _ h1
          have hle5 : ∀ f ∈ fs, ∀ q ∈ bagOfL (pre ++ [kx ts 0]), lessB f.r q.1 = false := by
            intro f hf q hq
            rw [bagOf_snoc, withL_ins] at hq
            rcases ins_mem hq with hq | hq
            · exact HLE.out f (hpm4.symm.subset (List.mem_cons_of_mem _ hf)) q hq
            · rw [hq]; exact hmin f hf
          have hlast : ∀ q ∈ bagOfL pre, lessB (kx ts 0) q.1 = false := fun q hq => HLE.out _ HMEM.out q hq
          have hprel : pre.length ≤ 1048576 := by omega
          have hF5 : HF fs fs.length 0 := by rw [hfl]; exact hF4
          have hbl : bs.length ≤ 1048576 := by
            have h1 := congrArg List.length HBS.out
            have h2 := bagOf_length pre
            rw [List.length_map] at h1
            omega
          have HBR := Lib.hid (show ∀ e ∈ bs, e.r.length ≤ 1099511627776 from fun e he => bagOf_rows (rows := pre) (fun q hq => HLe.out q (HPM2.out.symm.subset (List.mem_append.2 (.inl hq)))) e.pair (by rw [← HBS.out]; exact List.mem_map_of_mem he))
          have HFL := Lib.hid hfl
          have HF5 := Lib.hid hF5
          have HPM5 := Lib.hid hpm5
          have HLE5 := Lib.hid hle5
          have HLAST := Lib.hid hlast
          have hs4 : w2.heap.size ≤ w4.heap.size := by have := hO4.lt; omega
          clear hIr hc0 hn1 hpm5 hle5 hlast hF5 hF4 hmin hpm4 hfl hW4 hH hO hW hp0 HMEM HLE HPM2 HHF hlr hpl
          generalize kx ts 0 = r at *
          generalize (ex ts 0).A = A0 at *
          generalize (ex ts 0).c = c0 at *
          have b5 := (Below.refl w4.heap.size w4).alloc (Nat.le_refl _) (.cells #[.slice A0 r.length c0, .int .i64 1] 34)
          have BC := Blk.new w4 34 #[.slice A0 r.length c0, .int .i64 1]
          rcases Nat.eq_zero_or_pos bs.length with hb0 | hb0
          · obtain rfl : bs = [] := List.length_eq_zero_iff.1 hb0
            clear hb0
            have LASTNEW := Lib.hid (last_new hprel HLAST.out (fun m hm => by
              have := congrArg List.length HBS.out
              rw [List.length_map, List.length_nil] at this
              omega))
            have hHa := hH4.on b5
            have hOa : OB (w4.alloc (.cells #[.slice A0 r.length c0, .int .i64 1] 34)) w2.heap.size gb cb ([] : List Ent) := OBag.on hO4 b5
            have hba : Below w.heap.size w (w4.alloc (.cells #[.slice A0 r.length c0, .int .i64 1] 34)) := hb4.trans (b5.mono hb4.size)
            have hIa : Ints (w4.alloc (.cells #[.slice A0 r.length c0, .int .i64 1] 34)) (w4.alloc (.cells #[.slice A0 r.length c0, .int .i64 1] 34)).heap.size A0 r := (hIr'.more hb4.size).on b5
            have BCa := BC
            have hlo4a : w2.heap.size ≤ (w4.alloc (.cells #[.slice A0 r.length c0, .int .i64 1] 34)).heap.size := Nat.le_trans hs4 b5.size
            have hlowa : w.heap.size ≤ (w4.alloc (.cells #[.slice A0 r.length c0, .int .i64 1] 34)).heap.size := hba.size
            have hgbG : gb < w4.heap.size := hO4.lt.2
            go_wp2_with fail
            clear hH4 hO4 hb4 hIr' BC b5 hs4
            generalize w4.alloc (.cells #[.slice A0 r.length c0, .int .i64 1] 34) = wa at *
            generalize w4.heap.size = G at *
            have hnG : some G ≠ (Value.slice (some ⟨gb, 0, none⟩) ([] : List Ent).length cb).ownBlock := fun e => by have : G = gb := Option.some.inj e; omega
            go_quiet (fail)
            have hHb : HP (wa.drewN nq) w.heap.size (w.heap.size + 1) g cap fs := hHa
            have hOb : OB (wa.drewN nq) w2.heap.size gb cb ([] : List Ent) := hOa
            have hbb := bel_drewN hba nq
            have hIb : Ints (wa.drewN nq) (wa.drewN nq).heap.size A0 r := hIa
            have BCb := BCa.drewN nq
            have hlo4b : w2.heap.size ≤ (wa.drewN nq).heap.size := hlo4a
            have hlowb : w.heap.size ≤ (wa.drewN nq).heap.size := hlowa
            clear hHa hOa hba hIa BCa hlo4a hlowa
            generalize wa.drewN nq = wb at *
            go_wp2_with fail
            have hlo4 : w2.heap.size ≤ wb.heap.size := hlo4b
            have hGl := BCb.lt
            have d0 : wb.cell? ⟨G, 0, none⟩ = some (.slice A0 r.length c0) := BCb.cell 0
            have d1 : wb.cell? ⟨G, 1, none⟩ = some (.int .i64 1) := BCb.cell 1
            go_region_held3 (fun w' => w'.cell? ⟨G, 0, none⟩ = some (.slice A0 r.length c0) ∧ w'.cell? ⟨G, 1, none⟩ = some (.int .i64 1))
              (first | go_keep | exact ⟨(far_cell (p := ⟨G, 0, none⟩) hb6 hgrow7 hGl hnG).trans d0, (far_cell (p := ⟨G, 1, none⟩) hb6 hgrow7 hGl hnG).trans d1⟩ | exact ⟨(hb6.cell (p := ⟨G, 0, none⟩) hGl).trans d0, (hb6.cell (p := ⟨G, 1, none⟩) hGl).trans d1⟩)
              (first | (refine step_append_any _ rfl (.tmp 62) (.tmp 69) 24 (by rfl) w2.heap.size 34 i0 _ 2 32 Try.underlying24 hi0 hz0 hz1 hz2 rfl (by omega) _ _ (entCells ([] : List Ent)) (by rfl) (hO6.1.alloc _) _ (some ⟨w6.heap.size, 0, none⟩) 1 1 [.slice A6 r.length c6, .int .i64 1] (by rfl) (reads_new2 w6 _ _ _) (by simp [Value.oneCell']) (by simp only [maxLen]; omega) (by omega) (by rw [World.size_alloc]; have hs1 : wb.heap.size ≤ w6.heap.size := hb6.size; omega) ?_; intro v7 w7 hown7 hgrow7 hat7) | (go_at_call 99; refine (copyOfRow_row A0 c0 r _ (by exact hIb) hrl).mono ?_; rintro e w6 ⟨A6, c6, g6, rfl, hg6, hR6, hb6⟩; have hO6 := (OBag.drewN hOb 1).on hb6))
            have hs6 : wb.heap.size ≤ w6.heap.size := hb6.size
            have hO7 : OBag w7 w2.heap.size v7 (([] : List Ent) ++ [⟨r, 1, A6, c6, g6⟩]) := OBag.pushRow hOb rfl hlo4 hg6 hR6 hO6 hown7 hgrow7 hat7
            obtain ⟨g7, hg7⟩ : ∃ g7, v7.ownBlock = some g7 := by
              rcases hat7 with h | h
              · exact ⟨_, h⟩
              · exact ⟨_, h⟩
            obtain ⟨c7, hv7, hOB7⟩ := hO7.ob hg7
            have b67 : Below wb.heap.size wb.drew (w6.alloc (.cells #[.slice A6 r.length c6, .int .i64 1] 34)) := Below.alloc hb6 hs6 _
            have hH7 : HP w7 w.heap.size (w.heap.size + 1) g cap fs := ((show HP wb.drew w.heap.size (w.heap.size + 1) g cap fs from hHb).on b67).far (gb := gb) hgrow7 (by have := hOb.lt; omega) (by have := hOb.lt; omega)
            have hW7 : Below w.heap.size w w7 := ((bel_drewN hbb 1).trans (b67.mono hlowb)).grown hgrow7 (by rw [World.size_alloc]; omega) (fun q e => by have : gb = q := Option.some.inj e; have := hOb.lt; omega)
            have HBS7 := Lib.hid (show (([] : List Ent) ++ [(⟨r, 1, A6, c6, g6⟩ : Ent)]).map Ent.pair = bagOfL (pre ++ [r]) by rw [bagOf_snoc, LASTNEW.out, List.map_append, HBS.out]; rfl)
            have hm7 := hH7.len
            have HM7 := Lib.hid hm7
            have HV7 := Lib.hid hv7
            clear hm7 hv7 hg7 hO7 hown7 hgrow7 hat7 hO6 hR6 hg6 hb6 b67 hHb hOb hbb hIb d0 d1
            go_wp2
            go_roundw
            case rel => exact ⟨g7, c7, _, fs, pre ++ [r], HV7.out, hH7, HF5.out, hOB7, HBS7.out, HPM5.out, HLE5.out, hW7⟩
            case measure => rw [HM7.out, HLEN.out, HFL.out, HN.out]; omega
          · obtain ⟨m, hm⟩ : ∃ m, bs.length = m + 1 := ⟨bs.length - 1, by omega⟩
            have hml : (bs.length : Int) - 1 = (m : Int) := by omega
            have hmlt : m < bs.length := by omega
            have hm0 : (0 : Int) ≤ (m : Int) := by omega
            have hm1 : (m : Int) < (bs.length : Int) := by omega
            have HM := Lib.hid hm
            clear hm
            have hlb : (bagOfL pre).length = m + 1 := by have := congrArg List.length HBS.out; rw [List.length_map, HM.out] at this; exact this.symm
            have HRX := Lib.hid (show rx (bagOfL pre) m = bs[m].r by rw [← HBS.out, rx_map hmlt])
            have HNX := Lib.hid (show nx (bagOfL pre) m = bs[m].n by rw [← HBS.out, nx_map hmlt])
            have HLB := Lib.hid hlb
            have hel := HBR.out bs[m] (List.getElem_mem hmlt)
            clear hlb
            have hHa := hH4.on b5
            have hOa : OB (w4.alloc (.cells #[.slice A0 r.length c0, .int .i64 1] 34)) w2.heap.size gb cb bs := OBag.on hO4 b5
            have hba : Below w.heap.size w (w4.alloc (.cells #[.slice A0 r.length c0, .int .i64 1] 34)) := hb4.trans (b5.mono hb4.size)
            have hIa : Ints (w4.alloc (.cells #[.slice A0 r.length c0, .int .i64 1] 34)) (w4.alloc (.cells #[.slice A0 r.length c0, .int .i64 1] 34)).heap.size A0 r := (hIr'.more hb4.size).on b5
            have BCa := BC
            have hlo4a : w2.heap.size ≤ (w4.alloc (.cells #[.slice A0 r.length c0, .int .i64 1] 34)).heap.size := Nat.le_trans hs4 b5.size
            have hlowa : w.heap.size ≤ (w4.alloc (.cells #[.slice A0 r.length c0, .int .i64 1] 34)).heap.size := hba.size
            have hgbG : gb < w4.heap.size := hO4.lt.2
            obtain ⟨k0, k1, kf⟩ := OBag.cellsAt hOa hmlt
            have hIm := (hOa.2.1 bs[m] (List.getElem_mem hmlt)).1.ints
            have e0 : (w4.alloc (.cells #[.slice A0 r.length c0, .int .i64 1] 34)).cell? ⟨w4.heap.size, 0, none⟩ = some (.slice A0 r.length c0) := BC.cell 0
            by_cases he : bs[m].r = r
            · have HE := Lib.hid he
              clear he
              go_wp2_with fail
              clear hH4 hO4 hb4 hIr' BC b5 hs4
              generalize w4.alloc (.cells #[.slice A0 r.length c0, .int .i64 1] 34) = wa at *
              generalize w4.heap.size = G at *
              have hnG : some G ≠ (Value.slice (some ⟨gb, 0, none⟩) bs.length cb).ownBlock := fun e => by have : G = gb := Option.some.inj e; omega
              go_quiet (first | (go_at_call 98; exact Calls.quiet_of (slicesEqual_yes bs[m].A A0 bs[m].c c0 bs[m].r r _ _ _ (by exact hIm) (by exact hIa) hel hrl HE.out)))
              have k1b : (wa.drewN nq).cell? ⟨gb, m * 2 + 1, none⟩ = some (.int .i64 bs[m].n) := k1
              have kfb : (wa.drewN nq).frozen? ⟨gb, m * 2 + 1, none⟩ = false := kf
              clear k0 k1 kf hIm e0
              have hHb : HP (wa.drewN nq) w.heap.size (w.heap.size + 1) g cap fs := hHa
              have hOb : OB (wa.drewN nq) w2.heap.size gb cb bs := hOa
              have hbb := bel_drewN hba nq
              have hIb : Ints (wa.drewN nq) (wa.drewN nq).heap.size A0 r := hIa
              have BCb := BCa.drewN nq
              have hlo4b : w2.heap.size ≤ (wa.drewN nq).heap.size := hlo4a
              have hlowb : w.heap.size ≤ (wa.drewN nq).heap.size := hlowa
              clear hHa hOa hba hIa BCa hlo4a hlowa
              generalize wa.drewN nq = wb at *
              have d1 : wb.cell? ⟨G, 1, none⟩ = some (.int .i64 1) := BCb.cell 1
              have hadd : IntKind.i64.wrap (bs[m].n + 1) = addW bs[m].n 1 := rfl
              have hadd' : wrap64 (bs[m].n + 1) = addW bs[m].n 1 := by unfold addW; rw [IntKind.wrap_i64, wrap64]
              go_wp2_with fail
              go_region
              have hOs := hOb.setN hmlt (addW bs[m].n 1)
              have hHs := hHb.far (grown_setCell wb gb (m * 2 + 1) (.int .i64 (addW bs[m].n 1))) (by have := hOb.lt; omega) (by have := hOb.lt; omega)
              have hbs : Below w.heap.size w (wb.setCell ⟨gb, m * 2 + 1, none⟩ (.int .i64 (addW bs[m].n 1))) := hbb.setCell (p := ⟨gb, m * 2 + 1, none⟩) (by have := hOb.lt; simp; omega) _
              have HBS7 := Lib.hid (show (bs.set m { bs[m] with n := addW bs[m].n 1 }).map Ent.pair = bagOfL (pre ++ [r]) by
                rw [bagOf_snoc, last_same hprel HLAST.out HLB.out (HRX.out.trans HE.out), pair_setN hmlt, HBS.out, HRX.out, HNX.out, HE.out])
              have HM7 := Lib.hid hHs.len
              clear hOb hHb hbb hIb BCb k1b kfb d1 hadd hadd'
              go_wp2
              go_roundw
              case rel => exact ⟨gb, cb, bs.set m { bs[m] with n := addW bs[m].n 1 }, fs, pre ++ [r], by rw [List.length_set], hHs, HF5.out, hOs, HBS7.out, HPM5.out, HLE5.out, bel_drewN hbs 1⟩
              case measure => rw [show lenAt (w.heap.size + 1) (World.drew (wb.setCell ⟨gb, m * 2 + 1, none⟩ (.int .i64 (addW bs[m].n 1)))) = fs.length from HM7.out, HLEN.out, HFL.out, HN.out]; omega
            · have LASTNEW := Lib.hid (last_new hprel HLAST.out (fun q hq hr => by
                have hqm : q = m := by have := HLB.out; omega
                subst hqm
                exact he (HRX.out.symm.trans hr)))
              have HE := Lib.hid he
              clear he
              go_wp2_with fail
              clear hH4 hO4 hb4 hIr' BC b5 hs4
              generalize w4.alloc (.cells #[.slice A0 r.length c0, .int .i64 1] 34) = wa at *
              generalize w4.heap.size = G at *
              have hnG : some G ≠ (Value.slice (some ⟨gb, 0, none⟩) bs.length cb).ownBlock := fun e => by have : G = gb := Option.some.inj e; omega
              go_quiet (first | (go_at_call 98; exact Calls.quiet_of (slicesEqual_no bs[m].A A0 bs[m].c c0 bs[m].r r _ _ _ (by exact hIm) (by exact hIa) hel hrl HE.out)))
              clear k0 k1 kf hIm e0
              have hHb : HP (wa.drewN nq) w.heap.size (w.heap.size + 1) g cap fs := hHa
              have hOb : OB (wa.drewN nq) w2.heap.size gb cb bs := hOa
              have hbb := bel_drewN hba nq
              have hIb : Ints (wa.drewN nq) (wa.drewN nq).heap.size A0 r := hIa
              have BCb := BCa.drewN nq
              have hlo4b : w2.heap.size ≤ (wa.drewN nq).heap.size := hlo4a
              have hlowb : w.heap.size ≤ (wa.drewN nq).heap.size := hlowa
              clear hHa hOa hba hIa BCa hlo4a hlowa
              generalize wa.drewN nq = wb at *
              go_wp2_with fail
              have hlo4 : w2.heap.size ≤ wb.heap.size := hlo4b
              have hGl := BCb.lt
              have d0 : wb.cell? ⟨G, 0, none⟩ = some (.slice A0 r.length c0) := BCb.cell 0
              have d1 : wb.cell? ⟨G, 1, none⟩ = some (.int .i64 1) := BCb.cell 1
              go_region_held3 (fun w' => w'.cell? ⟨G, 0, none⟩ = some (.slice A0 r.length c0) ∧ w'.cell? ⟨G, 1, none⟩ = some (.int .i64 1))
                (first | go_keep | exact ⟨(far_cell (p := ⟨G, 0, none⟩) hb6 hgrow7 hGl hnG).trans d0, (far_cell (p := ⟨G, 1, none⟩) hb6 hgrow7 hGl hnG).trans d1⟩ | exact ⟨(hb6.cell (p := ⟨G, 0, none⟩) hGl).trans d0, (hb6.cell (p := ⟨G, 1, none⟩) hGl).trans d1⟩)
                (first | (refine step_append_any _ rfl (.tmp 62) (.tmp 69) 24 (by rfl) w2.heap.size 34 i0 _ 2 32 Try.underlying24 hi0 hz0 hz1 hz2 rfl (by omega) _ _ (entCells bs) (by rfl) (hO6.1.alloc _) _ (some ⟨w6.heap.size, 0, none⟩) 1 1 [.slice A6 r.length c6, .int .i64 1] (by rfl) (reads_new2 w6 _ _ _) (by simp [Value.oneCell']) (by simp only [maxLen]; omega) (by omega) (by rw [World.size_alloc]; have hs1 : wb.heap.size ≤ w6.heap.size := hb6.size; omega) ?_; intro v7 w7 hown7 hgrow7 hat7) | (go_at_call 99; refine (copyOfRow_row A0 c0 r _ (by exact hIb) hrl).mono ?_; rintro e w6 ⟨A6, c6, g6, rfl, hg6, hR6, hb6⟩; have hO6 := (OBag.drewN hOb 1).on hb6))
              have hs6 : wb.heap.size ≤ w6.heap.size := hb6.size
              have hO7 : OBag w7 w2.heap.size v7 (bs ++ [⟨r, 1, A6, c6, g6⟩]) := OBag.pushRow hOb rfl hlo4 hg6 hR6 hO6 hown7 hgrow7 hat7
              obtain ⟨g7, hg7⟩ : ∃ g7, v7.ownBlock = some g7 := by
                rcases hat7 with h | h
                · exact ⟨_, h⟩
                · exact ⟨_, h⟩
              obtain ⟨c7, hv7, hOB7⟩ := hO7.ob hg7
              have b67 : Below wb.heap.size wb.drew (w6.alloc (.cells #[.slice A6 r.length c6, .int .i64 1] 34)) := Below.alloc hb6 hs6 _
              have hH7 : HP w7 w.heap.size (w.heap.size + 1) g cap fs := ((show HP wb.drew w.heap.size (w.heap.size + 1) g cap fs from hHb).on b67).far (gb := gb) hgrow7 (by have := hOb.lt; omega) (by have := hOb.lt; omega)
              have hW7 : Below w.heap.size w w7 := ((bel_drewN hbb 1).trans (b67.mono hlowb)).grown hgrow7 (by rw [World.size_alloc]; omega) (fun q e => by have : gb = q := Option.some.inj e; have := hOb.lt; omega)
              have HBS7 := Lib.hid (show (bs ++ [(⟨r, 1, A6, c6, g6⟩ : Ent)]).map Ent.pair = bagOfL (pre ++ [r]) by rw [bagOf_snoc, LASTNEW.out, List.map_append, HBS.out]; rfl)
              have hm7 := hH7.len
              have HM7 := Lib.hid hm7
              have HV7 := Lib.hid hv7
              clear hm7 hv7 hg7 hO7 hown7 hgrow7 hat7 hO6 hR6 hg6 hb6 b67 hHb hOb hbb hIb d0 d1
              go_wp2
              go_roundw
              case rel => exact ⟨g7, c7, _, fs, pre ++ [r], HV7.out, hH7, HF5.out, hOB7, HBS7.out, HPM5.out, HLE5.out, hW7⟩
              case measure => rw [HM7.out, HLEN.out, HFL.out, HN.out]; omega
        · have hd0 : decide (0 < ts.length) = false := by simpa using h0
          have ht0 : ts = [] := List.length_eq_zero_iff.1 (by omega)
          have HT0 := Lib.hid ht0
          clear ht0
          go_wp2_with fail
          refine (heapLen_any _ _ _ wr).mono ?_
          rintro e w' ⟨rfl, rfl⟩
          go_wp2
          go_ret
          refine ⟨gb, cb, bs, rfl, OBag.lower hO (by omega), ?_, hW⟩
          have h1 := HPM2.out
          rw [HT0.out, List.map_nil, List.append_nil] at h1
          rw [HBS.out]
          exact (bagOf_perm h1 (by omega)).symm
end Go.Proofs.Ytoncfodlffofdaa
