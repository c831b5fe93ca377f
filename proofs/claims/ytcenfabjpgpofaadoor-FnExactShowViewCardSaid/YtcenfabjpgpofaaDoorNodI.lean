/- The program's ShowView: the text of a view, else the empty one; nothing that lay has turned. It reads a table of the library's and its own table of forms, which lie as their texts lay them. -/
import Derived.Test.YtcenfabjpgpofaaDoorNodV
import Derived.Test.YtcenfabjpgpofaaDoorShelfD
import Derived.Maps.AppendAt
import Derived.Deep.DeepCutAuto
import Derived.Deep.CutBlock
namespace Go.Proofs.YtcenfabjpgpofaaDoor
open Go.RowKit

abbrev TabN (w : World) : Prop := Lib.TabBelow Tryd.prog w.heap.size w "internal/strconv.uint64pow10" .u64 Lib.pow10Tab
theorem tabN_on {w w1 : World} (h : TabN w) (hb : Below w.heap.size w w1) : TabN w1 := fun w' h' => h w' (hb.trans (h'.mono hb.size))
theorem join_own {w : World} {base : Nat} {v : Value} {ts : List ByteArray} (h : w.ownsRow base 9 1 v ts.length (strl ts)) (h0 : 0 < ts.length) : ∃ g cap, v = .slice (some ⟨g, 0, none⟩) ts.length cap ∧ g < w.heap.size ∧ ts.length ≤ cap ∧ ∀ (j : Nat) x, ts[j]? = some x → w.cell? ⟨g, 0 + j, none⟩ = some (.string x) := by
  rcases h.2 with ⟨_, h0'⟩ | ⟨g, cap, cur, rfl, hg, hh, hnc, _, hs, ht⟩
  · omega
  · refine ⟨g, cap, rfl, Blk.lt (t := 9) (cs := cur) hh, hnc, fun j x hx => ?_⟩
    have hj : j < ts.length := (List.getElem?_eq_some_iff.1 hx).1
    have e : (cur.toList.take (ts.length * 1))[j]? = (strl ts)[j]? := by rw [ht]
    rw [List.getElem?_take, if_pos (by omega), Array.getElem?_toList] at e
    rw [Nat.zero_add, Blk.cell (t := 9) (cs := cur) hh j, e]
    simp [strl, hx]
theorem own_first (w : World) (lo : Nat) (s : ByteArray) (h : lo ≤ w.heap.size) : (w.alloc (.cells #[.string s] 9)).ownsRow lo 9 1 (.slice (some ⟨w.heap.size, 0, none⟩) 1 1) 1 (strl [s]) :=
  ⟨rfl, .inr ⟨w.heap.size, 1, #[.string s], rfl, h, heap_alloc_new w _, Nat.le_refl _, by decide, rfl, rfl⟩⟩
theorem reads_two {w : World} {X : Nat} {s t : ByteArray} (hX : Blk w X 9 #[.string s, .string t]) : Reads w w.heap.size 1 (some ⟨X, 0, none⟩) 2 (strl [s, t]) := by
  refine ⟨rfl, fun _ => ⟨_, rfl, hX.lt, fun j u hu => ?_⟩⟩
  have ea : Addr.add ⟨X, 0, none⟩ j = ⟨X, 0 + j, none⟩ := by unfold Addr.add; split <;> simp_all
  rw [ea, Nat.zero_add, hX.cell j, ← hu]
  simp [strl]
theorem reads_one {w : World} {X : Nat} {s : ByteArray} (hX : Blk w X 9 #[.string s]) : Reads w w.heap.size 1 (some ⟨X, 0, none⟩) 1 (strl [s]) := by
  refine ⟨rfl, fun _ => ⟨_, rfl, hX.lt, fun j u hu => ?_⟩⟩
  have ea : Addr.add ⟨X, 0, none⟩ j = ⟨X, 0 + j, none⟩ := by unfold Addr.add; split <;> simp_all
  rw [ea, Nat.zero_add, hX.cell j, ← hu]
  simp [strl]
/-- The parts of a node's text, as texts; the first of them. -/
def headT (q : Nat) (d : Nd) : List ByteArray := wnx q :: (if q = 1 then [d.n] else if q = 2 then [mkB (showCs d.c)] else [])
theorem headT_bl {d : Nd} {q : Nat} (h : RightN d q) : (headT q d).map bl = bl (wnx d.k.toNat) :: headL d := by
  have hk := h.kq
  unfold headT headL
  rw [hk, Int.toNat_natCast, List.map_cons]
  congr 1
  by_cases h1 : q = 1
  · rw [if_pos h1, if_pos (by omega)]; rfl
  · rw [if_neg h1, if_neg (show ¬ (q : Int) = 1 by omega)]
    by_cases h2 : q = 2
    · rw [if_pos h2, if_pos (by omega), List.map_cons, bl_mkB]; rfl
    · rw [if_neg h2, if_neg (show ¬ (q : Int) = 2 by omega)]; rfl
theorem headT_len (q : Nat) (d : Nd) : (headT q d).length ≤ 2 ∧ 0 < (headT q d).length := by
  unfold headT
  split
  · simp
  · split <;> simp
theorem numT_bl (z : List Int) : (numT z).map bl = z.map Lib.itoa := by
  unfold numT
  rw [List.map_map]
  exact List.map_congr_left fun n _ => bl_mk (Lib.itoa n)

set_option maxRecDepth 100000 in
set_option maxHeartbeats 800000 in
theorem showNode_any (d : Nd) (Ac : Option Addr) (cc : Nat) (Az : Option Addr) (cz : Nat) (w : World) (hC : Cnds w w.heap.size Ac d.c) (hZ : Ints w w.heap.size Az d.z) (hd : nodeB d = true) (hF : FormsAt w) (hT : TabN w) :
    Calls Tryd.prog 35 #[.agg #[.int .i64 d.k, .string d.n, .slice Ac d.c.length cc, .slice Az d.z.length cz, .int .i64 d.p]] w fun e w' => e = .returned (.string (mkB (nodeL d))) ∧ Below w.heap.size w w' := by
  obtain ⟨i0, hi0, hz0, hz1, hz2⟩ := info_parts info_str
  obtain ⟨q, hr⟩ := right_of hd
  have HR := Lib.hid hr
  obtain ⟨S, hS⟩ : ∃ S, mkB (nodeL d) = S := ⟨_, rfl⟩
  have HS := Lib.hid hS
  rw [hS]
  have HTB := Lib.hid (show ∀ W, Below w.heap.size w W → TabN W from fun W h => tabN_on hT h)
  have HCN := Lib.hid (show ∀ W, Below w.heap.size w W → Cnds W W.heap.size Ac d.c from fun W h => hC.on h)
  have HZN := Lib.hid (show ∀ W, Below w.heap.size w W → Ints W W.heap.size Az d.z from fun W h => hZ.on h)
  have hq := hr.kq
  have q1 := hr.q1
  have q7 := hr.q7
  have hzl := hr.len
  have hp0 := hr.p0
  have hp5 := hr.p5
  have HPL := Lib.hid hr.pl
  obtain ⟨f0, _⟩ := hF q (by omega)
  have hG := cell_lt f0
  have q8 : (q : Int) < 8 := by omega
  have hF' := hF.on ((Below.refl w.heap.size w).alloc (Nat.le_refl _) (.cells #[.int .i64 (q : Int), .string d.n, .slice Ac d.c.length cc, .slice Az d.z.length cz, .int .i64 d.p] 30))
  obtain ⟨f0', _⟩ := hF' q (by omega)
  have bc := (Below.refl w.heap.size w).alloc (Nat.le_refl _) (.cells #[.int .i64 d.k, .string d.n, .slice Ac d.c.length cc, .slice Az d.z.length cz, .int .i64 d.p] 30)
  have B := Blk.new w 30 #[.int .i64 d.k, .string d.n, .slice Ac d.c.length cc, .slice Az d.z.length cz, .int .i64 d.p]
  rw [hq] at bc B ⊢
  obtain ⟨c0, c1, c2, c3, c4⟩ := B.c5
  obtain ⟨Wd, hWd⟩ : ∃ Wd, wnx q = Wd := ⟨_, rfl⟩
  have HWD := Lib.hid hWd
  rw [hWd] at f0 f0'
  have hlo : w.heap.size ≤ (w.alloc (.cells #[.int .i64 (q : Int), .string d.n, .slice Ac d.c.length cc, .slice Az d.z.length cz, .int .i64 d.p] 30)).heap.size := bc.size
  have how := own_first (w.alloc (.cells #[.int .i64 (q : Int), .string d.n, .slice Ac d.c.length cc, .slice Az d.z.length cz, .int .i64 d.p] 30)) (w.heap.size + 1) Wd (by rw [World.size_alloc]; exact Nat.le_refl _)
  simp only [World.size_alloc] at how
  have HOW := Lib.hid how
  have HBB := Lib.hid (And.intro (B.alloc (.cells #[.string Wd] 9)) (bc.alloc hlo (.cells #[.string Wd] 9)))
  clear hr hS hC hZ hWd hq hT hF hF' hd B bc how
  go_enter Tryd.func35, Tryd.ntmps35
  go_upto_block 0 with fail
  generalize (w.alloc (.cells #[.int .i64 (q : Int), .string d.n, .slice Ac d.c.length cc, .slice Az d.z.length cz, .int .i64 d.p] 30)).alloc (.cells #[.string Wd] 9) = w2 at *
  have hW2 := HBB.out.2
  have B2 := HBB.out.1
  have hs2 := hW2.size
  clear c0 c1 c2 c3 c4 f0 f0' hG hlo
  obtain ⟨c0, c1, c2, c3, c4⟩ := B2.c5
  go_cut [3] (fun s wx => wx.ownsRow (w.heap.size + 1) 9 1 s (headT q d).length (strl (headT q d)) ∧ Below w.heap.size w wx ∧ Blk wx w.heap.size 30 #[.int .i64 (q : Int), .string d.n, .slice Ac d.c.length cc, .slice Az d.z.length cz, .int .i64 d.p])
  case first =>
    by_cases h1 : q = 1
    · have hk1 : ((q : Int) == 1) = true := by rw [beq_iff_eq]; omega
      have HHD := Lib.hid (show strl [Wd] ++ [.string d.n] = strl (headT q d) ∧ (headT q d).length = 2 by rw [← HWD.out]; unfold headT; rw [if_pos h1]; exact ⟨rfl, rfl⟩)
      have hownA := HOW.out
      clear h1
      go_wp2_with (at_builtin; refine wpList_append_own _ rfl _ _ 56 rfl (w.heap.size + 1) 9 i0 (.string ⟨#[]⟩) 1 16 Tryd.underlying56 hi0 hz0 hz1 hz2 rfl (by decide) _ _ _ rfl (hownA.alloc _) ⟨w2.heap.size, 0, none⟩ 1 1 [.string d.n] rfl rfl (cell_one_new _ _ _) (by simp [Value.oneCell']) (by simp only [maxLen]; omega) (by omega) (by have := hW2.size; simp; omega) ?_; intro v3 w3 hown3 hgrow3 _)
      have hW3 : Below w.heap.size w w3 := (hW2.alloc hs2 _).grown hgrow3 (by simp; omega) (fun g hg => by have := (hownA.lt g hg).1; omega)
      have B3 := (B2.alloc (.cells #[.string d.n] 9)).grown hgrow3 (fun e => by have e2 : w.heap.size = w.heap.size + 1 := Option.some.inj e; omega)
      go_meet
      exact ⟨by rw [HHD.out.2, ← HHD.out.1]; exact hown3, hW3, B3⟩
    have hk1 : ((q : Int) == 1) = false := by rw [beq_eq_false_iff_ne]; omega
    by_cases h2 : q = 2
    · have hk2 : ((q : Int) == 2) = true := by rw [beq_iff_eq]; omega
      obtain ⟨Cb, hCb⟩ : ∃ Cb, mkB (showCs d.c) = Cb := ⟨_, rfl⟩
      have HHD := Lib.hid (show strl [Wd] ++ [.string Cb] = strl (headT q d) ∧ (headT q d).length = 2 by rw [← HWD.out, ← hCb]; unfold headT; rw [if_neg h1, if_pos h2]; exact ⟨rfl, rfl⟩)
      have HCB := Lib.hid hCb
      have hrl := (rightB_iff.1 (HR.out.cond h2)).2
      clear h1 h2 hCb
      go_wp2_with fail
      refine (implShowConds_any Ac cc d.c w2 (HCN.out w2 hW2) (by omega) (HTB.out w2 hW2)).mono ?_
      rintro e w4 ⟨rfl, hb4⟩
      rw [HCB.out]
      have hownA := HOW.out.kept (grown_of_below hb4) (by simp [Value.ownBlock])
      have hW4 := bel_step hW2 hb4
      have B4 := B2.on hb4
      have hs4 := hW4.size
      clear hb4
      go_wp2_with (at_builtin; refine wpList_append_own _ rfl _ _ 56 rfl (w.heap.size + 1) 9 i0 (.string ⟨#[]⟩) 1 16 Tryd.underlying56 hi0 hz0 hz1 hz2 rfl (by decide) _ _ _ rfl (hownA.alloc _) ⟨w4.heap.size, 0, none⟩ 1 1 [.string Cb] rfl rfl (cell_one_new _ _ _) (by simp [Value.oneCell']) (by simp only [maxLen]; omega) (by omega) (by have := hW4.size; simp; omega) ?_; intro v3 w3 hown3 hgrow3 _)
      have hW3 : Below w.heap.size w w3 := (hW4.alloc hs4 _).grown hgrow3 (by simp; omega) (fun g hg => by have := (hownA.lt g hg).1; omega)
      have B3 := (B4.alloc (.cells #[.string Cb] 9)).grown hgrow3 (fun e => by have e2 : w.heap.size = w.heap.size + 1 := Option.some.inj e; omega)
      go_meet
      exact ⟨by rw [HHD.out.2, ← HHD.out.1]; exact hown3, hW3, B3⟩
    have hk2 : ((q : Int) == 2) = false := by rw [beq_eq_false_iff_ne]; omega
    have HHD := Lib.hid (show strl [Wd] = strl (headT q d) ∧ (headT q d).length = 1 by rw [← HWD.out]; unfold headT; rw [if_neg h1, if_neg h2]; exact ⟨rfl, rfl⟩)
    have hownA := HOW.out
    go_wp2_with fail
    go_meet
    exact ⟨by rw [HHD.out.2, ← HHD.out.1]; exact hownA, hW2, B2⟩
  case rest =>
  obtain ⟨hownC, hWC, BC⟩ := hcut
  clear hW2 B2 hs2 c0 c1 c2 c3 c4 HOW HBB
  obtain ⟨Hd, hHd⟩ : ∃ Hd, headT q d = Hd := ⟨_, rfl⟩
  have HHB := Lib.hid (show Hd.map bl = bl (wnx d.k.toNat) :: headL d by rw [← hHd]; exact headT_bl HR.out)
  obtain ⟨hHl, hHl0⟩ : Hd.length ≤ 2 ∧ 0 < Hd.length := by rw [← hHd]; exact headT_len q d
  rw [hHd] at hownC
  clear hHd
  obtain ⟨c0, c1, c2, c3, c4⟩ := BC.c5
  go_wp2_with fail
  clear c0 c1 c2 c3 c4
  go_loopw [3, 32] (fun u i wr => ∃ k : Nat, k ≤ d.z.length ∧ i = .int .i64 k ∧ wr.ownsRow (w.heap.size + 1) 9 1 u (Hd.length + k) (strl (Hd ++ numT (d.z.take k))) ∧ Below w.heap.size w wr ∧ Blk wr w.heap.size 30 #[.int .i64 (q : Int), .string d.n, .slice Ac d.c.length cc, .slice Az d.z.length cz, .int .i64 d.p]) (fun _ i _ => d.z.length - (intOf i).toNat)
  case atStart => exact ⟨0, Nat.zero_le _, rfl, by simpa [numT] using hownC, hWC, BC⟩
  case round =>
    clear hownC hWC BC
    obtain ⟨k, hk, rfl, hown, hW, B⟩ := hrel
    by_cases hlt : k < d.z.length
    · have hpx := ix_place HPL.out (ix d.z k) (by rw [ix_eq d.z k hlt]; exact List.getElem_mem hlt)
      obtain ⟨b, off, rfl, hb, hc⟩ := HZN.out wr hW (by omega)
      have hck := hc k hlt
      clear hc
      obtain ⟨tx, htx⟩ : ∃ tx, mkB (Lib.itoa (ix d.z k)) = tx := ⟨_, rfl⟩
      have HTX := Lib.hid htx
      have HSN := Lib.hid (showNum_any (ix d.z k) wr (by omega) (by omega) (HTB.out wr hW))
      clear htx hpx
      go_wp2_with fail
      refine HSN.out.mono ?_
      rintro e w1 ⟨rfl, hb1⟩
      rw [HTX.out]
      have hown1 := hown.kept (grown_of_below hb1) (by cases h : u3.ownBlock <;> simp)
      have hW1 := bel_step hW hb1
      have B1 := B.on hb1
      have hs1 := hW1.size
      clear hown hW B hb1 hck
      go_wp2_with (at_builtin; refine wpList_append_own _ rfl _ _ 56 rfl (w.heap.size + 1) 9 i0 (.string ⟨#[]⟩) 1 16 Tryd.underlying56 hi0 hz0 hz1 hz2 rfl (by decide) _ _ _ rfl (hown1.alloc _) ⟨w1.heap.size, 0, none⟩ 1 1 [.string tx] rfl rfl (cell_one_new _ _ _) (by simp [Value.oneCell']) (by simp only [maxLen]; omega) (by omega) (by have := hW1.size; simp; omega) ?_; intro v3 w3 hown3 hgrow3 _)
      have hW3 : Below w.heap.size w w3 := (hW1.alloc hs1 _).grown hgrow3 (by simp; omega) (fun g hg => by have := (hown1.lt g hg).1; omega)
      have B3 := (B1.alloc (.cells #[.string tx] 9)).grown hgrow3 (fun e => by have := (hown1.lt _ e.symm).1; omega)
      have HO3 := Lib.hid (show w3.ownsRow (w.heap.size + 1) 9 1 v3 (Hd.length + (k + 1)) (strl (Hd ++ numT (d.z.take (k + 1)))) by
        rw [numT_take_succ d.z k hlt, ← List.append_assoc]
        have : strl (Hd ++ numT (d.z.take k)) ++ [.string tx] = strl (Hd ++ numT (d.z.take k) ++ [⟨(Lib.itoa (ix d.z k)).toArray⟩]) := by rw [← HTX.out]; simp [strl, mkB]
        rw [← this, ← Nat.add_assoc]
        exact hown3)
      clear hgrow3 hown1 hown3
      go_roundw
      case rel => exact ⟨k + 1, by omega, by go_num, HO3.out, hW3, B3⟩
      case measure => simp [intOf]; omega
    · have hd : decide (k < d.z.length) = false := by simpa using hlt
      obtain rfl : k = d.z.length := by omega
      rw [List.take_length] at hown
      obtain ⟨c0, c1, c2, c3, c4⟩ := B.c5
      by_cases hp : d.p = -1
      · have hpb : (d.p == -1) = true := by simpa using hp
        have HTL := Lib.hid (show tailL d = [] by unfold tailL; rw [if_pos hp])
        obtain ⟨ts, hts⟩ : ∃ ts, Hd ++ numT d.z = ts := ⟨_, rfl⟩
        have hlt2 : ts.length = Hd.length + d.z.length := by rw [← hts, List.length_append, numT_length]
        rw [hts, ← hlt2] at hown
        obtain ⟨g, cap, rfl, hg, hcap, hcells⟩ := join_own hown (by omega)
        have HJB := Lib.hid (show ts.map bl = partsL d by rw [← hts, List.map_append, HHB.out, numT_bl]; unfold partsL; rw [HTL.out, List.append_nil]; rfl)
        have hjl : (Lib.join (ts.map (·.data.toList)) (bl ⟨#[32]⟩)).length ≤ 140737488355328 := by
          rw [show ts.map (·.data.toList) = partsL d from HJB.out, join_catG]
          have := nodeL_len HR.out
          unfold nodeL at this
          show (cat [32] (partsL d)).length ≤ _
          omega
        have HJ := Lib.hid (Tryd.strings_Join g 0 cap ts ⟨#[32]⟩ wr hcells hg (by omega) hcap hjl)
        have HJE := Lib.hid (show (⟨(Lib.join (ts.map (·.data.toList)) (ByteArray.data ⟨#[32]⟩).toList).toArray⟩ : ByteArray) = S by
          rw [show ts.map (·.data.toList) = partsL d from HJB.out, join_catG, ← HS.out]; rfl)
        clear hown hcells hjl hts hp hlt2
        go_wp2_with fail
        refine HJ.out.mono ?_
        rintro e w3 ⟨rfl, hb3⟩
        rw [HJE.out]
        have hW3 := bel_step hW hb3
        go_wp2
        go_ret
        exact ⟨rfl, hW3⟩
      · have hpb : (d.p == -1) = false := by simpa using hp
        have HTL := Lib.hid (show tailL d = [sumL, Lib.itoa d.p] by unfold tailL; rw [if_neg hp])
        obtain ⟨Pb, hPb⟩ : ∃ Pb, mkB (Lib.itoa d.p) = Pb := ⟨_, rfl⟩
        have HPB := Lib.hid hPb
        have HSN := Lib.hid (showNum_any d.p wr (by omega) (by omega) (HTB.out wr hW))
        clear hPb hp
        go_wp2_with fail
        refine HSN.out.mono ?_
        rintro e w1 ⟨rfl, hb1⟩
        rw [HPB.out]
        have hown1 := hown.kept (grown_of_below hb1) (by cases h : u3.ownBlock <;> simp)
        have hW1 := bel_step hW hb1
        have hs1 := hW1.size
        clear hown hW B hb1 c0 c1 c2 c3 c4 HSN
        go_wp2_with (at_builtin; refine wpList_append_any _ (by rfl) (.tmp 45) (.tmp 49) 56 (by rfl) (w.heap.size + 1) 9 i0 (.string ⟨#[]⟩) 1 16 Tryd.underlying56 hi0 hz0 hz1 hz2 rfl (by decide) _ _ _ (by rfl) (hown1.alloc _) _ (some ⟨w1.heap.size, 0, none⟩) 2 2 (strl [⟨#[115, 117, 109]⟩, Pb]) (by rfl) (reads_two (Blk.new w1 9 #[.string ⟨#[115, 117, 109]⟩, .string Pb])) (by simp [strl, Value.oneCell']) (by simp only [maxLen]; omega) (by omega) (by have := hW1.size; simp; omega) ?_; intro v3 w3 hown3 hgrow3 _)
        have hW3 : Below w.heap.size w w3 := (hW1.alloc hs1 _).grown hgrow3 (by simp; omega) (fun g hg => by have := (hown1.lt g hg).1; omega)
        obtain ⟨ts, hts⟩ : ∃ ts, Hd ++ numT d.z ++ [⟨#[115, 117, 109]⟩, Pb] = ts := ⟨_, rfl⟩
        have hlt2 : ts.length = Hd.length + d.z.length + 2 := by rw [← hts]; simp [numT_length]; omega
        have hown4 : w3.ownsRow (w.heap.size + 1) 9 1 v3 ts.length (strl ts) := by
          rw [hlt2, ← hts]
          have : strl (Hd ++ numT d.z ++ [⟨#[115, 117, 109]⟩, Pb]) = strl (Hd ++ numT d.z) ++ strl [⟨#[115, 117, 109]⟩, Pb] := by simp [strl]
          rw [this]
          exact hown3
        obtain ⟨g, cap, rfl, hg, hcap, hcells⟩ := join_own hown4 (by omega)
        have HJB := Lib.hid (show ts.map bl = partsL d by
          rw [← hts, List.map_append, List.map_append, HHB.out, numT_bl]
          unfold partsL
          rw [HTL.out, ← HPB.out]
          simp [sumL, bl, mkB])
        have hjl : (Lib.join (ts.map (·.data.toList)) (bl ⟨#[32]⟩)).length ≤ 140737488355328 := by
          rw [show ts.map (·.data.toList) = partsL d from HJB.out, join_catG]
          have := nodeL_len HR.out
          unfold nodeL at this
          show (cat [32] (partsL d)).length ≤ _
          omega
        have HJ := Lib.hid (Tryd.strings_Join g 0 cap ts ⟨#[32]⟩ w3 hcells hg (by omega) hcap hjl)
        have HJE := Lib.hid (show (⟨(Lib.join (ts.map (·.data.toList)) (ByteArray.data ⟨#[32]⟩).toList).toArray⟩ : ByteArray) = S by
          rw [show ts.map (·.data.toList) = partsL d from HJB.out, join_catG, ← HS.out]; rfl)
        clear hown3 hown4 hcells hjl hts hown1 hgrow3 hlt2
        go_wp2_with fail
        refine HJ.out.mono ?_
        rintro e w5 ⟨rfl, hb5⟩
        rw [HJE.out]
        have hW5 := bel_step hW3 hb5
        go_wp2
        go_ret
        exact ⟨rfl, hW5⟩

/-- The texts of the first k nodes, then empty ones. -/
def shvA (v : List Nd) (k : Nat) : Array Value := ((viewT (v.take k)).map Value.string ++ List.replicate (v.length - k) (Value.string ⟨#[]⟩)).toArray
theorem shvA_size (v : List Nd) {k : Nat} (h : k ≤ v.length) : (shvA v k).size = v.length := by simp [shvA, viewT]; omega
theorem shvA_zero (v : List Nd) : shvA v 0 = madeCells #[Value.string ⟨#[]⟩] v.length := by
  apply Array.ext_getElem?
  intro q
  by_cases hq : q < v.length
  · simp [shvA, viewT, madeCells, hq, Nat.mod_one]
  · rw [Array.getElem?_eq_none (by rw [shvA_size v (Nat.zero_le _)]; omega), Array.getElem?_eq_none (by rw [size_madeCells]; omega)]
theorem shvA_all (v : List Nd) : shvA v v.length = ((viewT v).map Value.string).toArray := by simp [shvA]
theorem shvA_step (v : List Nd) {k : Nat} (h : k < v.length) : (shvA v k).setIfInBounds k (.string (mkB (nodeL (ndx v k)))) = shvA v (k + 1) := by
  apply Array.ext_getElem?
  intro j
  rw [Array.getElem?_setIfInBounds, shvA_size v (by omega)]
  unfold shvA
  rw [List.getElem?_toArray, List.getElem?_toArray]
  by_cases e : k = j
  · subst e
    rw [if_pos rfl, if_pos h, List.getElem?_append_left (by simp [viewT]; omega), List.getElem?_map, viewT, List.getElem?_map, List.getElem?_take, if_pos (by omega), ndx_eq v k h, List.getElem?_eq_getElem h]; rfl
  · rw [if_neg e]
    by_cases hj : j < k
    · rw [List.getElem?_append_left (by simp [viewT]; omega), List.getElem?_append_left (by simp [viewT]; omega), List.getElem?_map, List.getElem?_map, viewT, viewT, List.getElem?_map, List.getElem?_map, List.getElem?_take, List.getElem?_take, if_pos hj, if_pos (by omega)]
    · rw [List.getElem?_append_right (by simp [viewT]; omega), List.getElem?_append_right (by simp [viewT]; omega), List.getElem?_replicate, List.getElem?_replicate]
      simp only [viewT, List.length_map, List.length_take]
      rw [Nat.min_eq_left (by omega), Nat.min_eq_left (by omega)]
      congr 1
      exact propext ⟨fun h => by omega, fun h => by omega⟩
theorem viewT_get (v : List Nd) : (viewT v).map (fun s => s.data.toList) = v.map nodeL := viewT_bl v

set_option maxRecDepth 100000 in
set_option maxHeartbeats 2000000 in
theorem implShowView_any (A : Option Addr) (c : Nat) (v : List Nd) (w : World) (hN : Nds w w.heap.size A v) (hf : fitN 1048576 v) (hl : v.length ≤ 1048576) (hF : FormsAt w) (hT : TabN w) :
    Calls Tryd.prog 17 #[.slice A v.length c] w fun e w' => e = .returned (.string (mkB (showV v))) ∧ Below w.heap.size w w' := by
  obtain ⟨S, hS⟩ : ∃ S, mkB (showV v) = S := ⟨_, rfl⟩
  have HS := Lib.hid hS
  rw [hS]
  have HTB := Lib.hid (show ∀ W, Below w.heap.size w W → TabN W from fun W h => tabN_on hT h)
  have HNW := Lib.hid (show ∀ W, Below w.heap.size w W → Nds W W.heap.size A v from fun W h => hN.on h)
  have HFW := Lib.hid (show ∀ W, Below w.heap.size w W → FormsAt W from fun W h => hF.on h)
  clear hS hT
  go_enter Tryd.func17, Tryd.ntmps17
  go_wp2_with fail
  refine (implViewOk_any A c v w hN hf hF).mono ?_
  rintro e w1 ⟨rfl, hb1⟩
  cases hr : viewB v with
  | false =>
    have HD := Lib.hid (show S = ⟨#[]⟩ by rw [← HS.out]; unfold showV; rw [hr]; rfl)
    clear hr
    go_wp2
    go_ret
    exact ⟨congrArg (fun s => Ending.returned (.string s)) HD.out.symm, hb1⟩
  | true =>
    have HRT := Lib.hid (show ∀ j, j < v.length → nodeB (ndx v j) = true from fun j hj => view_right hr hj)
    have HD := Lib.hid (show S = mkB (cat [59, 32] (v.map nodeL)) by rw [← HS.out]; unfold showV; rw [if_pos hr])
    have HLN := Lib.hid (showV_len hr)
    have h9 := (viewB_all hr).2.2
    clear hr hN hF
    have hmk := fun wx => run_make_row' (P := Tryd.prog) 56 9 (.string ⟨#[]⟩) 16 Tryd.underlying56 info_str rfl .i64 .i64 v.length (by omega) (by omega) wx
    have hWm := hb1.alloc hb1.size (.cells (madeCells #[Value.string ⟨#[]⟩] v.length) 9)
    have hBm := Blk.new w1 9 (madeCells #[Value.string ⟨#[]⟩] v.length)
    rw [← shvA_zero] at hBm hWm
    have hG1 : w.heap.size ≤ w1.heap.size := hb1.size
    clear hb1
    go_wp2_with fail
    clear hmk
    go_loopw [14] (fun i wr => ∃ k : Nat, k ≤ v.length ∧ i = .int .i64 k ∧ Blk wr w1.heap.size 9 (shvA v k) ∧ Below w.heap.size w wr) (fun i _ => v.length - (intOf i).toNat)
    case atStart => exact ⟨0, Nat.zero_le _, rfl, by rw [shvA_zero] at hBm ⊢; exact hBm, by rw [shvA_zero] at hWm; exact hWm⟩
    case round =>
      clear hBm hWm
      obtain ⟨k, hk, rfl, hB, hW⟩ := hrel
      have hNr := HNW.out wr hW
      by_cases hlt : k < v.length
      · obtain ⟨b, off, Ac, cc, Az, cz, rfl, _, c0, c1, c2, c3, c4, hC, hZ⟩ := hNr.here hlt
        have bc := (Below.refl wr.heap.size wr).alloc (Nat.le_refl _) (.cells #[.int .i64 (ndx v k).k, .string (ndx v k).n, .slice Ac (ndx v k).c.length cc, .slice Az (ndx v k).z.length cz, .int .i64 (ndx v k).p] 30)
        obtain ⟨e0, e1, e2, e3, e4⟩ := (Blk.new wr 30 #[.int .i64 (ndx v k).k, .string (ndx v k).n, .slice Ac (ndx v k).c.length cc, .slice Az (ndx v k).z.length cz, .int .i64 (ndx v k).p]).c5
        have hWb := bel_step hW bc
        have hBb := hB.on bc
        have hCb := hC.on bc
        have hZb := hZ.on bc
        clear hNr hC hZ hW hB bc
        go_wp2_with fail
        generalize wr.alloc (.cells #[.int .i64 (ndx v k).k, .string (ndx v k).n, .slice Ac (ndx v k).c.length cc, .slice Az (ndx v k).z.length cz, .int .i64 (ndx v k).p] 30) = wa at *
        refine (showNode_any (ndx v k) Ac cc Az cz wa hCb hZb (HRT.out k hlt) (HFW.out wa hWb) (HTB.out wa hWb)).mono ?_
        rintro e w2 ⟨rfl, hb2⟩
        have hW2 := bel_step hWb hb2
        have hB2 := hBb.on hb2
        have hsz := shvA_size v (k := k) (by omega)
        obtain ⟨dv, d0⟩ : ∃ dv, w2.cell? ⟨w1.heap.size, k, none⟩ = some dv := ⟨(shvA v k)[k]'(by omega), by rw [hB2.cell k, Array.getElem?_eq_getElem (by omega)]⟩
        have f0 := hB2.frozen k
        have hB3 := hB2.set_ k (.string (mkB (nodeL (ndx v k))))
        rw [shvA_step v hlt] at hB3
        have HB3 := Lib.hid hB3
        have hW3 := hW2.setCell (p := ⟨w1.heap.size, k, none⟩) hG1 (.string (mkB (nodeL (ndx v k))))
        have HW3 := Lib.hid hW3
        generalize mkB (nodeL (ndx v k)) = sc at *
        clear c0 c1 c2 c3 c4 e0 e1 e2 e3 e4 hWb hBb hb2 hB3 hW3 hB2 hW2 hsz hCb hZb
        go_wp2
        go_roundw
        case rel => exact ⟨k + 1, by omega, by go_num, HB3.out, HW3.out⟩
        case measure => simp [intOf]; omega
      · have hd : decide (k < v.length) = false := by simpa using hlt
        obtain rfl : k = v.length := by omega
        rw [shvA_all] at hB
        have hcells : ∀ (j : Nat) x, (viewT v)[j]? = some x → wr.cell? ⟨w1.heap.size, 0 + j, none⟩ = some (.string x) := fun j x hx => by
          rw [Nat.zero_add, hB.cell j]
          simp [hx]
        have hjl : (Lib.join ((viewT v).map (·.data.toList)) (bl ⟨#[59, 32]⟩)).length ≤ 140737488355328 := by
          rw [viewT_get, show bl ⟨#[59, 32]⟩ = [59, 32] from rfl, join_catG]; have := HLN.out; omega
        have hJ := Tryd.strings_Join w1.heap.size 0 v.length (viewT v) ⟨#[59, 32]⟩ wr hcells hB.lt (by rw [viewT_length]; omega) (by rw [viewT_length]; exact Nat.le_refl _) hjl
        rw [viewT_length] at hJ
        have HJ := Lib.hid hJ
        have HJE := Lib.hid (show (⟨(Lib.join ((viewT v).map (·.data.toList)) (bl ⟨#[59, 32]⟩)).toArray⟩ : ByteArray) = S by rw [viewT_get, show bl ⟨#[59, 32]⟩ = [59, 32] from rfl, join_catG, HD.out]; rfl)
        clear hcells hjl hJ
        go_wp2_with fail
        refine HJ.out.mono ?_
        rintro e w3 ⟨rfl, hb3⟩
        rw [show (⟨(Lib.join ((viewT v).map (·.data.toList)) (ByteArray.data ⟨#[59, 32]⟩).toList).toArray⟩ : ByteArray) = S from HJE.out]
        have hW3 := bel_step hW hb3
        go_wp2
        go_ret
        exact ⟨rfl, hW3⟩
end Go.Proofs.YtcenfabjpgpofaaDoor
