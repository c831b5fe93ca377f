/- The model's l6Make; nothing that lay has turned. -/
import Derived.Test.YtdjoiehknpfigaaGreatSp1
import Derived.Test.YtdjoiehknpfigaaGreatDes0
import Derived.Test.YtdjoiehknpfigaaGreatSpS
import Derived.Deep.RegionHeld3
import Derived.Deep.DeepCutAuto
import Derived.Deep.CutBlock
namespace Go.Proofs.YtdjoiehknpfigaaGreat
open Go.RowKit

/-- A base of the call's own, and a code. -/
def SAns (lo : Nat) (P : List TB × Int) (w : World) (e : Ending) (w' : World) : Prop :=
  ∃ v xs, e = .returned (.tuple #[v, .int .i64 P.2]) ∧ SBs w' lo v xs ∧ xs.map PX.t = P.1 ∧ Below lo w w'
theorem SBs.parts {w : World} {lo n c : Nat} {A : Option Addr} {xs : List PX} (h : SBs w lo (.slice A n c) xs) (hn : 0 < xs.length) : ∃ g, A = some ⟨g, 0, none⟩ ∧ lo ≤ g ∧ g < w.heap.size ∧ n = xs.length ∧ xs.length ≤ c := by
  rcases h.1.2 with ⟨_, h0⟩ | ⟨g, cap, cur, hv, hg, hh, _, hc, _⟩
  · omega
  · injection hv with h1 h2 h3
    subst h1 h2 h3
    exact ⟨g, rfl, hg, (h.1.lt g rfl).2, rfl, by assumption⟩
theorem SBs.reads {w : World} {lo c : Nat} {A : Option Addr} {xs : List PX} (h : SBs w lo (.slice A xs.length c) xs) : Reads w w.heap.size 3 A xs.length (pflat xs) := Reads.of_own h.1
theorem add3 (g k : Nat) : Addr.add ⟨g, 0, none⟩ (k * 3) = ⟨g, k * 3, none⟩ := by unfold Addr.add; split <;> simp_all
theorem SBs.readsFrom {w : World} {lo g c n : Nat} {xs : List PX} (h : SBs w lo (.slice (some ⟨g, 0, none⟩) n c) xs) (hn : n = xs.length) {k : Nat} (hk : k ≤ n) (hc : n ≤ c) (hck : ¬ c = k) : Reads w w.heap.size 3 (some ⟨g, k * 3, none⟩) (n - k) (pflat (xs.drop k)) := by
  subst hn
  have := h.reads.cut hk hc
  rw [if_neg hck, Option.map_some, add3, pflat_drop] at this
  exact this
theorem SBs.readsTo {w : World} {lo g c n : Nat} {xs : List PX} (h : SBs w lo (.slice (some ⟨g, 0, none⟩) n c) xs) (hn : n = xs.length) {k : Nat} (hk : k ≤ n) : Reads w w.heap.size 3 (some ⟨g, 0, none⟩) k (pflat (xs.take k)) := by
  subst hn
  refine ⟨by rw [pflat_length, List.length_take, Nat.min_eq_left hk], fun h0 => ?_⟩
  obtain ⟨ad, e, hb, hc⟩ := h.reads.2 (by omega)
  refine ⟨ad, e, hb, fun j u hu => hc j u ?_⟩
  rw [← pflat_take] at hu
  rw [List.getElem?_take] at hu
  split at hu
  · exact hu
  · cases hu
theorem own_fresh (w : World) (lo : Nat) (h : lo ≤ w.heap.size) : (w.alloc (.cells #[] 55)).ownsRow lo 55 3 (.slice (some ⟨w.heap.size, 0, none⟩) 0 0) 0 [] :=
  ⟨rfl, .inr ⟨w.heap.size, 0, #[], rfl, h, heap_alloc_new w _, Nat.le_refl _, by decide, rfl, rfl⟩⟩
theorem SBs.hands {w : World} {lo c n : Nat} {A : Option Addr} {xs : List PX} (h : SBs w lo (.slice A n c) xs) (o : Obj) : SBs (w.alloc o) lo (.slice A n c) xs := h.on ((Below.refl _ _).alloc (Nat.le_refl _) o)
theorem SBs.shape {w : World} {lo n c : Nat} {A : Option Addr} {xs : List PX} (h : SBs w lo (.slice A n c) xs) : (∃ g, A = some ⟨g, 0, none⟩ ∧ lo ≤ g ∧ g < w.heap.size ∧ xs.length ≤ c) ∨ (A = none ∧ c = 0 ∧ xs = []) := by
  rcases h.1.2 with ⟨h1, h0⟩ | ⟨g, cap, cur, hv, hg, hh, _, hc, _⟩
  · injection h1 with h2 h3 h4
    exact .inr ⟨h2, h4, List.length_eq_zero_iff.1 h0⟩
  · injection hv with h1 h2 h3
    subst h1 h2 h3
    exact .inl ⟨g, rfl, hg, (h.1.lt g rfl).2, by assumption⟩
theorem reads_zero {w : World} {B s m : Nat} {A : Option Addr} (h : m = 0) : Reads w B s A m [] := ⟨by rw [h]; simp, fun h' => absurd h' (by omega)⟩
theorem one_nil : ∀ u ∈ ([] : List Value), u.oneCell' = true := fun u hu => by cases hu
theorem reads_nil (w : World) (B s : Nat) (A : Option Addr) : Reads w B s A 0 [] := ⟨by simp, fun h => absurd h (by omega)⟩
theorem PXs.ins {w : World} {lo : Nat} {xs : List PX} (h : PXs w lo xs) (k : Nat) (x : PX) (hx : ORows w lo x.u x.es ∧ x.es.map Ent.r = x.t.rows) : PXs w lo (xs.take k ++ [x] ++ xs.drop k) := fun y hy => by
  rcases List.mem_append.1 hy with hy | hy
  · rcases List.mem_append.1 hy with hy | hy
    · exact h y (List.mem_of_mem_take hy)
    · obtain rfl : y = x := by simpa using hy
      exact hx
  · exact h y (List.mem_of_mem_drop hy)
set_option maxRecDepth 100000 in
set_option maxHeartbeats 1500000 in
theorem l6Make_any (lo : Nat) (Ab : Option Addr) (cb : Nat) (xs : List PX) (ts : List TB) (dk : Int) (n : ByteArray) (Az : Option Addr) (cz : Nat) (z : List Int) (w : World) (hlo : lo ≤ w.heap.size) (hS : SBs w lo (.slice Ab ts.length cb) xs) (hd : xs.map PX.t = ts) (hf : fitT 1048576 ts) (hl : ts.length ≤ 4) (hI : Ints w w.heap.size Az z) (hz0 : 0 < z.length) :
    Calls Tryz.prog 45 #[.slice Ab ts.length cb, .agg #[.int .i64 dk, .string n, .slice Az z.length cz]] w (SAns lo (makeB ts n (ky z)) w) := by
  obtain ⟨i0, hi0, hz0', hz1, hz2⟩ := info_parts info_tableT
  obtain ⟨P, hP⟩ : ∃ P, makeB ts n (ky z) = P := ⟨_, rfl⟩
  have HPQ := Lib.hid hP
  rw [hP]
  have bc := (Below.refl w.heap.size w).alloc (Nat.le_refl _) (.cells #[.int .i64 dk, .string n, .slice Az z.length cz] 32)
  have BG := Blk.new w 32 #[.int .i64 dk, .string n, .slice Az z.length cz]
  have hS1 := hS.on bc
  have hI1 := hI.on bc
  have hW1 : Below lo w _ := bc.mono hlo
  have hlo1 : lo ≤ (w.alloc (.cells #[.int .i64 dk, .string n, .slice Az z.length cz] 32)).heap.size := by have := bc.size; omega
  have HD := Lib.hid hd
  have HF := Lib.hid hf
  have hzi : (0 : Int) < (z.length : Int) := by omega
  clear hS hI hd hf hP bc
  obtain ⟨bz, oz, rfl, hbz, cz0⟩ := hI1.first hz0
  obtain ⟨g0, g1, g2⟩ := BG.c3
  go_enter Tryz.func45, Tryz.ntmps45
  go_wp2_with fail
  generalize w.alloc (.cells #[.int .i64 dk, .string n, .slice (some ⟨bz, oz, none⟩) z.length cz] 32) = wb at *
  have hT := hS1.tabs HD.out HF.out
  refine (l6Find_any Ab cb ts n wb wb.heap.size hT (by omega)).mono ?_
  rintro e w1 ⟨rfl, hw1⟩
  subst hw1
  by_cases hi : fndN ts n < ts.length
  · rw [findN_yes hi]
    have HPE := Lib.hid (show P = (ts, 2) by rw [← HPQ.out]; unfold makeB; rw [if_pos hi])
    generalize fndN ts n = ik at *
    have hik : decide ((0 : Int) ≤ (ik : Int)) = true := by simp
    clear hi
    go_wp2
    refine bodyPost_ret (v := .tuple #[.slice Ab ts.length cb, .int .i64 2]) (by simp [results, Tryz.f45, go_sem, *]) rfl ?_
    exact ⟨_, xs, by rw [HPE.out], hS1, by rw [HPE.out]; exact HD.out, hW1⟩
  · rw [findN_no hi]
    have HI := Lib.hid hi
    clear hi
    go_wp2_with fail
    cases hin : inB (ky z) 1 4 with
    | false =>
      refine (l1In_no (ky z) 1 4 wb hin).mono ?_
      rintro e w2 ⟨rfl, hw2⟩
      subst hw2
      have HPE := Lib.hid (show P = (ts, 4) by rw [← HPQ.out]; unfold makeB; rw [if_neg HI.out, if_pos hin])
      clear hin
      go_wp2
      refine bodyPost_ret (v := .tuple #[.slice Ab ts.length cb, .int .i64 4]) (by simp [results, Tryz.f45, go_sem, *]) rfl ?_
      exact ⟨_, xs, by rw [HPE.out], hS1, by rw [HPE.out]; exact HD.out, hW1⟩
    | true =>
      refine (l1In_yes (ky z) 1 4 wb hin).mono ?_
      rintro e w2 ⟨rfl, hw2⟩
      subst hw2
      have HIN := Lib.hid hin
      clear hin
      by_cases h4 : ts.length = 4
      · have HPE := Lib.hid (show P = (ts, 5) by rw [← HPQ.out]; unfold makeB; rw [if_neg HI.out, if_neg (by rw [HIN.out]; simp), if_pos h4])
        have HV := Lib.hid (show ((ts.length : Int)) = 4 by omega)
        have hv : ((ts.length : Int) == 4) = true := beq_iff_eq.2 (by omega)
        clear h4
        go_wp2
        refine bodyPost_ret (v := .tuple #[.slice Ab ts.length cb, .int .i64 5]) (by simp [results, Tryz.f45, go_sem, *]) rfl ?_
        exact ⟨_, xs, by rw [HPE.out], hS1, by rw [HPE.out]; exact HD.out, hW1⟩
      · have HPE := Lib.hid (show P = (insN ts ⟨n, ky z, []⟩, 0) by rw [← HPQ.out]; unfold makeB; rw [if_neg HI.out, if_neg (by rw [HIN.out]; simp), if_neg h4])
        have hv : ((ts.length : Int) == 4) = false := beq_eq_false_iff_ne.2 (by omega)
        have hl3 : ts.length ≤ 3 := by omega
        clear h4
        have HDB := Lib.hid (show ∀ q : Nat, SBs (wb.drewN q) lo (.slice Ab ts.length cb) xs ∧ Ints (wb.drewN q) (wb.drewN q).heap.size (some ⟨bz, oz, none⟩) z ∧ Blk (wb.drewN q) w.heap.size 32 #[.int .i64 dk, .string n, .slice (some ⟨bz, oz, none⟩) z.length cz] ∧ Below lo w (wb.drewN q) ∧ lo ≤ (wb.drewN q).heap.size from fun q => ⟨hS1.drewN q, hI1.drewN q, BG.drewN q, bel_drewN hW1 q, hlo1⟩)
        go_upto_block 1 with fail
        go_cut [6] (fun s wx => ∃ k : Nat, k ≤ ts.length ∧ s = .int .i64 k ∧ plcN ts n = k ∧ ∃ q, wx = wb.drewN q)
        case first =>
          go_wp2
          go_loopw [6] (fun i wr => ∃ k : Nat, k ≤ ts.length ∧ i = .int .i64 k ∧ plcN ts n = k + plcN (ts.drop k) n ∧ ∃ q, wr = wb.drewN q) (fun i _ => ts.length - (intOf i).toNat)
          case atStart => exact ⟨0, Nat.zero_le _, rfl, by simp, 0, rfl⟩
          case round =>
            obtain ⟨k, hk, rfl, hp, hWn⟩ := hrel
            have HPk := Lib.hid hp
            have HWn := Lib.hid hWn
            have g1r : wr.cell? ⟨w.heap.size, 1, none⟩ = some (.string n) := by obtain ⟨q, rfl⟩ := hWn; exact g1
            have hTr : Tabs wr wr.heap.size Ab ts := by obtain ⟨q, rfl⟩ := hWn; exact hT
            clear hp hWn
            by_cases hlt : k < ts.length
            · obtain ⟨b, off, Ar, cr, rfl, hb, c0, _, _, _⟩ := hTr.here hlt
              have hki : (k : Int) < (ts.length : Int) := by omega
              by_cases hls : nlt (tx ts k).n n = true
              · have HS := Lib.hid (show plcN ts n = (k + 1 : Nat) + plcN (ts.drop (k + 1)) n by rw [HPk.out, plcN_yes hlt hls]; omega)
                have hbl : Op.bytesLess (tx ts k).n.toList n.toList = true := by rw [less_nlt]; exact hls
                go_wp2_with fail
                go_quiet (fail)
                go_wp2
                go_roundw
                case rel => exact ⟨k + 1, by omega, by go_num, HS.out, drew_more HWn.out _⟩
                case measure => simp [intOf]; omega
              · have HK := Lib.hid (show plcN ts n = k by rw [HPk.out, plcN_no hlt hls]; rfl)
                have hbl : Op.bytesLess (tx ts k).n.toList n.toList = false := by rw [less_nlt]; simpa using hls
                go_wp2_with fail
                go_quiet (fail)
                have hw5 : ∃ q, wr.drewN nq = wb.drewN q := drew_more HWn.out _
                go_wp2_with fail
                go_meet
                exact ⟨k, hk, rfl, HK.out, hw5⟩
            · have hd : decide (k < ts.length) = false := by simpa using hlt
              have HK := Lib.hid (show plcN ts n = k by rw [HPk.out, List.drop_eq_nil_iff.2 (by omega)]; rfl)
              go_wp2_with fail
              go_quiet (fail)
              have hw5 : ∃ q, wr.drewN nq = wb.drewN q := drew_more HWn.out _
              go_wp2_with fail
              go_meet
              exact ⟨k, hk, rfl, HK.out, hw5⟩
        case rest =>
        obtain ⟨k, hk, rfl, hKp, q, rfl⟩ := hcut
        have HK := Lib.hid hKp
        obtain ⟨hS5, hI5, BG5, hW5, hlo5⟩ := HDB.out q
        generalize wb.drewN q = w5 at *
        have hxl : xs.length = ts.length := by rw [← HD.out, List.length_map]
        clear hKp hS1 hI1 BG hW1 hlo1 hT g0 g1 g2 cz0 hbz HDB hv hzi
        have HONE := Lib.hid (show ∀ u ∈ pflat (xs.drop k), u.oneCell' = true from (show PXs w5 lo (xs.drop k) from fun x hx => hS5.2 x (List.mem_of_mem_drop hx)).one)
        have HONE2 := Lib.hid (show ∀ u ∈ pflat (xs.take k), u.oneCell' = true from (show PXs w5 lo (xs.take k) from fun x hx => hS5.2 x (List.mem_of_mem_take hx)).one)
        have hown5 : (w5.alloc (.cells #[] 55)).ownsRow w5.heap.size 55 3 (.slice (some ⟨w5.heap.size, 0, none⟩) 0 0) 0 [] := own_fresh w5 _ (Nat.le_refl _)
        have hki0 : (0 : Int) ≤ (k : Int) := Int.natCast_nonneg _
        have hki1 : (k : Int) ≤ (ts.length : Int) := by omega
        rcases hS5.shape with ⟨g, rfl, hg1, hg2, hcap⟩ | ⟨rfl, rfl, rfl⟩
        · have hki2 : (k : Int) ≤ (cb : Int) := by omega
          have hcb : ts.length ≤ cb := by omega
          go_upto_region 10 with fail
          go_cut [7] (fun s wx => ∃ A8 c8, s = .slice A8 (ts.length - k) c8 ∧ wx.ownsRow w5.heap.size 55 3 s (ts.length - k) (pflat (xs.drop k)) ∧ Below w5.heap.size w5 wx)
          case first =>
            by_cases hck : cb = k
            · obtain rfl : cb = k := hck
              have hz0k : ts.length - cb = 0 := by omega
              have HDR := Lib.hid (show pflat (xs.drop cb) = [] by rw [List.drop_eq_nil_iff.2 (by omega)]; rfl)
              have HZK := Lib.hid hz0k
              clear hz0k
              go_wp2_with (at_builtin; refine wpList_append_any _ (by rfl) (.tmp 44) (.tmp 47) 28 (by rfl) w5.heap.size 55 i0 _ 3 48 Tryz.underlying28 hi0 hz0' hz1 hz2 rfl (by decide) _ 0 [] (by rfl) hown5 w5.heap.size (some ⟨g, 0, none⟩) 0 0 [] (by rfl) (reads_nil _ _ _ _) one_nil (by simp only [maxLen]; omega) (by omega) (by simp) ?_; intro v8 w8 hown8 hg8 hat8)
              simp only [Nat.zero_add, List.nil_append] at hown8
              have hb8 : Below w5.heap.size w5 w8 := ((Below.refl w5.heap.size w5).alloc (Nat.le_refl _) _).grown hg8 (by simp) (fun r e => by have : w5.heap.size = r := Option.some.inj e; omega)
              obtain ⟨A8, c8, hv8⟩ := own_form3 hown8
              subst hv8
              go_meet
              rw [HDR.out, HZK.out]
              exact ⟨A8, c8, rfl, hown8, hb8⟩
            · have hRk := (hS5.readsFrom hxl.symm hk hcb hck).alloc (Nat.le_refl _) (.cells #[] 55)
              have HXL := Lib.hid hxl
              clear hxl
              go_wp2_with (at_builtin; refine wpList_append_any _ (by rfl) (.tmp 44) (.tmp 47) 28 (by rfl) w5.heap.size 55 i0 _ 3 48 Tryz.underlying28 hi0 hz0' hz1 hz2 rfl (by decide) _ 0 [] (by rfl) hown5 _ (some ⟨g, k * 3, none⟩) (ts.length - k) _ (pflat (xs.drop k)) (by rfl) hRk HONE.out (by simp only [maxLen]; omega) (by omega) (by simp) ?_; intro v8 w8 hown8 hg8 hat8)
              simp only [Nat.zero_add, List.nil_append] at hown8
              have hb8 : Below w5.heap.size w5 w8 := ((Below.refl w5.heap.size w5).alloc (Nat.le_refl _) _).grown hg8 (by simp) (fun r e => by have : w5.heap.size = r := Option.some.inj e; omega)
              obtain ⟨A8, c8, hv8⟩ := own_form3 hown8
              subst hv8
              go_meet
              exact ⟨A8, c8, rfl, hown8, hb8⟩
          case rest =>
          obtain ⟨A8, c8, rfl, hown8, hb8⟩ := hcut
          have hS8 := hS5.on hb8
          have hI8 := hI5.on hb8
          have BG8 := BG5.on hb8
          have hW8 : Below lo w wc := hW5.trans (hb8.mono hlo5)
          have hlo8 : lo ≤ wc.heap.size := by have := hb8.size; omega
          have hs8 := hb8.size
          obtain ⟨bz', oz', ebz, hbz8, cz8⟩ := hI8.first hz0
          injection ebz with ebz
          injection ebz with eb1 eb2 _
          subst eb1 eb2
          obtain ⟨d0, d1, d2⟩ := BG8.c3
          have HR8 := Lib.hid (hS8.readsTo hxl.symm hk)
          have hGl := BG8.lt
          have HPX := Lib.hid (hS8.2.ins k ⟨⟨n, ky z, []⟩, .slice none 0 0, []⟩ ⟨ORows.none_ _ _, rfl⟩)
          have HYL := Lib.hid (show (xs.take k ++ [(⟨⟨n, ky z, []⟩, .slice none 0 0, []⟩ : PX)] ++ xs.drop k).length = k + 1 + (ts.length - k) by simp [hxl]; omega)
          have HYF := Lib.hid (show pflat (xs.take k ++ [(⟨⟨n, ky z, []⟩, .slice none 0 0, []⟩ : PX)] ++ xs.drop k) = pflat (xs.take k) ++ [.string n, .int .i64 (ky z), .slice none 0 0] ++ pflat (xs.drop k) by rw [pflat_append, pflat_append]; rfl)
          have HYM := Lib.hid (show (xs.take k ++ [(⟨⟨n, ky z, []⟩, .slice none 0 0, []⟩ : PX)] ++ xs.drop k).map PX.t = insN ts ⟨n, ky z, []⟩ by
            unfold insN
            rw [HK.out, List.map_append, List.map_append, List.map_take, List.map_drop, HD.out]; simp)
          have hkp : k + 1 + (ts.length - k) ≤ 5 := by omega
          have hk4 : k ≤ 4 := by omega
          have hmm4 : ts.length - k ≤ 4 := by omega
          clear hown5 hS5 hI5 BG5 hW5 hlo5 hb8 hS8 hI8 BG8 hxl hcap
          go_wp2_with fail
          have HB := Lib.hid (show ((wc.alloc (.cells #[] 55)).alloc (.cells #[.string n, .int .i64 (ky z), .slice none 0 0] 55)).ownsRow wc.heap.size 55 3 (.slice (some ⟨wc.heap.size, 0, none⟩) 0 0) 0 [] ∧ Blk ((wc.alloc (.cells #[] 55)).alloc (.cells #[.string n, .int .i64 (ky z), .slice none 0 0] 55)) (wc.heap.size + 1) 55 #[.string n, .int .i64 (ky z), .slice none 0 0] ∧ Reads ((wc.alloc (.cells #[] 55)).alloc (.cells #[.string n, .int .i64 (ky z), .slice none 0 0] 55)) wc.heap.size 3 (some ⟨g, 0, none⟩) k (pflat (xs.take k)) ∧ Below wc.heap.size wc ((wc.alloc (.cells #[] 55)).alloc (.cells #[.string n, .int .i64 (ky z), .slice none 0 0] 55)) from ⟨(own_fresh wc _ (Nat.le_refl _)).alloc _, by have := Blk.new (wc.alloc (.cells #[] 55)) 55 #[.string n, .int .i64 (ky z), .slice none 0 0]; rwa [World.size_alloc] at this, (HR8.out.alloc (Nat.le_refl _) _).alloc (by rw [World.size_alloc]; omega) _, bel_two _ _⟩)
          have HC := Lib.hid (show ((wc.alloc (.cells #[.string n, .int .i64 (ky z), .slice none 0 0] 55)).alloc (.cells #[] 55)).ownsRow wc.heap.size 55 3 (.slice (some ⟨wc.heap.size + 1, 0, none⟩) 0 0) 0 [] ∧ Blk ((wc.alloc (.cells #[.string n, .int .i64 (ky z), .slice none 0 0] 55)).alloc (.cells #[] 55)) wc.heap.size 55 #[.string n, .int .i64 (ky z), .slice none 0 0] ∧ Reads ((wc.alloc (.cells #[.string n, .int .i64 (ky z), .slice none 0 0] 55)).alloc (.cells #[] 55)) wc.heap.size 3 (some ⟨g, 0, none⟩) k (pflat (xs.take k)) ∧ Below wc.heap.size wc ((wc.alloc (.cells #[.string n, .int .i64 (ky z), .slice none 0 0] 55)).alloc (.cells #[] 55)) from ⟨by have := own_fresh (wc.alloc (.cells #[.string n, .int .i64 (ky z), .slice none 0 0] 55)) wc.heap.size (by rw [World.size_alloc]; omega); rwa [World.size_alloc] at this, (Blk.new wc 55 #[.string n, .int .i64 (ky z), .slice none 0 0]).alloc _, (HR8.out.alloc (Nat.le_refl _) _).alloc (by rw [World.size_alloc]; omega) _, bel_two _ _⟩)
          have HXX := Lib.hid (And.intro d1 (And.intro d2 cz8))
          go_region_held3 (fun w' => w'.cell? ⟨w.heap.size, 1, none⟩ = some (.string n) ∧ w'.cell? ⟨w.heap.size, 2, none⟩ = some (.slice (some ⟨bz, oz, none⟩) z.length cz) ∧ w'.cell? ⟨bz, oz, none⟩ = some (.int .i64 (ky z)))
            (first | go_keep | exact ⟨(hb11.cell (p := ⟨w.heap.size, 1, none⟩) hGl).trans HXX.out.1, (hb11.cell (p := ⟨w.heap.size, 2, none⟩) hGl).trans HXX.out.2.1, (hb11.cell (p := ⟨bz, oz, none⟩) hbz8).trans HXX.out.2.2⟩ | exact ⟨(hb10.cell (p := ⟨w.heap.size, 1, none⟩) hGl).trans HXX.out.1, (hb10.cell (p := ⟨w.heap.size, 2, none⟩) hGl).trans HXX.out.2.1, (hb10.cell (p := ⟨bz, oz, none⟩) hbz8).trans HXX.out.2.2⟩ | exact ⟨(hb9.cell (p := ⟨w.heap.size, 1, none⟩) hGl).trans HXX.out.1, (hb9.cell (p := ⟨w.heap.size, 2, none⟩) hGl).trans HXX.out.2.1, (hb9.cell (p := ⟨bz, oz, none⟩) hbz8).trans HXX.out.2.2⟩)
            (first
              | (refine step_append_any _ (by rfl) (.tmp 62) (.tmp 63) 28 (by rfl) wc.heap.size 55 i0 _ 3 48 Tryz.underlying28 hi0 hz0' hz1 hz2 rfl (by decide) _ (k + 1) (pflat (xs.take k) ++ [.string n, .int .i64 (ky z), .slice none 0 0]) (by rfl) hown10 _ A8 (ts.length - k) c8 (pflat (xs.drop k)) (by rfl) (Reads.of_own hown8A) HONE.out (by simp only [maxLen]; omega) (by omega) (by have := hb10.size; omega) ?_; intro v11 w11 hown11 hg11 hat11; obtain ⟨A11, c11, hv11⟩ := own_form3 hown11; subst hv11; have hb11 : Below wc.heap.size wc w11 := hb10.grown hg11 (by have := hb10.size; omega) (fun r e => (hown10.lt r e).1))
              | (have _ := BNB; refine step_append_any _ (by rfl) (.tmp 53) (.tmp 61) 28 (by rfl) wc.heap.size 55 i0 _ 3 48 Tryz.underlying28 hi0 hz0' hz1 hz2 rfl (by decide) _ k (pflat (xs.take k)) (by rfl) hown9 _ (some ⟨wc.heap.size + 1, 0, none⟩) 1 1 [.string n, .int .i64 (ky z), .slice none 0 0] (by rfl) (reads_tab BNB rfl) (by simp [Value.oneCell']) (by simp only [maxLen]; omega) (by omega) (by have := hb9.size; omega) ?_; intro v10 w10 hown10 hg10 hat10; obtain ⟨A10, c10, hv10⟩ := own_form3 hown10; subst hv10; have hb10 : Below wc.heap.size wc w10 := hb9.grown hg10 (by have := hb9.size; omega) (fun r e => (hown9.lt r e).1); have hown8A := own_keepB hown8 (fun r e => hb10.block r (hown8.lt r e).2))
              | (have _ := BNC; refine step_append_any _ (by rfl) (.tmp 53) (.tmp 61) 28 (by rfl) wc.heap.size 55 i0 _ 3 48 Tryz.underlying28 hi0 hz0' hz1 hz2 rfl (by decide) _ k (pflat (xs.take k)) (by rfl) hown9 _ (some ⟨wc.heap.size, 0, none⟩) 1 1 [.string n, .int .i64 (ky z), .slice none 0 0] (by rfl) (reads_tab BNC rfl) (by simp [Value.oneCell']) (by simp only [maxLen]; omega) (by omega) (by have := hb9.size; omega) ?_; intro v10 w10 hown10 hg10 hat10; obtain ⟨A10, c10, hv10⟩ := own_form3 hown10; subst hv10; have hb10 : Below wc.heap.size wc w10 := hb9.grown hg10 (by have := hb9.size; omega) (fun r e => (hown9.lt r e).1); have hown8A := own_keepB hown8 (fun r e => hb10.block r (hown8.lt r e).2))
              | (refine step_append_any _ (by rfl) (.tmp 53) (.tmp 61) 28 (by rfl) wc.heap.size 55 i0 _ 3 48 Tryz.underlying28 hi0 hz0' hz1 hz2 rfl (by decide) _ k (pflat (xs.take k)) (by rfl) (hown9.alloc _) _ (some ⟨w9.heap.size, 0, none⟩) 1 1 [.string n, .int .i64 (ky z), .slice none 0 0] (by rfl) (reads_tab (Blk.new w9 55 #[.string n, .int .i64 (ky z), .slice none 0 0]) rfl) (by simp [Value.oneCell']) (by simp only [maxLen]; omega) (by omega) (by rw [World.size_alloc]; have := hb9.size; omega) ?_; intro v10 w10 hown10 hg10 hat10; obtain ⟨A10, c10, hv10⟩ := own_form3 hown10; subst hv10; have hb10 : Below wc.heap.size wc w10 := (hb9.alloc (by have := hb9.size; omega) _).grown hg10 (by rw [World.size_alloc]; have := hb9.size; omega) (fun r e => (hown9.lt r e).1); have hown8A := own_keepB hown8 (fun r e => hb10.block r (hown8.lt r e).2))
              | (refine step_append_any _ (by rfl) (.tmp 49) (.tmp 52) 28 (by rfl) wc.heap.size 55 i0 _ 3 48 Tryz.underlying28 hi0 hz0' hz1 hz2 rfl (by decide) _ 0 [] (by rfl) HB.out.1 _ (some ⟨g, 0, none⟩) k _ (pflat (xs.take k)) (by rfl) HB.out.2.2.1 HONE2.out (by simp only [maxLen]; omega) (by omega) (by have := HB.out.2.2.2.size; exact this) ?_; intro v9 w9 hown9 hg9 hat9; simp only [Nat.zero_add, List.nil_append] at hown9; obtain ⟨A9, c9, hv9⟩ := own_form3 hown9; subst hv9; have hb9 : Below wc.heap.size wc w9 := Below.grown (bel_drewN HB.out.2.2.2 1) hg9 (by have := HB.out.2.2.2.size; exact this) (fun r e => by have : wc.heap.size = r := Option.some.inj e; omega); have BNB := Blk.grown (HB.out.2.1.drewN 1) hg9 (fun e => by have : wc.heap.size + 1 = wc.heap.size := Option.some.inj e; omega))
              | (refine step_append_any _ (by rfl) (.tmp 49) (.tmp 52) 28 (by rfl) wc.heap.size 55 i0 _ 3 48 Tryz.underlying28 hi0 hz0' hz1 hz2 rfl (by decide) _ 0 [] (by rfl) HC.out.1 _ (some ⟨g, 0, none⟩) k _ (pflat (xs.take k)) (by rfl) HC.out.2.2.1 HONE2.out (by simp only [maxLen]; omega) (by omega) (by have := HC.out.2.2.2.size; exact this) ?_; intro v9 w9 hown9 hg9 hat9; simp only [Nat.zero_add, List.nil_append] at hown9; obtain ⟨A9, c9, hv9⟩ := own_form3 hown9; subst hv9; have hb9 : Below wc.heap.size wc w9 := Below.grown (bel_drewN HC.out.2.2.2 1) hg9 (by have := HC.out.2.2.2.size; exact this) (fun r e => by have : wc.heap.size + 1 = r := Option.some.inj e; omega); have BNC := Blk.grown (HC.out.2.1.drewN 1) hg9 (fun e => by have : wc.heap.size = wc.heap.size + 1 := Option.some.inj e; omega))
              | (refine step_append_any _ (by rfl) (.tmp 49) (.tmp 52) 28 (by rfl) wc.heap.size 55 i0 _ 3 48 Tryz.underlying28 hi0 hz0' hz1 hz2 rfl (by decide) _ 0 [] (by rfl) (own_fresh wc _ (Nat.le_refl _)) _ (some ⟨g, 0, none⟩) k _ (pflat (xs.take k)) (by rfl) (HR8.out.alloc (Nat.le_refl _) _) HONE2.out (by simp only [maxLen]; omega) (by omega) (by simp) ?_; intro v9 w9 hown9 hg9 hat9; simp only [Nat.zero_add, List.nil_append] at hown9; obtain ⟨A9, c9, hv9⟩ := own_form3 hown9; subst hv9; have hb9 : Below wc.heap.size wc w9 := Below.grown (bel_drewN ((Below.refl wc.heap.size wc).alloc (Nat.le_refl _) (.cells #[] 55)) 1) hg9 (by show _ ≤ (wc.alloc _).heap.size; simp) (fun r e => by have : wc.heap.size = r := Option.some.inj e; omega)))
          all_goals
            go_wp2_with fail
            refine bodyPost_ret (v := .tuple #[.slice A11 (k + 1 + (ts.length - k)) c11, .int .i64 0]) (by simp [results, Tryz.f45, go_sem, *]) rfl ?_
            rw [HPE.out]
            exact ⟨_, xs.take k ++ [(⟨⟨n, ky z, []⟩, .slice none 0 0, []⟩ : PX)] ++ xs.drop k, rfl, SBs.made HPX.out hb11 (by rw [HYL.out, HYF.out]; exact hown11) hlo8, HYM.out, hW8.trans (hb11.mono hlo8)⟩
        · obtain rfl : ts = [] := HD.out.symm
          obtain rfl : k = 0 := Nat.le_zero.1 hk
          have HONE0 := Lib.hid (show ∀ u ∈ pflat ([] : List PX), u.oneCell' = true from fun u hu => by cases hu)
          go_upto_region 10 with fail
          go_cut [7] (fun s wx => ∃ A8 c8, s = .slice A8 0 c8 ∧ wx.ownsRow w5.heap.size 55 3 s 0 (pflat ([] : List PX)) ∧ Below w5.heap.size w5 wx)
          case first =>
            go_wp2_with (at_builtin; refine wpList_append_any _ (by rfl) (.tmp 44) (.tmp 47) 28 (by rfl) w5.heap.size 55 i0 _ 3 48 Tryz.underlying28 hi0 hz0' hz1 hz2 rfl (by decide) _ 0 [] (by rfl) hown5 w5.heap.size none 0 0 [] (by rfl) (reads_nil _ _ _ _) one_nil (by simp only [maxLen]; omega) (by omega) (by simp) ?_; intro v8 w8 hown8 hg8 hat8)
            simp only [Nat.zero_add, List.nil_append] at hown8
            have hb8 : Below w5.heap.size w5 w8 := ((Below.refl w5.heap.size w5).alloc (Nat.le_refl _) _).grown hg8 (by simp) (fun r e => by have : w5.heap.size = r := Option.some.inj e; omega)
            obtain ⟨A8, c8, hv8⟩ := own_form3 hown8
            subst hv8
            go_meet
            exact ⟨A8, c8, rfl, hown8, hb8⟩
          case rest =>
          obtain ⟨A8, c8, rfl, hown8, hb8⟩ := hcut
          have hI8 := hI5.on hb8
          have BG8 := BG5.on hb8
          have hW8 : Below lo w wc := hW5.trans (hb8.mono hlo5)
          have hlo8 : lo ≤ wc.heap.size := by have := hb8.size; omega
          have hs8 := hb8.size
          obtain ⟨bz', oz', ebz, hbz8, cz8⟩ := hI8.first hz0
          injection ebz with ebz
          injection ebz with eb1 eb2 _
          subst eb1 eb2
          obtain ⟨d0, d1, d2⟩ := BG8.c3
          have HR8 := Lib.hid (show Reads wc wc.heap.size 3 none 0 (pflat ([] : List PX)) from reads_nil _ _ _ _)
          have hGl := BG8.lt
          have HPX := Lib.hid (show PXs wc lo [(⟨⟨n, ky z, []⟩, .slice none 0 0, []⟩ : PX)] from fun y hy => by
            obtain rfl : y = _ := List.mem_singleton.1 hy
            exact ⟨ORows.none_ _ _, rfl⟩)
          clear hown5 hS5 hI5 BG5 hW5 hlo5 hb8 hI8 BG8 hxl HONE HONE2
          have HONE := HONE0
          have HONE2 := HONE0
          go_wp2_with fail
          have HB := Lib.hid (show ((wc.alloc (.cells #[] 55)).alloc (.cells #[.string n, .int .i64 (ky z), .slice none 0 0] 55)).ownsRow wc.heap.size 55 3 (.slice (some ⟨wc.heap.size, 0, none⟩) 0 0) 0 [] ∧ Blk ((wc.alloc (.cells #[] 55)).alloc (.cells #[.string n, .int .i64 (ky z), .slice none 0 0] 55)) (wc.heap.size + 1) 55 #[.string n, .int .i64 (ky z), .slice none 0 0] ∧ Reads ((wc.alloc (.cells #[] 55)).alloc (.cells #[.string n, .int .i64 (ky z), .slice none 0 0] 55)) wc.heap.size 3 none 0 (pflat ([] : List PX)) ∧ Below wc.heap.size wc ((wc.alloc (.cells #[] 55)).alloc (.cells #[.string n, .int .i64 (ky z), .slice none 0 0] 55)) from ⟨(own_fresh wc _ (Nat.le_refl _)).alloc _, by have := Blk.new (wc.alloc (.cells #[] 55)) 55 #[.string n, .int .i64 (ky z), .slice none 0 0]; rwa [World.size_alloc] at this, (HR8.out.alloc (Nat.le_refl _) _).alloc (by rw [World.size_alloc]; omega) _, bel_two _ _⟩)
          have HC := Lib.hid (show ((wc.alloc (.cells #[.string n, .int .i64 (ky z), .slice none 0 0] 55)).alloc (.cells #[] 55)).ownsRow wc.heap.size 55 3 (.slice (some ⟨wc.heap.size + 1, 0, none⟩) 0 0) 0 [] ∧ Blk ((wc.alloc (.cells #[.string n, .int .i64 (ky z), .slice none 0 0] 55)).alloc (.cells #[] 55)) wc.heap.size 55 #[.string n, .int .i64 (ky z), .slice none 0 0] ∧ Reads ((wc.alloc (.cells #[.string n, .int .i64 (ky z), .slice none 0 0] 55)).alloc (.cells #[] 55)) wc.heap.size 3 none 0 (pflat ([] : List PX)) ∧ Below wc.heap.size wc ((wc.alloc (.cells #[.string n, .int .i64 (ky z), .slice none 0 0] 55)).alloc (.cells #[] 55)) from ⟨by have := own_fresh (wc.alloc (.cells #[.string n, .int .i64 (ky z), .slice none 0 0] 55)) wc.heap.size (by rw [World.size_alloc]; omega); rwa [World.size_alloc] at this, (Blk.new wc 55 #[.string n, .int .i64 (ky z), .slice none 0 0]).alloc _, (HR8.out.alloc (Nat.le_refl _) _).alloc (by rw [World.size_alloc]; omega) _, bel_two _ _⟩)
          have HXX := Lib.hid (And.intro d1 (And.intro d2 cz8))
          go_region_held3 (fun w' => w'.cell? ⟨w.heap.size, 1, none⟩ = some (.string n) ∧ w'.cell? ⟨w.heap.size, 2, none⟩ = some (.slice (some ⟨bz, oz, none⟩) z.length cz) ∧ w'.cell? ⟨bz, oz, none⟩ = some (.int .i64 (ky z)))
            (first | go_keep | exact ⟨(hb11.cell (p := ⟨w.heap.size, 1, none⟩) hGl).trans HXX.out.1, (hb11.cell (p := ⟨w.heap.size, 2, none⟩) hGl).trans HXX.out.2.1, (hb11.cell (p := ⟨bz, oz, none⟩) hbz8).trans HXX.out.2.2⟩ | exact ⟨(hb10.cell (p := ⟨w.heap.size, 1, none⟩) hGl).trans HXX.out.1, (hb10.cell (p := ⟨w.heap.size, 2, none⟩) hGl).trans HXX.out.2.1, (hb10.cell (p := ⟨bz, oz, none⟩) hbz8).trans HXX.out.2.2⟩ | exact ⟨(hb9.cell (p := ⟨w.heap.size, 1, none⟩) hGl).trans HXX.out.1, (hb9.cell (p := ⟨w.heap.size, 2, none⟩) hGl).trans HXX.out.2.1, (hb9.cell (p := ⟨bz, oz, none⟩) hbz8).trans HXX.out.2.2⟩)
            (first
              | (refine step_append_any _ (by rfl) (.tmp 62) (.tmp 63) 28 (by rfl) wc.heap.size 55 i0 _ 3 48 Tryz.underlying28 hi0 hz0' hz1 hz2 rfl (by decide) _ (0 + 1) (pflat ([] : List PX) ++ [.string n, .int .i64 (ky z), .slice none 0 0]) (by rfl) hown10 _ A8 0 c8 (pflat ([] : List PX)) (by rfl) (Reads.of_own hown8A) HONE.out (by simp only [maxLen]; omega) (by omega) (by have := hb10.size; omega) ?_; intro v11 w11 hown11 hg11 hat11; obtain ⟨A11, c11, hv11⟩ := own_form3 hown11; subst hv11; have hb11 : Below wc.heap.size wc w11 := hb10.grown hg11 (by have := hb10.size; omega) (fun r e => (hown10.lt r e).1))
              | (have _ := BNB; refine step_append_any _ (by rfl) (.tmp 53) (.tmp 61) 28 (by rfl) wc.heap.size 55 i0 _ 3 48 Tryz.underlying28 hi0 hz0' hz1 hz2 rfl (by decide) _ 0 (pflat ([] : List PX)) (by rfl) hown9 _ (some ⟨wc.heap.size + 1, 0, none⟩) 1 1 [.string n, .int .i64 (ky z), .slice none 0 0] (by rfl) (reads_tab BNB rfl) (by simp [Value.oneCell']) (by simp only [maxLen]; omega) (by omega) (by have := hb9.size; omega) ?_; intro v10 w10 hown10 hg10 hat10; obtain ⟨A10, c10, hv10⟩ := own_form3 hown10; subst hv10; have hb10 : Below wc.heap.size wc w10 := hb9.grown hg10 (by have := hb9.size; omega) (fun r e => (hown9.lt r e).1); have hown8A := own_keepB hown8 (fun r e => hb10.block r (hown8.lt r e).2))
              | (have _ := BNC; refine step_append_any _ (by rfl) (.tmp 53) (.tmp 61) 28 (by rfl) wc.heap.size 55 i0 _ 3 48 Tryz.underlying28 hi0 hz0' hz1 hz2 rfl (by decide) _ 0 (pflat ([] : List PX)) (by rfl) hown9 _ (some ⟨wc.heap.size, 0, none⟩) 1 1 [.string n, .int .i64 (ky z), .slice none 0 0] (by rfl) (reads_tab BNC rfl) (by simp [Value.oneCell']) (by simp only [maxLen]; omega) (by omega) (by have := hb9.size; omega) ?_; intro v10 w10 hown10 hg10 hat10; obtain ⟨A10, c10, hv10⟩ := own_form3 hown10; subst hv10; have hb10 : Below wc.heap.size wc w10 := hb9.grown hg10 (by have := hb9.size; omega) (fun r e => (hown9.lt r e).1); have hown8A := own_keepB hown8 (fun r e => hb10.block r (hown8.lt r e).2))
              | (refine step_append_any _ (by rfl) (.tmp 53) (.tmp 61) 28 (by rfl) wc.heap.size 55 i0 _ 3 48 Tryz.underlying28 hi0 hz0' hz1 hz2 rfl (by decide) _ 0 (pflat ([] : List PX)) (by rfl) (hown9.alloc _) _ (some ⟨w9.heap.size, 0, none⟩) 1 1 [.string n, .int .i64 (ky z), .slice none 0 0] (by rfl) (reads_tab (Blk.new w9 55 #[.string n, .int .i64 (ky z), .slice none 0 0]) rfl) (by simp [Value.oneCell']) (by simp only [maxLen]; omega) (by omega) (by rw [World.size_alloc]; have := hb9.size; omega) ?_; intro v10 w10 hown10 hg10 hat10; obtain ⟨A10, c10, hv10⟩ := own_form3 hown10; subst hv10; have hb10 : Below wc.heap.size wc w10 := (hb9.alloc (by have := hb9.size; omega) _).grown hg10 (by rw [World.size_alloc]; have := hb9.size; omega) (fun r e => (hown9.lt r e).1); have hown8A := own_keepB hown8 (fun r e => hb10.block r (hown8.lt r e).2))
              | (refine step_append_any _ (by rfl) (.tmp 49) (.tmp 52) 28 (by rfl) wc.heap.size 55 i0 _ 3 48 Tryz.underlying28 hi0 hz0' hz1 hz2 rfl (by decide) _ 0 [] (by rfl) HB.out.1 _ none 0 _ (pflat ([] : List PX)) (by rfl) HB.out.2.2.1 HONE2.out (by simp only [maxLen]; omega) (by omega) (by have := HB.out.2.2.2.size; exact this) ?_; intro v9 w9 hown9 hg9 hat9; simp only [Nat.zero_add, List.nil_append] at hown9; obtain ⟨A9, c9, hv9⟩ := own_form3 hown9; subst hv9; have hb9 : Below wc.heap.size wc w9 := Below.grown (bel_drewN HB.out.2.2.2 1) hg9 (by have := HB.out.2.2.2.size; exact this) (fun r e => by have : wc.heap.size = r := Option.some.inj e; omega); have BNB := Blk.grown (HB.out.2.1.drewN 1) hg9 (fun e => by have : wc.heap.size + 1 = wc.heap.size := Option.some.inj e; omega))
              | (refine step_append_any _ (by rfl) (.tmp 49) (.tmp 52) 28 (by rfl) wc.heap.size 55 i0 _ 3 48 Tryz.underlying28 hi0 hz0' hz1 hz2 rfl (by decide) _ 0 [] (by rfl) HC.out.1 _ none 0 _ (pflat ([] : List PX)) (by rfl) HC.out.2.2.1 HONE2.out (by simp only [maxLen]; omega) (by omega) (by have := HC.out.2.2.2.size; exact this) ?_; intro v9 w9 hown9 hg9 hat9; simp only [Nat.zero_add, List.nil_append] at hown9; obtain ⟨A9, c9, hv9⟩ := own_form3 hown9; subst hv9; have hb9 : Below wc.heap.size wc w9 := Below.grown (bel_drewN HC.out.2.2.2 1) hg9 (by have := HC.out.2.2.2.size; exact this) (fun r e => by have : wc.heap.size + 1 = r := Option.some.inj e; omega); have BNC := Blk.grown (HC.out.2.1.drewN 1) hg9 (fun e => by have : wc.heap.size = wc.heap.size + 1 := Option.some.inj e; omega))
              | (refine step_append_any _ (by rfl) (.tmp 49) (.tmp 52) 28 (by rfl) wc.heap.size 55 i0 _ 3 48 Tryz.underlying28 hi0 hz0' hz1 hz2 rfl (by decide) _ 0 [] (by rfl) (own_fresh wc _ (Nat.le_refl _)) _ none 0 _ (pflat ([] : List PX)) (by rfl) (HR8.out.alloc (Nat.le_refl _) _) HONE2.out (by simp only [maxLen]; omega) (by omega) (by simp) ?_; intro v9 w9 hown9 hg9 hat9; simp only [Nat.zero_add, List.nil_append] at hown9; obtain ⟨A9, c9, hv9⟩ := own_form3 hown9; subst hv9; have hb9 : Below wc.heap.size wc w9 := Below.grown (bel_drewN ((Below.refl wc.heap.size wc).alloc (Nat.le_refl _) (.cells #[] 55)) 1) hg9 (by show _ ≤ (wc.alloc _).heap.size; simp) (fun r e => by have : wc.heap.size = r := Option.some.inj e; omega)))
          all_goals
            go_wp2_with fail
            refine bodyPost_ret (v := .tuple #[.slice A11 1 c11, .int .i64 0]) (by simp [results, Tryz.f45, go_sem, *]) rfl ?_
            rw [HPE.out]
            exact ⟨_, [(⟨⟨n, ky z, []⟩, .slice none 0 0, []⟩ : PX)], rfl, SBs.made HPX.out hb11 hown11 hlo8, rfl, hW8.trans (hb11.mono hlo8)⟩
end Go.Proofs.YtdjoiehknpfigaaGreat
