/- The model's Does and Batched; nothing that lay has turned. -/
import Derived.Test.YtdjoiehknpfigaaGreatSp3
import Derived.Test.YtdjoiehknpfigaaGreatDes0
import Derived.Deep.RegionHeld3
import Derived.Deep.DeepCutAuto
namespace Go.Proofs.YtdjoiehknpfigaaGreat
open Go.RowKit

theorem doesB_bad {ts : List TB} {d : DL} (h : baseB ts = false) : doesB ts d = ([], 4) := by unfold doesB; rw [if_neg (by rw [h]; simp)]
theorem doesB_no {ts : List TB} {d : DL} (h : baseB ts = true) (h2 : deedB d.k d.n d.z = false) : doesB ts d = (ts, 4) := by unfold doesB doB; rw [if_pos h, if_neg (by rw [h2]; simp)]
theorem doesB_yes {ts : List TB} {d : DL} (h : baseB ts = true) (h2 : deedB d.k d.n d.z = true) : doesB ts d = doR ts d := by unfold doesB doB; rw [if_pos h, if_pos h2]
theorem own_len {w : World} {lo : Nat} {v : Value} {xs : List PX} {ts : List TB} (h : SBs w lo v xs) (hd : xs.map PX.t = ts) : ∃ A c, v = .slice A ts.length c := by
  obtain ⟨A, c, hv⟩ := own_form3 h.1
  exact ⟨A, c, by rw [hv, ← hd, List.length_map]⟩
theorem SAns.up {lo lo' : Nat} {P : List TB × Int} {w w0 : World} {e : Ending} {w' : World} (h : SAns lo P w e w') (hl : lo' ≤ lo) (hb : Below lo' w0 w) : SAns lo' P w0 e w' := by
  obtain ⟨v, xs, he, hS, hd, hB⟩ := h
  exact ⟨v, xs, he, ⟨own_low hS.1 hl, fun x hx => ⟨(hS.2 x hx).1.lower hl, (hS.2 x hx).2⟩⟩, hd, hb.trans (hB.mono hl)⟩
set_option maxRecDepth 100000 in
set_option maxHeartbeats 1500000 in
theorem specDoes_any (A : Option Addr) (c : Nat) (ts : List TB) (dk : Int) (n : ByteArray) (Az : Option Addr) (cz : Nat) (z : List Int) (w : World) (hT : Tabs w w.heap.size A ts) (hf : fitT 1048576 ts) (hl : ts.length ≤ 1048576) (hI : Ints w w.heap.size Az z) (hn : n.size ≤ 1048576) (hz : z.length ≤ 1048576) :
    Calls Tryz.prog 7 #[.slice A ts.length c, .agg #[.int .i64 dk, .string n, .slice Az z.length cz]] w (SAns w.heap.size (doesB ts ⟨dk, n, z⟩) w) := by
  obtain ⟨P, hP⟩ : ∃ P, doesB ts ⟨dk, n, z⟩ = P := ⟨_, rfl⟩
  have HPQ := Lib.hid hP
  rw [hP]
  have bc := (Below.refl w.heap.size w).alloc (Nat.le_refl _) (.cells #[.int .i64 dk, .string n, .slice Az z.length cz] 32)
  have BG := Blk.new w 32 #[.int .i64 dk, .string n, .slice Az z.length cz]
  have hT1 := hT.on bc
  have hI1 := hI.on bc
  obtain ⟨g0, g1, g2⟩ := BG.c3
  have HF := Lib.hid hf
  clear hT hI hf hP
  go_enter Tryz.func7, Tryz.ntmps7
  go_wp2_with fail
  generalize w.alloc (.cells #[.int .i64 dk, .string n, .slice Az z.length cz] 32) = wb at *
  refine (specBaseOk_any A c ts wb hT1 HF.out hl).mono ?_
  rintro e w1 ⟨rfl, hb⟩
  have hW1 := bel_step bc hb
  replace BG := BG.on hb
  replace hT1 := hT1.on hb
  replace hI1 := hI1.on hb
  clear hb bc g0 g1 g2
  obtain ⟨g0, g1, g2⟩ := BG.c3
  cases hok : baseB ts with
  | false =>
    have HPE := Lib.hid (show P = ([], 4) by rw [← HPQ.out]; exact doesB_bad hok)
    clear hok
    have hE : SBs (w1.alloc (.cells #[] 55)) w.heap.size (.slice (some ⟨w1.heap.size, 0, none⟩) 0 0) [] := ⟨own_fresh w1 w.heap.size hW1.size, fun x hx => by cases hx⟩
    go_wp2
    refine bodyPost_ret (v := .tuple #[.slice (some ⟨w1.heap.size, 0, none⟩) 0 0, .int .i64 4]) (by simp [results, Tryz.f7, go_sem, *]) rfl ?_
    rw [HPE.out]
    exact ⟨_, [], rfl, hE, rfl, hW1.alloc hW1.size _⟩
  | true =>
    have HOK := Lib.hid hok
    clear hok
    go_wp2_with fail
    refine (specDeedOk_any dk n Az cz z w1 hI1 (by omega) (by omega)).mono ?_
    rintro e w2 ⟨rfl, hb⟩
    have hW2 := bel_step hW1 hb
    replace BG := BG.on hb
    replace hT1 := hT1.on hb
    replace hI1 := hI1.on hb
    clear hb hW1 g0 g1 g2
    obtain ⟨g0, g1, g2⟩ := BG.c3
    cases hdd : deedB dk n z with
    | false =>
      have HPE := Lib.hid (show P = (ts, 4) by rw [← HPQ.out]; exact doesB_no HOK.out hdd)
      clear hdd
      go_wp2_with fail
      refine (l6Copy_any A c ts w2 hT1 HF.out hl).mono ?_
      rintro e w3 ⟨v, xs, rfl, hS, hd, hb⟩
      have hW3 := bel_step hW2 hb
      go_wp2
      refine bodyPost_ret (v := .tuple #[v, .int .i64 4]) (by simp [results, Tryz.f7, go_sem, *]) rfl ?_
      rw [HPE.out]
      exact ⟨v, xs, rfl, ⟨own_low hS.1 hW2.size, fun x hx => ⟨(hS.2 x hx).1.lower hW2.size, (hS.2 x hx).2⟩⟩, hd, hW3⟩
    | true =>
      have HDD := Lib.hid hdd
      have HPE := Lib.hid (show doR ts ⟨dk, n, z⟩ = P by rw [← HPQ.out]; exact (doesB_yes HOK.out hdd).symm)
      clear hdd
      have HLD := Lib.hid (show ∀ (W : World) (Ab : Option Addr) (cb : Nat) (xs : List PX), w2.heap.size ≤ W.heap.size → SBs W w2.heap.size (.slice Ab ts.length cb) xs → xs.map PX.t = ts → Ints W W.heap.size Az z → Calls Tryz.prog 27 #[.slice Ab ts.length cb, .agg #[.int .i64 dk, .string n, .slice Az z.length cz]] W (SAns w2.heap.size P W) from
        fun W Ab cb xs h1 h2 h3 h4 => by rw [← HPE.out]; exact l6Do_any w2.heap.size Ab cb xs ts dk n Az cz z W h1 h2 h3 HOK.out h4 HDD.out)
      have hGl := BG.lt
      have HXX := Lib.hid (And.intro g0 (And.intro g1 g2))
      go_wp2_with fail
      go_region_held3 (fun w' => w'.cell? ⟨w.heap.size, 0, none⟩ = some (.int .i64 dk) ∧ w'.cell? ⟨w.heap.size, 1, none⟩ = some (.string n) ∧ w'.cell? ⟨w.heap.size, 2, none⟩ = some (.slice Az z.length cz))
        (first | go_keep | exact ⟨k0, k1, k2⟩ | exact ⟨j0, j1, j2⟩)
        (first
          | (go_at_call 26; refine (l6Copy_any A c ts _ (by exact hT1) HF.out hl).mono ?_; rintro e w3 ⟨v3, xs3, rfl, hS3, hd3, hb3⟩; obtain ⟨A3, c3, rfl⟩ : ∃ A c, v3 = .slice A ts.length c := own_len hS3 hd3; have hk3 : Below w2.heap.size w2 w3 := (bel_drewN (Below.refl _ _) 1).trans hb3; have k0 := (hk3.cell (p := ⟨w.heap.size, 0, none⟩) hGl).trans HXX.out.1; have k1 := (hk3.cell (p := ⟨w.heap.size, 1, none⟩) hGl).trans HXX.out.2.1; have k2 := (hk3.cell (p := ⟨w.heap.size, 2, none⟩) hGl).trans HXX.out.2.2)
          | (go_at_call 27; refine (HLD.out w3 A3 c3 xs3 hk3.size hS3 hd3 (hI1.on hk3)).mono ?_; rintro e w4 ⟨v4, xs4, rfl, hS4, hd4, hb4⟩; have hk4 : Below w2.heap.size w2 w4 := hk3.trans hb4; have j0 := (hk4.cell (p := ⟨w.heap.size, 0, none⟩) hGl).trans HXX.out.1; have j1 := (hk4.cell (p := ⟨w.heap.size, 1, none⟩) hGl).trans HXX.out.2.1; have j2 := (hk4.cell (p := ⟨w.heap.size, 2, none⟩) hGl).trans HXX.out.2.2))
      go_wp2
      refine bodyPost_ret (v := .tuple #[v4, .int .i64 P.2]) (by simp [results, Tryz.f7, go_sem, *]) rfl ?_
      exact ⟨v4, xs4, rfl, ⟨own_low hS4.1 hW2.size, fun x hx => ⟨(hS4.2 x hx).1.lower hW2.size, (hS4.2 x hx).2⟩⟩, hd4, hW2.trans (hk4.mono hW2.size)⟩
end Go.Proofs.YtdjoiehknpfigaaGreat
