/- The walk of laws.FnTables: it returns true, whatever the code; nothing that lay has turned. -/
import Derived.Test.YtedbjjhkjkpnkaaDrawTab4
import Derived.Test.YtedbjjhkjkpnkaaDrawBag3
import Derived.Test.YtedbjjhkjkpnkaaTabI6
import Derived.Test.YtedbjjhkjkpnkaaTabFit
import Derived.Test.YtedbjjhkjkpnkaaTabLaw
import Derived.Test.YtedbjjhkjkpnkaaTabFin
import Derived.Test.YtedbjjhkjkpnkaaSgn6
import Derived.Deep.DeepCutAuto
namespace Go.Proofs.Ytedbjjhkjkpnkaa
open Go.RowKit

theorem DrT.n {w : World} {s : ByteArray} {A : Option Addr} {rows : List (List Int)} {cap : Nat} (h : DrT w s A rows cap) : rows.length ≤ 31 ∧ s.size ≤ 7 ∧ rows.length ≤ cap := ⟨h.2.1, h.2.2.2⟩
theorem DrTK.t {w : World} {e : Ending} {w' : World} (h : DrTK w e w') : ∃ (s : ByteArray) (wd : Int) (A : Option Addr) (rows : List (List Int)) (cap : Nat) (q : Int), e = .returned (.tuple #[.agg #[.string s, .int .i64 wd, .slice A rows.length cap], .int .i64 q]) ∧ DrT w' s A rows cap ∧ -1000 ≤ q ∧ q ≤ 1000 ∧ Below w.heap.size w w' := by
  obtain ⟨s, wd, A, cap, es, q, rfl, hO, h1, h2, h3, h4, h5, h6⟩ := h
  exact ⟨s, wd, A, es.map Ent.r, cap, q, by rw [List.length_map], DrT.of hO h1 h2 h3, h4, h5, h6⟩
/-- A bag that was answered, with room. -/
def BagAns (bag : List (List Int × Int)) (w : World) (e : Ending) (w' : World) : Prop :=
  ∃ A c, e = .returned (.slice A bag.length c) ∧ Bag w' w'.heap.size A bag ∧ bag.length ≤ c ∧ Below w.heap.size w w'
theorem OBag.capw {w : World} {lo n cap : Nat} {A : Option Addr} {es : List Ent} (h : OBag w lo (.slice A n cap) es) : es.length ≤ cap := by
  rcases h.1.2 with ⟨hv, h0⟩ | ⟨g, cap', cur, hv, _, _, h4, _⟩
  · omega
  · injection hv with _ _ h3
    omega
theorem OwnB.ans {bag : List (List Int × Int)} {w : World} {e : Ending} {w' : World} (h : OwnB bag w e w') (hl : ∀ j, j < bag.length → (rx bag j).length ≤ 1099511627776) : BagAns bag w e w' := by
  obtain ⟨v, es, rfl, hO, he, hb⟩ := h
  obtain ⟨A, c, rfl⟩ := hO.formW he
  exact ⟨A, c, rfl, OBag.bagW hO he hl, by rw [← he, List.length_map]; exact hO.capw, hb⟩
theorem OwnBag.ans {bag : List (List Int × Int)} {w : World} {e : Ending} {w' : World} (h : OwnBag w.heap.size bag w e w') (hl : ∀ j, j < bag.length → (rx bag j).length ≤ 1099511627776) : BagAns bag w e w' := by
  obtain ⟨g, c, es, rfl, hO, he, hb⟩ := h
  exact OwnB.ans ⟨_, es, rfl, hO, he, hb⟩ hl
theorem bagInB_short {s : ByteArray} {wd : Int} {rows : List (List Int)} {f t : Int} (h : ∀ j, j < rows.length → (rr rows j).length ≤ 1000) : ∀ j, j < (bagInB s wd rows f t).length → (rx (bagInB s wd rows f t) j).length ≤ 1099511627776 := fun j hj => by
  have := (bagInB_fit (s := s) (wd := wd) (f := f) (t := t) h).2 j hj
  omega
set_option maxRecDepth 100000 in
set_option maxHeartbeats 32000000 in
theorem walkFnTables (a0 : Option Addr) (len0 cap0 : Nat) (z0 : List Int) (w : World) (w0 : IsRow .u8 w a0 len0 cap0 z0) :
    Calls Try.prog 5 #[.slice a0 len0 cap0] w fun e w' => e = .returned (.bool true) ∧ Below w.heap.size w w' := by
  obtain ⟨zs, rfl, hU, hm⟩ := isRow_u8 w0
  clear w0
  by_cases hbig : (4096 : Int) < (zs.length : Int)
  · have hd := decide_eq_true hbig
    have HD := Lib.hid hd
    clear hd hbig
    go_enter Try.func5, Try.ntmps5
    go_wp2_with fail
    refine (big_any a0 zs.length cap0 w).mono ?_
    rintro e w1 ⟨rfl, rfl⟩
    rw [HD.out]
    go_wp2
    go_ret
    exact ⟨rfl, Below.refl _ _⟩
  have hd := decide_eq_false hbig
  have HD := Lib.hid hd
  have hzl : zs.length ≤ 1048576 := by omega
  clear hd hbig hm
  go_enter Try.func5, Try.ntmps5
  go_wp2_with fail
  refine (big_any a0 zs.length cap0 w).mono ?_
  rintro e w1 ⟨rfl, rfl⟩
  rw [HD.out]
  clear HD
  have HU := Lib.hid (show ∀ W, Below w.heap.size w W → U8s W W.heap.size a0 zs from fun W h => hU.on h)
  have hW := Below.refl w.heap.size w
  clear hU
  go_wp2_with fail
  refine (drawPlaced_any a0 cap0 zs w (HU.out w hW) hzl).mono ?_
  rintro e v1 ⟨s1, w1, A1, R1, c1, Ar, row, cr, rfl, D1, I1, hrl, hb⟩
  replace hW := bel_step hW hb
  clear hb
  obtain ⟨hd1, hs1, hc1⟩ := D1.n
  have HD1 := Lib.hid D1.2.2.1
  obtain ⟨Sx, hS⟩ : ∃ x, tkS s1 (tabB s1 w1 R1) = x := ⟨_, rfl⟩
  obtain ⟨Wx, hWw⟩ : ∃ x, tkW w1 (tabB s1 w1 R1) = x := ⟨_, rfl⟩
  obtain ⟨Lx, hR⟩ : ∃ x, tkR (plR R1 row (plB s1 w1 R1 row)) (tabB s1 w1 R1) = x := ⟨_, rfl⟩
  obtain ⟨flx, hbb⟩ : ∃ x, plB s1 w1 R1 row = x := ⟨_, rfl⟩
  obtain ⟨hlx, hrx⟩ := tkPlaced_fit (b := tabB s1 w1 R1) (b2 := plB s1 w1 R1 row) (m := 1001) (fun j hj => by have := HD1.out j hj; omega) hrl
  rw [hR] at hlx hrx
  have HBx := Lib.hid (show ∀ j, j < Lx.length → (rr Lx j).length ≤ 1099511627776 from fun j hj => by have := hrx j hj; omega)
  have hszx : Sx.size ≤ 7 := by rw [← hS]; exact tkS_le (by omega)
  have HSx := Lib.hid (And.intro hS (And.intro hWw (And.intro hR hbb)))
  clear hS hWw hR hbb hrx
  have hbbx : (flx != flx) = false := by simp
  have hb := (Below.refl v1.heap.size v1).alloc (Nat.le_refl _) (.cells #[.string s1, .int .i64 w1, .slice A1 R1.length c1] 28)
  replace hW := bel_step hW hb
  replace D1 := D1.on hb
  replace I1 := I1.on hb
  clear hb
  have Bt := Blk.new v1 28 #[.string s1, .int .i64 w1, .slice A1 R1.length c1]
  obtain ⟨Bt0, Bt1, Bt2⟩ := Bt.c3
  go_wp2_with fail
  generalize v1.alloc (.cells #[.string s1, .int .i64 w1, .slice A1 R1.length c1] 28) = v2 at *
  refine (implPlaced_any s1 w1 A1 Ar c1 cr R1 row v2 D1.1 I1 (by omega) (by omega) (by omega)).mono ?_
  rintro e v3 ⟨vv, rfl, hT, hb⟩
  clear Bt0 Bt1 Bt2
  rw [HSx.out.1, HSx.out.2.1, HSx.out.2.2.1] at hT
  obtain ⟨uu, ee, rfl, hOO, hqq⟩ := hT
  rw [HSx.out.2.2.2]
  obtain ⟨Ax, cx, rfl⟩ := hOO.formW hqq
  have Fx := hOO.rwsW hqq HBx.out
  clear hOO hqq
  replace hW := bel_step hW hb
  replace D1 := D1.on hb
  replace I1 := I1.on hb
  replace Bt := Bt.on hb
  clear hb
  have hb := (Below.refl v3.heap.size v3).alloc (Nat.le_refl _) (.cells #[.string Sx, .int .i64 Wx, .slice Ax Lx.length cx] 28)
  replace hW := bel_step hW hb
  replace D1 := D1.on hb
  replace I1 := I1.on hb
  replace Bt := Bt.on hb
  replace Fx := Fx.on hb
  clear hb
  have Bx := Blk.new v3 28 #[.string Sx, .int .i64 Wx, .slice Ax Lx.length cx]
  go_wp2_with fail
  generalize v3.alloc (.cells #[.string Sx, .int .i64 Wx, .slice Ax Lx.length cx] 28) = v4 at *
  refine (((drawTaken_any a0 cap0 zs v4 (HU.out v4 hW) hzl).mono fun _ _ h => h.t)).mono ?_
  rintro e v5 ⟨s2, w2, A2, R2, c2, k2, rfl, D2, hk2, hk2', hb⟩
  replace hW := bel_step hW hb
  replace D1 := D1.on hb
  replace I1 := I1.on hb
  replace Bt := Bt.on hb
  replace Fx := Fx.on hb
  replace Bx := Bx.on hb
  clear hb
  obtain ⟨hd2, hs2, hc2⟩ := D2.n
  have HD2 := Lib.hid D2.2.2.1
  obtain ⟨Sy, hS⟩ : ∃ x, tkS s2 (tabB s2 w2 R2) = x := ⟨_, rfl⟩
  obtain ⟨Wy, hWw⟩ : ∃ x, tkW w2 (tabB s2 w2 R2) = x := ⟨_, rfl⟩
  obtain ⟨Ly, hR⟩ : ∃ x, tkR (takenL R2 k2) (tabB s2 w2 R2) = x := ⟨_, rfl⟩
  obtain ⟨fly, hbb⟩ : ∃ x, thereB s2 w2 R2 k2 = x := ⟨_, rfl⟩
  obtain ⟨hly, hry⟩ := tkTaken_fit (q := k2) (b := tabB s2 w2 R2) (m := 1001) (fun j hj => by have := HD2.out j hj; omega)
  rw [hR] at hly hry
  have HBy := Lib.hid (show ∀ j, j < Ly.length → (rr Ly j).length ≤ 1099511627776 from fun j hj => by have := hry j hj; omega)
  have hszy : Sy.size ≤ 7 := by rw [← hS]; exact tkS_le (by omega)
  have HSy := Lib.hid (And.intro hS (And.intro hWw (And.intro hR hbb)))
  clear hS hWw hR hbb hry
  have hbby : (fly != fly) = false := by simp
  have hb := (Below.refl v5.heap.size v5).alloc (Nat.le_refl _) (.cells #[.string s2, .int .i64 w2, .slice A2 R2.length c2] 28)
  replace hW := bel_step hW hb
  replace D1 := D1.on hb
  replace I1 := I1.on hb
  replace Bt := Bt.on hb
  replace Fx := Fx.on hb
  replace Bx := Bx.on hb
  replace D2 := D2.on hb
  clear hb
  have Bq := Blk.new v5 28 #[.string s2, .int .i64 w2, .slice A2 R2.length c2]
  obtain ⟨Bq0, Bq1, Bq2⟩ := Bq.c3
  go_wp2_with fail
  generalize v5.alloc (.cells #[.string s2, .int .i64 w2, .slice A2 R2.length c2] 28) = v6 at *
  refine (implTaken_any s2 w2 A2 c2 R2 k2 v6 D2.1 (by omega) (by omega)).mono ?_
  rintro e v7 ⟨vv, rfl, hT, hb⟩
  clear Bq0 Bq1 Bq2
  rw [HSy.out.1, HSy.out.2.1, HSy.out.2.2.1] at hT
  obtain ⟨uu, ee, rfl, hOO, hqq⟩ := hT
  rw [HSy.out.2.2.2]
  obtain ⟨Ay, cy, rfl⟩ := hOO.formW hqq
  have Fy := hOO.rwsW hqq HBy.out
  clear hOO hqq
  replace hW := bel_step hW hb
  replace D1 := D1.on hb
  replace I1 := I1.on hb
  replace Bt := Bt.on hb
  replace Fx := Fx.on hb
  replace Bx := Bx.on hb
  replace D2 := D2.on hb
  replace Bq := Bq.on hb
  clear hb
  have hb := (Below.refl v7.heap.size v7).alloc (Nat.le_refl _) (.cells #[.string Sy, .int .i64 Wy, .slice Ay Ly.length cy] 28)
  replace hW := bel_step hW hb
  replace D1 := D1.on hb
  replace I1 := I1.on hb
  replace Bt := Bt.on hb
  replace Fx := Fx.on hb
  replace Bx := Bx.on hb
  replace D2 := D2.on hb
  replace Bq := Bq.on hb
  replace Fy := Fy.on hb
  clear hb
  have By := Blk.new v7 28 #[.string Sy, .int .i64 Wy, .slice Ay Ly.length cy]
  go_wp2_with fail
  generalize v7.alloc (.cells #[.string Sy, .int .i64 Wy, .slice Ay Ly.length cy] 28) = v8 at *
  refine (((drawRowAt_any a0 cap0 zs v8 (HU.out v8 hW) hzl).mono fun _ _ h => h.t)).mono ?_
  rintro e v9 ⟨s3, w3, A3, R3, c3, k3, rfl, D3, hk3, hk3', hb⟩
  replace hW := bel_step hW hb
  replace D1 := D1.on hb
  replace I1 := I1.on hb
  replace Bt := Bt.on hb
  replace Fx := Fx.on hb
  replace Bx := Bx.on hb
  replace D2 := D2.on hb
  replace Bq := Bq.on hb
  replace Fy := Fy.on hb
  replace By := By.on hb
  clear hb
  obtain ⟨hd3, hs3, hc3⟩ := D3.n
  have HD3 := Lib.hid D3.2.2.1
  have hb := (Below.refl v9.heap.size v9).alloc (Nat.le_refl _) (.cells #[.string s3, .int .i64 w3, .slice A3 R3.length c3] 28)
  replace hW := bel_step hW hb
  replace D1 := D1.on hb
  replace I1 := I1.on hb
  replace Bt := Bt.on hb
  replace Fx := Fx.on hb
  replace Bx := Bx.on hb
  replace D2 := D2.on hb
  replace Bq := Bq.on hb
  replace Fy := Fy.on hb
  replace By := By.on hb
  replace D3 := D3.on hb
  clear hb
  have Br := Blk.new v9 28 #[.string s3, .int .i64 w3, .slice A3 R3.length c3]
  obtain ⟨Z, hZ⟩ : ∃ x, atL s3 w3 R3 k3 = x := ⟨_, rfl⟩
  obtain ⟨bz, hbz⟩ : ∃ x, thereB s3 w3 R3 k3 = x := ⟨_, rfl⟩
  have hZl : Z.length ≤ 1000 := by rw [← hZ]; exact at_fit HD3.out
  have HZK := Lib.hid (show bz = true → 0 < Z.length ∧ ky Z = k3 from fun h => by rw [← hZ]; exact at_key (by rw [hbz]; exact h))
  have HSz := Lib.hid (And.intro hZ hbz)
  clear hZ hbz
  have hbbz : (bz != bz) = false := by simp
  obtain ⟨Br0, Br1, Br2⟩ := Br.c3
  go_wp2_with fail
  generalize v9.alloc (.cells #[.string s3, .int .i64 w3, .slice A3 R3.length c3] 28) = v10 at *
  refine (implRowAt_any s3 w3 A3 c3 R3 k3 v10 D3.1 (by omega) (by omega)).mono ?_
  rintro e v11 ⟨vv, rfl, hT, hb⟩
  clear Br0 Br1 Br2
  rw [HSz.out.1] at hT
  rw [HSz.out.2]
  obtain ⟨Az, cz, gz, rfl, _, Fz⟩ := rowAt_of_own hT
  clear hT
  replace hW := bel_step hW hb
  replace D1 := D1.on hb
  replace I1 := I1.on hb
  replace Bt := Bt.on hb
  replace Fx := Fx.on hb
  replace Bx := Bx.on hb
  replace D2 := D2.on hb
  replace Bq := Bq.on hb
  replace Fy := Fy.on hb
  replace By := By.on hb
  replace D3 := D3.on hb
  replace Br := Br.on hb
  clear hb
  go_wp2_with fail
  refine (drawBagIn_any a0 cap0 zs v11 (HU.out v11 hW) hzl).mono ?_
  rintro e v12 ⟨s4, w4, A4, R4, c4, f, t, rfl, D4, hf0, hf1, ht0, ht1, hb⟩
  replace hW := bel_step hW hb
  replace D1 := D1.on hb
  replace I1 := I1.on hb
  replace Bt := Bt.on hb
  replace Fx := Fx.on hb
  replace Bx := Bx.on hb
  replace D2 := D2.on hb
  replace Bq := Bq.on hb
  replace Fy := Fy.on hb
  replace By := By.on hb
  replace D3 := D3.on hb
  replace Br := Br.on hb
  replace Fz := Fz.on hb
  clear hb
  obtain ⟨hd4, hs4, hc4⟩ := D4.n
  have HD4 := Lib.hid D4.2.2.1
  have hb := (Below.refl v12.heap.size v12).alloc (Nat.le_refl _) (.cells #[.string s4, .int .i64 w4, .slice A4 R4.length c4] 28)
  replace hW := bel_step hW hb
  replace D1 := D1.on hb
  replace I1 := I1.on hb
  replace Bt := Bt.on hb
  replace Fx := Fx.on hb
  replace Bx := Bx.on hb
  replace D2 := D2.on hb
  replace Bq := Bq.on hb
  replace Fy := Fy.on hb
  replace By := By.on hb
  replace D3 := D3.on hb
  replace Br := Br.on hb
  replace Fz := Fz.on hb
  replace D4 := D4.on hb
  clear hb
  have Bp := Blk.new v12 28 #[.string s4, .int .i64 w4, .slice A4 R4.length c4]
  have HQS := Lib.hid (show ∀ f t j, j < (bagInB s4 w4 R4 f t).length → (rx (bagInB s4 w4 R4 f t) j).length ≤ 1099511627776 from fun f t => bagInB_short HD4.out)
  have HQL := Lib.hid (show ∀ f t, (bagInB s4 w4 R4 f t).length ≤ 31 from fun f t => by have := (bagInB_fit (s := s4) (wd := w4) (f := f) (t := t) HD4.out).1; omega)
  have HLAW := Lib.hid (show tabB s4 w4 R4 = true → f ≤ t → plusB (bagInB s4 w4 R4 (-1001) f) (bagInB s4 w4 R4 f t) = bagInB s4 w4 R4 (-1001) t from fun h1 h2 => bagIn_law h1 (by omega) h2)
  obtain ⟨Bp0, Bp1, Bp2⟩ := Bp.c3
  go_wp2_with fail
  generalize v12.alloc (.cells #[.string s4, .int .i64 w4, .slice A4 R4.length c4] 28) = v13 at *
  refine (((implBagIn_any s4 w4 A4 c4 R4 f t v13 D4.1 (by omega) (by omega) hc4).mono fun _ _ h => OwnBag.ans h (HQS.out f t))).mono ?_
  rintro e v14 ⟨Ab, cb, rfl, Fb, hcb, hb⟩
  clear Bp0 Bp1 Bp2
  replace hW := bel_step hW hb
  replace D1 := D1.on hb
  replace I1 := I1.on hb
  replace Bt := Bt.on hb
  replace Fx := Fx.on hb
  replace Bx := Bx.on hb
  replace D2 := D2.on hb
  replace Bq := Bq.on hb
  replace Fy := Fy.on hb
  replace By := By.on hb
  replace D3 := D3.on hb
  replace Br := Br.on hb
  replace Fz := Fz.on hb
  replace D4 := D4.on hb
  replace Bp := Bp.on hb
  clear hb
  have hQ := HQL.out f t
  obtain ⟨Bt0, Bt1, Bt2⟩ := Bt.c3
  go_wp2_with fail
  refine (specPlaced_any s1 w1 A1 Ar c1 cr R1 row v14 D1.1 I1 (by omega) (by omega) (by omega)).mono ?_
  rintro e v15 ⟨vv, rfl, hT, hb⟩
  clear Bt0 Bt1 Bt2
  rw [HSx.out.1, HSx.out.2.1, HSx.out.2.2.1] at hT
  obtain ⟨uu, ee, rfl, hOO, hqq⟩ := hT
  rw [HSx.out.2.2.2]
  obtain ⟨Au, cu, rfl⟩ := hOO.formW hqq
  have Fu := hOO.rwsW hqq HBx.out
  clear hOO hqq
  replace hW := bel_step hW hb
  replace D1 := D1.on hb
  replace I1 := I1.on hb
  replace Bt := Bt.on hb
  replace Fx := Fx.on hb
  replace Bx := Bx.on hb
  replace D2 := D2.on hb
  replace Bq := Bq.on hb
  replace Fy := Fy.on hb
  replace By := By.on hb
  replace D3 := D3.on hb
  replace Br := Br.on hb
  replace Fz := Fz.on hb
  replace D4 := D4.on hb
  replace Bp := Bp.on hb
  replace Fb := Fb.on hb
  clear hb
  have hb := (Below.refl v15.heap.size v15).alloc (Nat.le_refl _) (.cells #[.string Sx, .int .i64 Wx, .slice Au Lx.length cu] 28)
  replace hW := bel_step hW hb
  replace D1 := D1.on hb
  replace I1 := I1.on hb
  replace Bt := Bt.on hb
  replace Fx := Fx.on hb
  replace Bx := Bx.on hb
  replace D2 := D2.on hb
  replace Bq := Bq.on hb
  replace Fy := Fy.on hb
  replace By := By.on hb
  replace D3 := D3.on hb
  replace Br := Br.on hb
  replace Fz := Fz.on hb
  replace D4 := D4.on hb
  replace Bp := Bp.on hb
  replace Fb := Fb.on hb
  replace Fu := Fu.on hb
  clear hb
  have Bu := Blk.new v15 28 #[.string Sx, .int .i64 Wx, .slice Au Lx.length cu]
  obtain ⟨tb, htb⟩ : ∃ x, tabB s1 w1 R1 = x := ⟨_, rfl⟩
  have HTB := Lib.hid htb
  clear htb
  have hbtb : (tb != tb) = false := by simp
  obtain ⟨Bx0, Bx1, Bx2⟩ := Bx.c3
  obtain ⟨Bu0, Bu1, Bu2⟩ := Bu.c3
  obtain ⟨Bt0, Bt1, Bt2⟩ := Bt.c3
  obtain ⟨Bp0, Bp1, Bp2⟩ := Bp.c3
  go_wp2_with fail
  generalize v15.alloc (.cells #[.string Sx, .int .i64 Wx, .slice Au Lx.length cu] 28) = v16 at *
  have HXX := Lib.hid (And.intro Bx (And.intro Bu (And.intro Bt Bp)))
  go_region_held3 (fun w' => (w'.cell? ⟨v3.heap.size, 0, none⟩ = some (.string Sx) ∧ w'.cell? ⟨v3.heap.size, 1, none⟩ = some (.int .i64 Wx) ∧ w'.cell? ⟨v3.heap.size, 2, none⟩ = some (.slice Ax Lx.length cx)) ∧ (w'.cell? ⟨v15.heap.size, 0, none⟩ = some (.string Sx) ∧ w'.cell? ⟨v15.heap.size, 1, none⟩ = some (.int .i64 Wx) ∧ w'.cell? ⟨v15.heap.size, 2, none⟩ = some (.slice Au Lx.length cu)) ∧ (w'.cell? ⟨v1.heap.size, 0, none⟩ = some (.string s1) ∧ w'.cell? ⟨v1.heap.size, 1, none⟩ = some (.int .i64 w1) ∧ w'.cell? ⟨v1.heap.size, 2, none⟩ = some (.slice A1 R1.length c1)) ∧ (w'.cell? ⟨v12.heap.size, 0, none⟩ = some (.string s4) ∧ w'.cell? ⟨v12.heap.size, 1, none⟩ = some (.int .i64 w4) ∧ w'.cell? ⟨v12.heap.size, 2, none⟩ = some (.slice A4 R4.length c4)))
    (first | go_keep | exact ⟨(HXX.out.1.on hh1).c3, (HXX.out.2.1.on hh1).c3, (HXX.out.2.2.1.on hh1).c3, (HXX.out.2.2.2.on hh1).c3⟩ | exact ⟨(HXX.out.1.on hh2).c3, (HXX.out.2.1.on hh2).c3, (HXX.out.2.2.1.on hh2).c3, (HXX.out.2.2.2.on hh2).c3⟩ | exact ⟨(HXX.out.1.on hh3).c3, (HXX.out.2.1.on hh3).c3, (HXX.out.2.2.1.on hh3).c3, (HXX.out.2.2.2.on hh3).c3⟩ | exact ⟨(HXX.out.1.on hh4).c3, (HXX.out.2.1.on hh4).c3, (HXX.out.2.2.1.on hh4).c3, (HXX.out.2.2.2.on hh4).c3⟩ | exact ⟨(HXX.out.1.on hh5).c3, (HXX.out.2.1.on hh5).c3, (HXX.out.2.2.1.on hh5).c3, (HXX.out.2.2.2.on hh5).c3⟩)
    (first | (go_at_call 30; refine (likeTable_same Sx Wx Ax Au cx cu Lx _ (by exact Fx) (by exact Fu) (by omega)).mono ?_; rintro e x1 ⟨rfl, hq1⟩; have hh1 : Below v16.heap.size v16 x1 := (bel_drewN (Below.refl _ _) 1).trans hq1) | (go_at_call 31; refine (implTableOk_any s1 w1 A1 c1 R1 x1 (D1.on hh1).1 (by omega) (by omega)).mono ?_; rintro e x2 ⟨rfl, hq2⟩; rw [HTB.out]; have hh2 : Below v16.heap.size v16 x2 := bel_step hh1 hq2) | (go_at_call 32; refine (specTableOk_any s1 w1 A1 c1 R1 x2 (D1.on hh2).1 (by omega) (by omega)).mono ?_; rintro e x3 ⟨rfl, hq3⟩; rw [HTB.out]; have hh3 : Below v16.heap.size v16 x3 := bel_step hh2 hq3) | (go_at_call 7; refine ((specBagIn_any s4 w4 A4 c4 R4 f t x3 (D4.on hh3).1 (by omega) (by omega)).mono fun _ _ h => OwnBag.ans h (HQS.out f t)).mono ?_; rintro e x4 ⟨Abs, cbs, rfl, Fbs, _, hq4⟩; have hh4 : Below v16.heap.size v16 x4 := bel_step hh3 hq4) | (go_at_call 33; refine (likeBag_any Ab Abs cb cbs (bagInB s4 w4 R4 f t) (bagInB s4 w4 R4 f t) x4 (Fb.on hh4) Fbs (by omega) (by omega)).mono ?_; rintro e x5 ⟨rfl, nn, hx5⟩; rw [decide_eq_true (rfl : bagInB s4 w4 R4 f t = bagInB s4 w4 R4 f t)]; have hh5 : Below v16.heap.size v16 x5 := (by rw [hx5]; exact bel_drewN hh4 nn); clear hx5))
  clear Bx0 Bx1 Bx2 Bu0 Bu1 Bu2 Bt0 Bt1 Bt2 Bp0 Bp1 Bp2 HXX hq1 hq2 hq3 hq4 hh1 hh2 hh3 hh4 Fbs
  replace hW := bel_step hW hh5
  replace D1 := D1.on hh5
  replace I1 := I1.on hh5
  replace Bt := Bt.on hh5
  replace Fx := Fx.on hh5
  replace Bx := Bx.on hh5
  replace D2 := D2.on hh5
  replace Bq := Bq.on hh5
  replace Fy := Fy.on hh5
  replace By := By.on hh5
  replace D3 := D3.on hh5
  replace Br := Br.on hh5
  replace Fz := Fz.on hh5
  replace D4 := D4.on hh5
  replace Bp := Bp.on hh5
  replace Fb := Fb.on hh5
  replace Fu := Fu.on hh5
  replace Bu := Bu.on hh5
  clear hh5
  obtain ⟨Bq0, Bq1, Bq2⟩ := Bq.c3
  go_wp2_with fail
  refine (specTaken_any s2 w2 A2 c2 R2 k2 x5 D2.1 (by omega) (by omega)).mono ?_
  rintro e v17 ⟨vv, rfl, hT, hb⟩
  clear Bq0 Bq1 Bq2
  rw [HSy.out.1, HSy.out.2.1, HSy.out.2.2.1] at hT
  obtain ⟨uu, ee, rfl, hOO, hqq⟩ := hT
  rw [HSy.out.2.2.2]
  obtain ⟨Av, cv, rfl⟩ := hOO.formW hqq
  have Fv := hOO.rwsW hqq HBy.out
  clear hOO hqq
  replace hW := bel_step hW hb
  replace D1 := D1.on hb
  replace I1 := I1.on hb
  replace Bt := Bt.on hb
  replace Fx := Fx.on hb
  replace Bx := Bx.on hb
  replace D2 := D2.on hb
  replace Bq := Bq.on hb
  replace Fy := Fy.on hb
  replace By := By.on hb
  replace D3 := D3.on hb
  replace Br := Br.on hb
  replace Fz := Fz.on hb
  replace D4 := D4.on hb
  replace Bp := Bp.on hb
  replace Fb := Fb.on hb
  replace Fu := Fu.on hb
  replace Bu := Bu.on hb
  clear hb
  have hb := (Below.refl v17.heap.size v17).alloc (Nat.le_refl _) (.cells #[.string Sy, .int .i64 Wy, .slice Av Ly.length cv] 28)
  replace hW := bel_step hW hb
  replace D1 := D1.on hb
  replace I1 := I1.on hb
  replace Bt := Bt.on hb
  replace Fx := Fx.on hb
  replace Bx := Bx.on hb
  replace D2 := D2.on hb
  replace Bq := Bq.on hb
  replace Fy := Fy.on hb
  replace By := By.on hb
  replace D3 := D3.on hb
  replace Br := Br.on hb
  replace Fz := Fz.on hb
  replace D4 := D4.on hb
  replace Bp := Bp.on hb
  replace Fb := Fb.on hb
  replace Fu := Fu.on hb
  replace Bu := Bu.on hb
  replace Fv := Fv.on hb
  clear hb
  have Bv := Blk.new v17 28 #[.string Sy, .int .i64 Wy, .slice Av Ly.length cv]
  obtain ⟨By0, By1, By2⟩ := By.c3
  obtain ⟨Bv0, Bv1, Bv2⟩ := Bv.c3
  go_wp2_with fail
  generalize v17.alloc (.cells #[.string Sy, .int .i64 Wy, .slice Av Ly.length cv] 28) = v18 at *
  refine (likeTable_same Sy Wy Ay Av cy cv Ly v18 Fy Fv (by omega)).mono ?_
  rintro e v19 ⟨rfl, hb⟩
  clear By0 By1 By2 Bv0 Bv1 Bv2
  replace hW := bel_step hW hb
  replace D1 := D1.on hb
  replace I1 := I1.on hb
  replace Bt := Bt.on hb
  replace Fx := Fx.on hb
  replace Bx := Bx.on hb
  replace D2 := D2.on hb
  replace Bq := Bq.on hb
  replace Fy := Fy.on hb
  replace By := By.on hb
  replace D3 := D3.on hb
  replace Br := Br.on hb
  replace Fz := Fz.on hb
  replace D4 := D4.on hb
  replace Bp := Bp.on hb
  replace Fb := Fb.on hb
  replace Fu := Fu.on hb
  replace Bu := Bu.on hb
  replace Fv := Fv.on hb
  replace Bv := Bv.on hb
  clear hb
  obtain ⟨Br0, Br1, Br2⟩ := Br.c3
  go_wp2_with fail
  refine (specRowAt_any s3 w3 A3 c3 R3 k3 v19 D3.1 (by omega) (by omega)).mono ?_
  rintro e v20 ⟨vv, rfl, hT, hb⟩
  clear Br0 Br1 Br2
  rw [HSz.out.1] at hT
  rw [HSz.out.2]
  obtain ⟨An, cn, gn, rfl, _, Fn⟩ := rowAt_of_own hT
  clear hT
  replace hW := bel_step hW hb
  replace D1 := D1.on hb
  replace I1 := I1.on hb
  replace Bt := Bt.on hb
  replace Fx := Fx.on hb
  replace Bx := Bx.on hb
  replace D2 := D2.on hb
  replace Bq := Bq.on hb
  replace Fy := Fy.on hb
  replace By := By.on hb
  replace D3 := D3.on hb
  replace Br := Br.on hb
  replace Fz := Fz.on hb
  replace D4 := D4.on hb
  replace Bp := Bp.on hb
  replace Fb := Fb.on hb
  replace Fu := Fu.on hb
  replace Bu := Bu.on hb
  replace Fv := Fv.on hb
  replace Bv := Bv.on hb
  clear hb
  have hprep : bz = false ∨ (bz = true ∧ Az = some ⟨gz, 0, none⟩ ∧ v20.cell? ⟨gz, 0, none⟩ = some (.int .i64 k3) ∧ 0 < Z.length) := by
    cases hb3 : bz with
    | false => exact .inl rfl
    | true =>
      obtain ⟨z0, zk⟩ := HZK.out hb3
      obtain ⟨e1, e2, _⟩ := Fz.at_ z0
      exact .inr ⟨rfl, e1, by rw [e2, ← zk]; rfl, z0⟩
  have hk33 : (k3 != k3) = false := by simp
  clear HZK
  have HPR := Lib.hid hprep
  clear hprep
  go_upto_region 18 with fail
  go_cut [148] (fun s wx => s = .bool false ∧ Below v20.heap.size v20 wx)
  case first =>
    as_aux_lemma =>
      rcases HPR.out with rfl | ⟨rfl, rfl, kz, kz0⟩
      all_goals
        go_wp2_with fail
        refine (likeRow_any _ An cz cn Z Z v20 _ _ Fz.ints Fn.ints (by omega) (by omega)).mono ?_
        rintro e W1 ⟨rfl, nn, hE⟩
        rw [decide_eq_true (rfl : Z = Z)]
        have hb : Below v20.heap.size v20 W1 := by rw [hE]; exact bel_drewN (Below.refl _ _) nn
        clear hE
        try have kz1 := (hb.cell (cell_lt kz)).trans kz
        go_wp2_with fail
        go_meet
        exact ⟨rfl, hb⟩
  case rest =>
  obtain ⟨rfl, hb⟩ := hcut
  replace hW := bel_step hW hb
  replace D1 := D1.on hb
  replace I1 := I1.on hb
  replace Bt := Bt.on hb
  replace Fx := Fx.on hb
  replace Bx := Bx.on hb
  replace D2 := D2.on hb
  replace Bq := Bq.on hb
  replace Fy := Fy.on hb
  replace By := By.on hb
  replace D3 := D3.on hb
  replace Br := Br.on hb
  replace Fz := Fz.on hb
  replace D4 := D4.on hb
  replace Bp := Bp.on hb
  replace Fb := Fb.on hb
  replace Fu := Fu.on hb
  replace Bu := Bu.on hb
  replace Fv := Fv.on hb
  replace Bv := Bv.on hb
  replace Fn := Fn.on hb
  clear hb
  clear Fn Fv Bv Fu Bu D3 Br HD3 HPR Fz
  obtain ⟨cnd, hcnd⟩ : ∃ cnd, (tabB s4 w4 R4 && decide (f ≤ t)) = cnd := ⟨_, rfl⟩
  have HCB := Lib.hid hcnd
  clear hcnd
  go_upto_region 20 with fail
  go_cut [155] (fun s wx => s = .bool cnd ∧ Below wc.heap.size wc wx)
  case first =>
    as_aux_lemma =>
      obtain ⟨Bp0, Bp1, Bp2⟩ := Bp.c3
      go_wp2_with fail
      refine (specTableOk_any s4 w4 A4 c4 R4 wc D4.1 (by omega) (by omega)).mono ?_
      rintro e v21 ⟨rfl, hb⟩
      clear Bp0 Bp1 Bp2
      cases htb : tabB s4 w4 R4 with
      | false =>
        have HF := Lib.hid (show false = cnd by rw [← HCB.out, htb]; rfl)
        clear htb
        go_wp2_with fail
        go_meet
        exact ⟨by rw [← HF.out], hb⟩
      | true =>
        have HF := Lib.hid (show decide (f ≤ t) = cnd by rw [← HCB.out, htb]; rfl)
        clear htb
        go_wp2_with fail
        go_meet
        exact ⟨by rw [← HF.out], hb⟩
  case rest =>
  obtain ⟨rfl, hb⟩ := hcut
  replace hW := bel_step hW hb
  replace D1 := D1.on hb
  replace I1 := I1.on hb
  replace Bt := Bt.on hb
  replace Fx := Fx.on hb
  replace Bx := Bx.on hb
  replace D2 := D2.on hb
  replace Bq := Bq.on hb
  replace Fy := Fy.on hb
  replace By := By.on hb
  replace D4 := D4.on hb
  replace Bp := Bp.on hb
  replace Fb := Fb.on hb
  clear hb
  go_upto_if 155 with fail
  go_cut [] (fun wx => Below wc.heap.size wc wx)
  case first =>
    as_aux_lemma =>
      cases cnd with
      | false =>
        go_wp2_with fail
        go_meet
        exact Below.refl _ _
      | true =>
        have hcc : tabB s4 w4 R4 = true ∧ f ≤ t := by
          have := HCB.out
          rw [Bool.and_eq_true] at this
          exact ⟨this.1, of_decide_eq_true this.2⟩
        have HLW := Lib.hid (HLAW.out hcc.1 hcc.2)
        have hf1001 : (-1001 : Int) ≤ f := by omega
        clear hcc
        have hV := Below.refl wc.heap.size wc
        obtain ⟨Bp0, Bp1, Bp2⟩ := Bp.c3
        go_wp2_with fail
        refine (((implBagIn_any s4 w4 A4 c4 R4 (-1001) f wc D4.1 (by omega) (by omega) hc4).mono fun _ _ h => OwnBag.ans h (HQS.out (-1001) f))).mono ?_
        rintro e v22 ⟨Al, cl, rfl, Fl, hcl, hb⟩
        clear Bp0 Bp1 Bp2
        replace hV := bel_step hV hb
        replace hW := bel_step hW hb
        replace D1 := D1.on hb
        replace I1 := I1.on hb
        replace Bt := Bt.on hb
        replace Fx := Fx.on hb
        replace Bx := Bx.on hb
        replace D2 := D2.on hb
        replace Bq := Bq.on hb
        replace Fy := Fy.on hb
        replace By := By.on hb
        replace D4 := D4.on hb
        replace Bp := Bp.on hb
        replace Fb := Fb.on hb
        clear hb
        obtain ⟨Bp0, Bp1, Bp2⟩ := Bp.c3
        go_wp2_with fail
        refine (((implBagIn_any s4 w4 A4 c4 R4 (-1001) t v22 D4.1 (by omega) (by omega) hc4).mono fun _ _ h => OwnBag.ans h (HQS.out (-1001) t))).mono ?_
        rintro e v23 ⟨Am, cm, rfl, Fm, hcm, hb⟩
        clear Bp0 Bp1 Bp2
        replace hV := bel_step hV hb
        replace hW := bel_step hW hb
        replace D1 := D1.on hb
        replace I1 := I1.on hb
        replace Bt := Bt.on hb
        replace Fx := Fx.on hb
        replace Bx := Bx.on hb
        replace D2 := D2.on hb
        replace Bq := Bq.on hb
        replace Fy := Fy.on hb
        replace By := By.on hb
        replace D4 := D4.on hb
        replace Bp := Bp.on hb
        replace Fb := Fb.on hb
        replace Fl := Fl.on hb
        clear hb
        have hQ1 := HQL.out (-1001) f
        have hQ2 := HQL.out (-1001) t
        go_wp2_with fail
        refine ((show Calls Try.prog 37 #[.slice Al (bagInB s4 w4 R4 (-1001) f).length cl, .slice Ab (bagInB s4 w4 R4 f t).length cb] v23 (BagAns (bagInB s4 w4 R4 (-1001) t) v23) from (implPlus_any Al Ab cl cb _ _ v23 Fl Fb hcl hcb (by omega) (by omega)).mono fun _ _ h => by rw [HLW.out] at h; exact OwnB.ans h (HQS.out (-1001) t))).mono ?_
        rintro e v24 ⟨Ap2, cp2, rfl, Fp2, _, hb⟩
        replace hV := bel_step hV hb
        replace hW := bel_step hW hb
        replace D1 := D1.on hb
        replace I1 := I1.on hb
        replace Bt := Bt.on hb
        replace Fx := Fx.on hb
        replace Bx := Bx.on hb
        replace D2 := D2.on hb
        replace Bq := Bq.on hb
        replace Fy := Fy.on hb
        replace By := By.on hb
        replace D4 := D4.on hb
        replace Bp := Bp.on hb
        replace Fb := Fb.on hb
        replace Fl := Fl.on hb
        replace Fm := Fm.on hb
        clear hb
        go_wp2_with fail
        refine (likeBag_any Ap2 Am cp2 cm (bagInB s4 w4 R4 (-1001) t) (bagInB s4 w4 R4 (-1001) t) v24 Fp2 Fm (by omega) (by omega)).mono ?_
        rintro e v25 ⟨rfl, nn, hE⟩
        rw [decide_eq_true (rfl : bagInB s4 w4 R4 (-1001) t = bagInB s4 w4 R4 (-1001) t)]
        have hb : Below v24.heap.size v24 v25 := by rw [hE]; exact bel_drewN (Below.refl _ _) nn
        clear hE
        replace hV := bel_step hV hb
        go_wp2_with fail
        go_meet
        exact hV
  case rest =>
  have hb := hcut
  clear hcut
  replace hW := bel_step hW hb
  replace D1 := D1.on hb
  replace I1 := I1.on hb
  replace Bt := Bt.on hb
  replace Fx := Fx.on hb
  replace Bx := Bx.on hb
  replace D2 := D2.on hb
  replace Bq := Bq.on hb
  replace Fy := Fy.on hb
  replace By := By.on hb
  replace D4 := D4.on hb
  replace Bp := Bp.on hb
  replace Fb := Fb.on hb
  clear hb
  go_upto_if 172 with fail
  go_cut [] (fun wx => Below wc.heap.size wc wx)
  case first =>
    as_aux_lemma =>
      cases fly with
      | false =>
        go_wp2_with fail
        go_meet
        exact Below.refl _ _
      | true =>
        have hV := Below.refl wc.heap.size wc
        have HY := Lib.hid (show tabB Sy Wy Ly = true ∧ thereB Sy Wy Ly k2 = false ∧ Ly.length + 1 = R2.length by
          obtain ⟨e1, e2, e3, e4⟩ := HSy.out
          rw [(there_tab e4).1] at e1 e2 e3
          rw [(tk_true s2 w2 R2).1] at e1
          rw [(tk_true s2 w2 R2).2.1] at e2
          rw [(tk_true s2 w2 _).2.2] at e3
          rw [← e1, ← e2, ← e3]
          exact taken_law e4)
        obtain ⟨By0, By1, By2⟩ := By.c3
        go_wp2_with fail
        refine (implRowAt_any Sy Wy Ay cy Ly k2 wc Fy (by omega) (by omega)).mono ?_
        rintro e v26 ⟨vv, rfl, hT, hb⟩
        clear By0 By1 By2
        rw [HY.out.2.1]
        obtain ⟨Aw, cw, rfl⟩ := own_form hT
        clear hT
        replace hV := bel_step hV hb
        replace hW := bel_step hW hb
        replace D1 := D1.on hb
        replace I1 := I1.on hb
        replace Bt := Bt.on hb
        replace Fx := Fx.on hb
        replace Bx := Bx.on hb
        replace D2 := D2.on hb
        replace Bq := Bq.on hb
        replace Fy := Fy.on hb
        replace By := By.on hb
        replace D4 := D4.on hb
        replace Bp := Bp.on hb
        replace Fb := Fb.on hb
        clear hb
        obtain ⟨By0, By1, By2⟩ := By.c3
        go_wp2_with fail
        refine (implTableOk_any Sy Wy Ay cy Ly v26 Fy (by omega) (by omega)).mono ?_
        rintro e v27 ⟨rfl, hb⟩
        clear By0 By1 By2
        rw [HY.out.1]
        replace hV := bel_step hV hb
        replace hW := bel_step hW hb
        replace D1 := D1.on hb
        replace I1 := I1.on hb
        replace Bt := Bt.on hb
        replace Fx := Fx.on hb
        replace Bx := Bx.on hb
        replace D2 := D2.on hb
        replace Bq := Bq.on hb
        replace Fy := Fy.on hb
        replace By := By.on hb
        replace D4 := D4.on hb
        replace Bp := Bp.on hb
        replace Fb := Fb.on hb
        clear hb
        have hwl : IntKind.i64.wrap ((R2.length : Int) - 1) = (Ly.length : Int) := by have := HY.out.2.2; rw [IntKind.wrap_i64]; omega
        have hnl : ((Ly.length : Int) != (Ly.length : Int)) = false := by simp
        obtain ⟨By0, By1, By2⟩ := By.c3
        obtain ⟨Bq0, Bq1, Bq2⟩ := Bq.c3
        go_wp2_with fail
        go_meet
        exact hV
  case rest =>
  have hb := hcut
  clear hcut
  replace hW := bel_step hW hb
  replace D1 := D1.on hb
  replace I1 := I1.on hb
  replace Bt := Bt.on hb
  replace Fx := Fx.on hb
  replace Bx := Bx.on hb
  replace D2 := D2.on hb
  replace Bq := Bq.on hb
  replace Fy := Fy.on hb
  replace By := By.on hb
  replace D4 := D4.on hb
  replace Bp := Bp.on hb
  replace Fb := Fb.on hb
  clear hb
  cases flx with
  | false =>
    as_aux_lemma =>
      obtain ⟨Bt0, Bt1, Bt2⟩ := Bt.c3
      obtain ⟨By0, By1, By2⟩ := By.c3
      obtain ⟨Bq0, Bq1, Bq2⟩ := Bq.c3
      go_wp2_with fail
      refine (specTableOk_any s1 w1 A1 c1 R1 wc D1.1 (by omega) (by omega)).mono ?_
      rintro e v28 ⟨rfl, hb⟩
      clear Bt0 Bt1 Bt2 By0 By1 By2 Bq0 Bq1 Bq2
      rw [HTB.out]
      replace hW := bel_step hW hb
      replace D1 := D1.on hb
      replace I1 := I1.on hb
      replace Bt := Bt.on hb
      replace Fx := Fx.on hb
      replace Bx := Bx.on hb
      replace D2 := D2.on hb
      replace Bq := Bq.on hb
      replace Fy := Fy.on hb
      replace By := By.on hb
      replace D4 := D4.on hb
      replace Bp := Bp.on hb
      replace Fb := Fb.on hb
      clear hb
      cases tb with
      | false =>
        go_wp2
        go_ret
        exact ⟨rfl, hW⟩
      | true =>
        obtain ⟨e1, e2, e3, e4⟩ := HSx.out
        rw [HTB.out, (tk_true s1 w1 R1).1] at e1
        rw [HTB.out, (tk_true s1 w1 R1).2.1] at e2
        rw [HTB.out, (tk_true s1 w1 _).2.2, e4, show plR R1 row false = R1 from if_neg (by simp)] at e3
        subst e1 e2 e3
        obtain ⟨Bx0, Bx1, Bx2⟩ := Bx.c3
        obtain ⟨Bt0, Bt1, Bt2⟩ := Bt.c3
        go_wp2_with fail
        refine (likeTable_same s1 w1 Ax A1 cx c1 R1 v28 Fx D1.1 (by omega)).mono ?_
        rintro e v29 ⟨rfl, hb⟩
        clear Bx0 Bx1 Bx2 Bt0 Bt1 Bt2
        replace hW := bel_step hW hb
        replace D1 := D1.on hb
        replace I1 := I1.on hb
        replace Bt := Bt.on hb
        replace Fx := Fx.on hb
        replace Bx := Bx.on hb
        replace D2 := D2.on hb
        replace Bq := Bq.on hb
        replace Fy := Fy.on hb
        replace By := By.on hb
        replace D4 := D4.on hb
        replace Bp := Bp.on hb
        replace Fb := Fb.on hb
        clear hb
        go_wp2
        go_ret
        exact ⟨rfl, hW⟩
  | true =>
    as_aux_lemma =>
      obtain ⟨e1, e2, e3, e4⟩ := HSx.out
      rw [(pl_tab e4).1, (tk_true s1 w1 R1).1] at e1
      rw [(pl_tab e4).1, (tk_true s1 w1 R1).2.1] at e2
      rw [(pl_tab e4).1, (tk_true s1 w1 _).2.2, e4, show plR R1 row true = placedL R1 row from if_pos rfl] at e3
      clear HSx
      subst e1 e2
      have HPL := Lib.hid (show tabB s1 w1 Lx = true ∧ thereB s1 w1 Lx (ky row) = true ∧ takenL Lx (ky row) = R1 ∧ atL s1 w1 Lx (ky row) = row ∧ 0 < row.length by rw [← e3]; exact placed_law e4)
      clear e3 e4
      have hrp := HPL.out.2.2.2.2
      have HBt := Lib.hid (show ∀ j, j < R1.length → (rr R1 j).length ≤ 1099511627776 from fun j hj => by have := HD1.out j hj; omega)
      have HCT := Lib.hid (show ∀ W, Rws W W.heap.size Ax Lx → Calls Try.prog 25 #[.agg #[.string s1, .int .i64 w1, .slice Ax Lx.length cx], .int .i64 (ky row)] W (WAns s1 w1 R1 true W) from fun W h => by
        have hh := implTaken_any s1 w1 Ax cx Lx (ky row) W h (by omega) (by omega)
        rw [HPL.out.1, (tk_true s1 w1 Lx).1, (tk_true s1 w1 Lx).2.1, (tk_true s1 w1 _).2.2, HPL.out.2.2.1, HPL.out.2.1] at hh
        exact hh)
      have HCR := Lib.hid (show ∀ W, Rws W W.heap.size Ax Lx → Calls Try.prog 27 #[.agg #[.string s1, .int .i64 w1, .slice Ax Lx.length cx], .int .i64 (ky row)] W (AtRow row true W) from fun W h => by
        have hh := implRowAt_any s1 w1 Ax cx Lx (ky row) W h (by omega) (by omega)
        rw [HPL.out.2.2.2.1, HPL.out.2.1] at hh
        exact hh)
      obtain ⟨br, oo, hAr, hbrl, crr⟩ := I1.first hrp
      subst hAr
      obtain ⟨Bx0, Bx1, Bx2⟩ := Bx.c3
      obtain ⟨By0, By1, By2⟩ := By.c3
      obtain ⟨Bq0, Bq1, Bq2⟩ := Bq.c3
      go_wp2_with fail
      have AB : Below wc.heap.size wc ((wc.alloc (.cells #[.string ⟨#[]⟩, .int .i64 0, .slice none 0 0] 28)).drewN 1) := bel_drewN ((Below.refl _ _).alloc (Nat.le_refl _) _) 1
      have AZ : Blk ((wc.alloc (.cells #[.string ⟨#[]⟩, .int .i64 0, .slice none 0 0] 28)).drewN 1) wc.heap.size 28 #[.string ⟨#[]⟩, .int .i64 0, .slice none 0 0] := (Blk.new wc _ _).drewN 1
      have hAs : wc.heap.size < ((wc.alloc (.cells #[.string ⟨#[]⟩, .int .i64 0, .slice none 0 0] 28)).drewN 1).heap.size := AZ.lt
      have FxA : Rws ((wc.alloc (.cells #[.string ⟨#[]⟩, .int .i64 0, .slice none 0 0] 28)).drewN 1) ((wc.alloc (.cells #[.string ⟨#[]⟩, .int .i64 0, .slice none 0 0] 28)).drewN 1).heap.size Ax Lx := Fx.on AB
      have FxD : Rws (wc.drewN 1) (wc.drewN 1).heap.size Ax Lx := Fx
      have HA := Lib.hid (And.intro AB (And.intro AZ (And.intro hAs (And.intro FxA FxD))))
      clear AB AZ hAs FxA FxD
      have hxl := Bx.lt
      have HBX := Lib.hid Bx
      have m0 := World.new_ne wc _ Bx0
      have m1 := World.new_ne wc _ Bx1
      have m2 := World.new_ne wc _ Bx2
      have m3 := World.new_ne wc _ crr
      go_region_held3 (fun w' => (w'.cell? ⟨v3.heap.size, 0, none⟩ = some (.string s1) ∧ w'.cell? ⟨v3.heap.size, 1, none⟩ = some (.int .i64 w1) ∧ w'.cell? ⟨v3.heap.size, 2, none⟩ = some (.slice Ax Lx.length cx)) ∧ w'.cell? ⟨br, oo, none⟩ = some (.int .i64 (ky row)))
        (first | go_keep | exact ⟨⟨kk0, kk1, kk2⟩, kk3⟩)
        (first | (go_at_call 25; refine (HCT.out _ (by first | with_reducible exact HA.out.2.2.2.2 | with_reducible exact HA.out.2.2.2.1 | exact HA.out.2.2.2.2 | exact HA.out.2.2.2.1)).mono ?_; rintro e y1 ⟨vv, rfl, hT, hbq⟩; obtain ⟨uu, ee, rfl, hOO, hqq⟩ := hT; obtain ⟨Ak, ck, rfl⟩ := hOO.formW hqq; (first | (have hx : Below wc.heap.size wc y1 := bel_step HA.out.1 hbq; have ZB := HA.out.2.1.on hbq; have HSZ := Lib.hid HA.out.2.2.1; obtain ⟨zz0, zz1, zz2⟩ := ZB.c3; have fz0 := ZB.frozen 0; have fz1 := ZB.frozen 1; have fz2 := ZB.frozen 2) | (have hx : Below wc.heap.size wc y1 := (bel_drewN (Below.refl _ _) 1).trans hbq)); obtain ⟨kk0, kk1, kk2⟩ := (HBX.out.on hx).c3; have kk3 : y1.cell? ⟨br, oo, none⟩ = some (.int .i64 (ky row)) := (hx.cell hbrl).trans crr; have n0 := World.new_ne y1 _ kk0; have n1 := World.new_ne y1 _ kk1; have n2 := World.new_ne y1 _ kk2; have n3 := World.new_ne y1 _ kk3))
      all_goals as_aux_lemma =>
        have hbk := hx
        clear crr hbrl hxl kk0 kk1 kk2 kk3 n0 n1 n2 n3 m0 m1 m2 m3 HBX Bx0 Bx1 Bx2 By0 By1 By2 Bq0 Bq1 Bq2
        first
        | (obtain ⟨hfin, BkA, Fk⟩ := fin3 s1 w1 hx ZB HSZ.out hOO hqq HBt.out
           clear hOO hqq hbq hbk hx ZB zz0 zz1 zz2 fz0 fz1 fz2 HSZ
           generalize (((y1.setCell ⟨wc.heap.size, 0, none⟩ (.string s1)).setCell ⟨wc.heap.size, 1, none⟩ (.int .i64 w1)).setCell ⟨wc.heap.size, 2, none⟩ (.slice Ak R1.length ck)) = y2 at *)
        | (obtain ⟨hfin, BkA, Fk⟩ := finB s1 w1 hx hOO hqq HBt.out
           clear hOO hqq hbq hbk hx
           generalize y1.alloc (.cells #[.string s1, .int .i64 w1, .slice Ak R1.length ck] 28) = y2 at *
           generalize y1.heap.size = GB at *)
        replace hW := bel_step hW hfin
        replace D1 := D1.on hfin
        replace I1 := I1.on hfin
        replace Bt := Bt.on hfin
        replace Fx := Fx.on hfin
        replace Bx := Bx.on hfin
        replace D2 := D2.on hfin
        replace Bq := Bq.on hfin
        replace Fy := Fy.on hfin
        replace By := By.on hfin
        replace D4 := D4.on hfin
        replace Bp := Bp.on hfin
        replace Fb := Fb.on hfin
        clear hfin
        obtain ⟨_, _, hAr, _, crr⟩ := I1.first hrp
        cases hAr
        obtain ⟨Bx0, Bx1, Bx2⟩ := Bx.c3
        go_wp2_with fail
        go_region_law (first | (go_simp; refine (HCR.out _ (by exact Fx)).mono ?_; rintro e y3 ⟨vv, rfl, hT, hbq⟩; obtain ⟨Aat, cat, gat, rfl, _, Fat⟩ := rowAt_of_own hT; have hbk : Below y2.heap.size y2 y3 := (bel_drewN (Below.refl _ _) 1).trans hbq))
        all_goals
          clear hT hbq crr Bx0 Bx1 Bx2
          replace hW := bel_step hW hbk
          replace D1 := D1.on hbk
          replace I1 := I1.on hbk
          replace Bt := Bt.on hbk
          replace Fx := Fx.on hbk
          replace Bx := Bx.on hbk
          replace D2 := D2.on hbk
          replace Bq := Bq.on hbk
          replace Fy := Fy.on hbk
          replace By := By.on hbk
          replace D4 := D4.on hbk
          replace Bp := Bp.on hbk
          replace Fb := Fb.on hbk
          replace Fk := Fk.on hbk
          replace BkA := BkA.on hbk
          clear hbk
          obtain ⟨Bx0, Bx1, Bx2⟩ := Bx.c3
          go_wp2_with fail
          refine (implTableOk_any s1 w1 Ax cx Lx y3 Fx (by omega) (by omega)).mono ?_
          rintro e v30 ⟨rfl, hb⟩
          clear Bx0 Bx1 Bx2
          rw [HPL.out.1]
          replace hW := bel_step hW hb
          replace D1 := D1.on hb
          replace I1 := I1.on hb
          replace Bt := Bt.on hb
          replace Fx := Fx.on hb
          replace Bx := Bx.on hb
          replace D2 := D2.on hb
          replace Bq := Bq.on hb
          replace Fy := Fy.on hb
          replace By := By.on hb
          replace D4 := D4.on hb
          replace Bp := Bp.on hb
          replace Fb := Fb.on hb
          replace Fk := Fk.on hb
          replace BkA := BkA.on hb
          replace Fat := Fat.on hb
          clear hb
          obtain ⟨BkA0, BkA1, BkA2⟩ := BkA.c3
          obtain ⟨Bt0, Bt1, Bt2⟩ := Bt.c3
          go_wp2_with fail
          refine (likeTable_same s1 w1 Ak A1 ck c1 R1 v30 Fk D1.1 (by omega)).mono ?_
          rintro e v31 ⟨rfl, hb⟩
          clear BkA0 BkA1 BkA2 Bt0 Bt1 Bt2
          replace hW := bel_step hW hb
          replace D1 := D1.on hb
          replace I1 := I1.on hb
          replace Bt := Bt.on hb
          replace Fx := Fx.on hb
          replace Bx := Bx.on hb
          replace D2 := D2.on hb
          replace Bq := Bq.on hb
          replace Fy := Fy.on hb
          replace By := By.on hb
          replace D4 := D4.on hb
          replace Bp := Bp.on hb
          replace Fb := Fb.on hb
          replace Fk := Fk.on hb
          replace BkA := BkA.on hb
          replace Fat := Fat.on hb
          clear hb
          go_wp2_with fail
          refine (likeRow_any Aat (some ⟨br, oo, none⟩) cat cr row row v31 _ _ Fat.ints I1 (by omega) (by omega)).mono ?_
          rintro e v32 ⟨rfl, nn, hE⟩
          rw [decide_eq_true (rfl : row = row)]
          have hb : Below v31.heap.size v31 v32 := by rw [hE]; exact bel_drewN (Below.refl _ _) nn
          clear hE
          replace hW := bel_step hW hb
          replace D1 := D1.on hb
          replace I1 := I1.on hb
          replace Bt := Bt.on hb
          replace Fx := Fx.on hb
          replace Bx := Bx.on hb
          replace D2 := D2.on hb
          replace Bq := Bq.on hb
          replace Fy := Fy.on hb
          replace By := By.on hb
          replace D4 := D4.on hb
          replace Bp := Bp.on hb
          replace Fb := Fb.on hb
          replace Fk := Fk.on hb
          replace BkA := BkA.on hb
          replace Fat := Fat.on hb
          clear hb
          go_wp2
          go_ret
          exact ⟨rfl, hW⟩
end Go.Proofs.Ytedbjjhkjkpnkaa
