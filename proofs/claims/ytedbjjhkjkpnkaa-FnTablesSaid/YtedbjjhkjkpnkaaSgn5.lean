/- The contract of the list's 'merged' with countLess and countsTogether: a bag of shared rows that reads as the two merged; nothing that lay has turned. -/
import Derived.Test.YtedbjjhkjkpnkaaSgn4
namespace Go.Proofs.Ytedbjjhkjkpnkaa
open Go.RowKit

def slen : Value → Nat
  | .slice _ n _ => n
  | _ => 0
theorem countLess_yes (A A' : Option Addr) (c c' : Nat) (zs ys : List Int) (n m : Int) (w : World) (hI : Ints w w.heap.size A zs) (hI' : Ints w w.heap.size A' ys) (hl : zs.length ≤ 1099511627776) (hl' : ys.length ≤ 1099511627776) (h : lessB zs ys = true) :
    Calls Try.prog 73 #[.agg #[.slice A zs.length c, .int .i64 n], .agg #[.slice A' ys.length c', .int .i64 m]] w fun e w' => e = .returned (.bool true) ∧ Below w.heap.size w w' := by
  rw [← h]; exact countLess_any A A' c c' zs ys n m w hI hI' hl hl'
theorem countLess_no (A A' : Option Addr) (c c' : Nat) (zs ys : List Int) (n m : Int) (w : World) (hI : Ints w w.heap.size A zs) (hI' : Ints w w.heap.size A' ys) (hl : zs.length ≤ 1099511627776) (hl' : ys.length ≤ 1099511627776) (h : lessB zs ys = false) :
    Calls Try.prog 73 #[.agg #[.slice A zs.length c, .int .i64 n], .agg #[.slice A' ys.length c', .int .i64 m]] w fun e w' => e = .returned (.bool false) ∧ Below w.heap.size w w' := by
  rw [← h]; exact countLess_any A A' c c' zs ys n m w hI hI' hl hl'
theorem Bag.head {w : World} {B : Nat} {A : Option Addr} {r : List Int} {n : Int} {xs : List (List Int × Int)} (h : Bag w B A ((r, n) :: xs)) : ∃ b off Ar cr, A = some ⟨b, off, none⟩ ∧ b < B ∧ w.cell? ⟨b, off, none⟩ = some (.slice Ar r.length cr) ∧ w.cell? ⟨b, off + 1, none⟩ = some (.int .i64 n) ∧ Ints w B Ar r ∧ r.length ≤ 1099511627776 ∧ Bag w B (some ⟨b, off + 2, none⟩) xs := by
  obtain ⟨b, off, rfl, hb, hc⟩ := h (by simp)
  obtain ⟨Ar, cr, h1, h2, h3, h4⟩ := hc 0 (by simp)
  refine ⟨b, off, Ar, cr, rfl, hb, by simpa [rx] using h1, by simpa [nx] using h2, by simpa [rx] using h3, by simpa [rx] using h4, ?_⟩
  have := Bag.drop h 1
  simpa using this
/-- What a cut from place 1 on leads to. -/
theorem Bag.tail1 {w : World} {B b off la c : Nat} {xs : List (List Int × Int)} (h : Bag w B (some ⟨b, off + 2, none⟩) xs) (hl : xs.length = la - 1) (hc : la ≤ c) (h0 : 0 < la) : Bag w B (if c = 1 then some ⟨b, off, none⟩ else some ⟨b, off + 2, none⟩) xs := by
  by_cases h1 : c = 1
  · have : xs = [] := List.length_eq_zero_iff.1 (by omega)
    subst this
    exact Bag.empty _ _ _
  · rw [if_neg h1]; exact h
theorem cons_of_len {xs : List (List Int × Int)} {n : Nat} (h : xs.length = n) (h0 : 0 < n) : ∃ r m xs', xs = (r, m) :: xs' ∧ xs'.length = n - 1 := by
  cases xs with
  | nil => simp at h; omega
  | cons p xs' => exact ⟨p.1, p.2, xs', rfl, by simp at h; omega⟩

theorem ABag.one {w1 w6 : World} {lo N : Nat} {u v6 : Value} {es : List Ent} {r : List Int} {n : Int} {Ar : Option Addr} {cr : Nat} {o : Obj} (hO1 : ABag w1 lo u es) (hlo : lo ≤ w1.heap.size) (h3 : Ints w1 lo Ar r) (h4 : r.length ≤ 1099511627776) (hN : N = es.length + 1)
    (hown6 : w6.ownsRow lo 63 2 v6 N (entCells es ++ [.slice Ar r.length cr, .int .i64 n])) (hg6 : (w1.alloc o).grownBy w6 u.ownBlock) : ABag w6 lo v6 (es ++ [⟨r, n, Ar, cr, 0⟩]) ∧ Below lo w1 w6 := by
  have b8 := (Below.refl w1.heap.size w1).alloc (Nat.le_refl _) o
  refine ⟨(hO1.below b8 hlo).grow (fs := [⟨r, n, Ar, cr, 0⟩]) (by rw [World.size_alloc]; omega) hg6 (by rw [hN]; simp) (by rw [entCells_append]; rfl) hown6 (fun e he => by obtain rfl := List.mem_singleton.1 he; exact ⟨h3.below (b8.mono hlo), h4⟩), ?_⟩
  exact ((Below.refl lo w1).alloc hlo o).grown hg6 (by rw [World.size_alloc]; omega) (fun r e => (hO1.1.lt r e).1)

set_option maxRecDepth 100000 in
set_option maxHeartbeats 8000000 in
theorem merged_any (A A' : Option Addr) (c c' : Nat) (a b : List (List Int × Int)) (w : World) (hA : Bag w w.heap.size A a) (hB : Bag w w.heap.size A' b) (hca : a.length ≤ c) (hcb : b.length ≤ c') (hla : a.length ≤ 1000000) (hlb : b.length ≤ 1000000) (hna : ∀ p ∈ a, -1000000 ≤ p.2 ∧ p.2 ≤ 1000000) (hnb : ∀ p ∈ b, -1000000 ≤ p.2 ∧ p.2 ≤ 1000000) :
    Calls Try.prog 72 #[.slice A a.length c, .slice A' b.length c', .func (.func 73) #[] #[], .func (.func 74) #[] #[]] w fun e w' => ∃ v es, e = .returned v ∧ ABag w' w.heap.size v es ∧ es.map Ent.pair = mergeL a b ∧ Below w.heap.size w w' := by
  obtain ⟨i0, hi0, hz0, hz1, hz2⟩ := info_parts info_count
  have HNA := Lib.hid hna
  have HNB := Lib.hid hnb
  clear hna hnb
  obtain ⟨N, hN⟩ : ∃ N, N = a.length + b.length := ⟨_, rfl⟩
  obtain ⟨M, hM⟩ : ∃ M, M = mergeL a b := ⟨_, rfl⟩
  have HM := Lib.hid hM
  have hmk : ∀ w, (Instr.makeSlice 88 (.int .i64 0) (.int .i64 ((a.length : Int) + (b.length : Int)))).run Try.prog w = .ok (.slice (some ⟨w.heap.size, 0, none⟩) 0 N) (w.alloc (.cells (madeCells #[.slice none 0 0, .int .i64 0] (N * 2)) 63)) := fun w => by
    have := make_list N (by omega) w
    rwa [hN, Int.natCast_add, ← hN] at this
  have hNl : N ≤ 2000000 := by omega
  have HNN := Lib.hid hN
  rw [← hM]
  clear hN hM
  have hO0 := ABag.nil (room_counts N (by omega) w w.heap.size (Nat.le_refl _)).1
  have b1 := (Below.refl w.heap.size w).alloc (Nat.le_refl _) (.cells (madeCells #[.slice none 0 0, .int .i64 0] (N * 2)) 63)
  go_enter Try.func72, Try.ntmps72
  go_wp2
  go_loopw [0, 1, 9] (fun vl vo v wr => ∃ (xs ys : List (List Int × Int)) (es : List Ent) (la lb ca cb : Nat) (A A' : Option Addr), vl = .slice A la ca ∧ vo = .slice A' lb cb ∧ xs.length = la ∧ ys.length = lb ∧ la ≤ ca ∧ lb ≤ cb ∧ Bag wr w.heap.size A xs ∧ Bag wr w.heap.size A' ys ∧ ABag wr w.heap.size v es ∧ es.map Ent.pair ++ mergeL xs ys = M ∧ es.length + la + lb ≤ N ∧ (∀ p ∈ xs, -1000000 ≤ p.2 ∧ p.2 ≤ 1000000) ∧ (∀ p ∈ ys, -1000000 ≤ p.2 ∧ p.2 ≤ 1000000) ∧ Below w.heap.size w wr) (fun vl vo _ _ => slen vl + slen vo)
  case atStart => exact ⟨a, b, [], _, _, _, _, _, _, rfl, rfl, rfl, rfl, hca, hcb, hA.below b1, hB.below b1, hO0, by rw [HM.out]; rfl, by have := HNN.out; simp; omega, HNA.out, HNB.out, b1⟩
  case round =>
    clear hmk hO0 b1 hA hB hca hcb HNA HNB hla hlb
    obtain ⟨xs, ys, es, la, lb, ca, cb, A1, A2, rfl, rfl, hal, hbl, hca, hcb, hA, hB, hO, he, hel, hna, hnb, hW⟩ := hrel
    have HAL := Lib.hid hal
    have HBL := Lib.hid hbl
    have HE := Lib.hid he
    have HNA := Lib.hid hna
    have HNB := Lib.hid hnb
    clear hal hbl he hna hnb
    have hlor : w.heap.size ≤ wr.heap.size := hW.size
    by_cases ha0 : 0 < la
    · by_cases hb0 : 0 < lb
      · obtain ⟨r, n, xs', rfl, hal'⟩ := cons_of_len HAL.out ha0
        obtain ⟨s, m, ys', rfl, hbl'⟩ := cons_of_len HBL.out hb0
        obtain ⟨ba, oa, Ar, cr, rfl, hba, x1, x2, x3, x4, hA'⟩ := hA.head
        obtain ⟨bb, ob, Br, cs, rfl, hbb, y1, y2, y3, y4, hB'⟩ := hB.head
        have hba' : ba < wr.heap.size := by omega
        have hbb' : bb < wr.heap.size := by omega
        have hia := x3.more hlor
        have hib := y3.more hlor
        have HX := Lib.hid (And.intro (And.intro x1 x2) (And.intro y1 y2))
        have HAL' := Lib.hid hal'
        have HBL' := Lib.hid hbl'
        have HA := Lib.hid hA
        have HB := Lib.hid hB
        clear hA hB hal' hbl' HAL HBL
        rcases less_tri r s with hlt | hlt | hlt
        · have HLT := Lib.hid hlt
          clear hlt
          go_wp2_with fail
          go_region_held3 (fun w' => (w'.cell? ⟨ba, oa, none⟩ = some (.slice Ar r.length cr) ∧ w'.cell? ⟨ba, oa + 1, none⟩ = some (.int .i64 n)) ∧ (w'.cell? ⟨bb, ob, none⟩ = some (.slice Br s.length cs) ∧ w'.cell? ⟨bb, ob + 1, none⟩ = some (.int .i64 m)))
            (first | go_keep | exact ⟨⟨(hb1.cell hba').trans HX.out.1.1, (hb1.cell hba').trans HX.out.1.2⟩, ⟨(hb1.cell hbb').trans HX.out.2.1, (hb1.cell hbb').trans HX.out.2.2⟩⟩)
            (first | (go_at_call 73; refine (countLess_yes Ar Br cr cs r s n m _ (by exact hia) (by exact hib) x4 y4 HLT.out).mono ?_; rintro e w1 ⟨rfl, hb1⟩))
          have hk1 : Below wr.heap.size wr w1 := (bel_drewN (Below.refl _ _) 1).trans hb1
          have z1 := (hk1.cell hba').trans HX.out.1.1
          have z2 := (hk1.cell hba').trans HX.out.1.2
          have hO1 := hO.below hk1 hlor
          have hA1 := hA'.below (hk1.mono hlor)
          have hB1 := HB.out.below (hk1.mono hlor)
          have h31 := x3.below (hk1.mono hlor)
          have hW1 := hW.trans (hk1.mono hlor)
          have hlo1 : w.heap.size ≤ w1.heap.size := hW1.size
          clear x1 x2 y1 y2 x3 y3 hia hib HX hO hW hb1 hk1 hA' hB' HA HB hba' hbb' hlor
          go_wp2_with (at_builtin; refine wpList_append_any _ rfl (.tmp 55) (.tmp 59) 88 rfl w.heap.size 63 i0 _ 2 32 Try.underlying88 hi0 hz0 hz1 hz2 rfl (by decide) _ _ (entCells es) rfl (hO1.1.alloc _) _ (some ⟨w1.heap.size, 0, none⟩) 1 1 [.slice Ar r.length cr, .int .i64 n] rfl (reads_new2 w1 _ _ _) (by simp [Value.oneCell']) (by simp only [maxLen]; omega) (by omega) (by rw [World.size_alloc]; omega) ?_; intro v6 w6 hown6 hg6 hat6)
          obtain ⟨hO6, hk6⟩ := hO1.one hlo1 h31 x4 rfl hown6 hg6
          go_roundw
          case rel => exact ⟨xs', (s, m) :: ys', _, la - 1, lb, ca - 1, cb, _, _, rfl, rfl, HAL'.out, by have := HBL'.out; simp; omega, by omega, hcb, (hA1.below hk6).tail1 HAL'.out hca ha0, hB1.below hk6, hO6, by rw [List.map_append, List.append_assoc, ← HE.out, merge_lt HLT.out]; rfl, by simp; omega, fun p hp => HNA.out p (List.mem_cons_of_mem _ hp), HNB.out, hW1.trans hk6⟩
          case measure => simp [slen]; omega
        · subst hlt
          have HLT := Lib.hid (less_irrefl r)
          have HBN := Lib.hid (show -1000000 ≤ n ∧ n ≤ 1000000 from HNA.out (r, n) (by simp))
          have HBM := Lib.hid (show -1000000 ≤ m ∧ m ≤ 1000000 from HNB.out (r, m) (by simp))
          go_wp2_with fail
          go_region_held3 (fun w' => (w'.cell? ⟨ba, oa, none⟩ = some (.slice Ar r.length cr) ∧ w'.cell? ⟨ba, oa + 1, none⟩ = some (.int .i64 n)) ∧ (w'.cell? ⟨bb, ob, none⟩ = some (.slice Br r.length cs) ∧ w'.cell? ⟨bb, ob + 1, none⟩ = some (.int .i64 m)))
            (first | go_keep | exact ⟨⟨(hb1.cell hba').trans HX.out.1.1, (hb1.cell hba').trans HX.out.1.2⟩, ⟨(hb1.cell hbb').trans HX.out.2.1, (hb1.cell hbb').trans HX.out.2.2⟩⟩)
            (first | (go_at_call 73; refine (countLess_no Ar Br cr cs r r n m _ (by exact hia) (by exact hib) x4 y4 HLT.out).mono ?_; rintro e w1 ⟨rfl, hb1⟩))
          have hk1 : Below wr.heap.size wr w1 := (bel_drewN (Below.refl _ _) 1).trans hb1
          obtain ⟨⟨x1, x2⟩, ⟨y1, y2⟩⟩ := (show (w1.cell? ⟨ba, oa, none⟩ = some (.slice Ar r.length cr) ∧ w1.cell? ⟨ba, oa + 1, none⟩ = some (.int .i64 n)) ∧ (w1.cell? ⟨bb, ob, none⟩ = some (.slice Br r.length cs) ∧ w1.cell? ⟨bb, ob + 1, none⟩ = some (.int .i64 m)) from ⟨⟨(hk1.cell hba').trans HX.out.1.1, (hk1.cell hba').trans HX.out.1.2⟩, ⟨(hk1.cell hbb').trans HX.out.2.1, (hk1.cell hbb').trans HX.out.2.2⟩⟩)
          have HX1 := Lib.hid (And.intro (And.intro x1 x2) (And.intro y1 y2))
          have hia1 := hia.on hk1
          have hib1 := hib.on hk1
          have hba1 : ba < w1.heap.size := Nat.lt_of_lt_of_le hba' hk1.size
          have hbb1 : bb < w1.heap.size := Nat.lt_of_lt_of_le hbb' hk1.size
          go_wp2_with fail
          go_region_held3 (fun w' => (w'.cell? ⟨ba, oa, none⟩ = some (.slice Ar r.length cr) ∧ w'.cell? ⟨ba, oa + 1, none⟩ = some (.int .i64 n)) ∧ (w'.cell? ⟨bb, ob, none⟩ = some (.slice Br r.length cs) ∧ w'.cell? ⟨bb, ob + 1, none⟩ = some (.int .i64 m)))
            (first | go_keep | exact ⟨⟨(hb2.cell hba1).trans HX1.out.1.1, (hb2.cell hba1).trans HX1.out.1.2⟩, ⟨(hb2.cell hbb1).trans HX1.out.2.1, (hb2.cell hbb1).trans HX1.out.2.2⟩⟩)
            (first | (go_at_call 73; refine (countLess_no Br Ar cs cr r r m n _ (by exact hib1) (by exact hia1) y4 x4 HLT.out).mono ?_; rintro e w2 ⟨rfl, hb2⟩))
          have hk2 : Below wr.heap.size wr w2 := bel_step hk1 ((bel_drewN (Below.refl _ _) 1).trans hb2)
          obtain ⟨⟨q1, q2⟩, ⟨p1, p2⟩⟩ := (show (w2.cell? ⟨ba, oa, none⟩ = some (.slice Ar r.length cr) ∧ w2.cell? ⟨ba, oa + 1, none⟩ = some (.int .i64 n)) ∧ (w2.cell? ⟨bb, ob, none⟩ = some (.slice Br r.length cs) ∧ w2.cell? ⟨bb, ob + 1, none⟩ = some (.int .i64 m)) from ⟨⟨(hk2.cell hba').trans HX.out.1.1, (hk2.cell hba').trans HX.out.1.2⟩, ⟨(hk2.cell hbb').trans HX.out.2.1, (hk2.cell hbb').trans HX.out.2.2⟩⟩)
          have HX2 := Lib.hid (And.intro (And.intro q1 q2) (And.intro p1 p2))
          have hba2 : ba < w2.heap.size := Nat.lt_of_lt_of_le hba' hk2.size
          have hbb2 : bb < w2.heap.size := Nat.lt_of_lt_of_le hbb' hk2.size
          have hO2 := hO.below hk2 hlor
          have hA2 := hA'.below (hk2.mono hlor)
          have hB2 := hB'.below (hk2.mono hlor)
          have h32 := x3.below (hk2.mono hlor)
          have hW2 := hW.trans (hk2.mono hlor)
          have hlo2 : w.heap.size ≤ w2.heap.size := hW2.size
          have m1 := World.new_ne w2 _ q1
          have m2 := World.new_ne w2 _ q2
          have m3 := World.new_ne w2 _ p1
          have m4 := World.new_ne w2 _ p2
          clear x1 x2 y1 y2 x3 y3 hia hib hia1 hib1 HX HX1 hO hW hb1 hb2 hk1 hk2 hA' hB' HA HB hba' hbb' hba1 hbb1 hlor
          go_wp2_with fail
          go_region_held3 (fun w' => (w'.cell? ⟨ba, oa, none⟩ = some (.slice Ar r.length cr) ∧ w'.cell? ⟨ba, oa + 1, none⟩ = some (.int .i64 n)) ∧ (w'.cell? ⟨bb, ob, none⟩ = some (.slice Br r.length cs) ∧ w'.cell? ⟨bb, ob + 1, none⟩ = some (.int .i64 m)))
            (first | go_keep | exact ⟨⟨k1, k2⟩, ⟨k3, k4⟩⟩)
            (first | (go_at_call 74; refine (countsTogether_any Ar Br r.length r.length cr cs n m _ HBN.out HBM.out).mono ?_; rintro e w3 ⟨rfl, hb3⟩; (first | (have hx : Below w2.heap.size w2 w3 := (bel_drewN ((Below.refl w2.heap.size w2).alloc (Nat.le_refl _) (.cells #[.slice none 0 0, .int .i64 0] 63)) 1).trans (hb3.mono (by simp)); have B3 : Blk w3 w2.heap.size 63 #[.slice none 0 0, .int .i64 0] := ((Blk.new w2 63 #[.slice none 0 0, .int .i64 0]).drewN 1).below hb3 (by simp); have g0 : w3.cell? ⟨w2.heap.size, 0, none⟩ = some (.slice none 0 0) := B3.cell 0; have g1 : w3.cell? ⟨w2.heap.size, 1, none⟩ = some (.int .i64 0) := B3.cell 1; have f0 := B3.frozen 0; have f1 := B3.frozen 1) | (have hx : Below w2.heap.size w2 w3 := (bel_drewN (Below.refl _ _) 1).trans hb3)); have k1 : w3.cell? ⟨ba, oa, none⟩ = some (.slice Ar r.length cr) := (hx.cell hba2).trans q1; have k2 : w3.cell? ⟨ba, oa + 1, none⟩ = some (.int .i64 n) := (hx.cell hba2).trans q2; have k3 : w3.cell? ⟨bb, ob, none⟩ = some (.slice Br r.length cs) := (hx.cell hbb2).trans p1; have k4 : w3.cell? ⟨bb, ob + 1, none⟩ = some (.int .i64 m) := (hx.cell hbb2).trans p2; have n1 := World.new_ne w3 _ k1; have n2 := World.new_ne w3 _ k2; have n3 := World.new_ne w3 _ k3; have n4 := World.new_ne w3 _ k4))
          · have hk4 : Below w2.heap.size w2 (w3.alloc (.cells #[.slice Ar r.length cr, .int .i64 (n + m)] 63)) := hx.alloc hx.size _
            have B4 := Blk.new w3 63 #[.slice Ar r.length cr, .int .i64 (n + m)]
            have c0 : (w3.alloc (.cells #[.slice Ar r.length cr, .int .i64 (n + m)] 63)).cell? ⟨w3.heap.size, 0, none⟩ = some (.slice Ar r.length cr) := B4.cell 0
            have c1 : (w3.alloc (.cells #[.slice Ar r.length cr, .int .i64 (n + m)] 63)).cell? ⟨w3.heap.size, 1, none⟩ = some (.int .i64 (n + m)) := B4.cell 1
            clear B4 k1 k2 k3 k4 n1 n2 n3 n4 m1 m2 m3 m4 q1 q2 p1 p2 HX2 hb3 hx
            generalize w3.alloc (.cells #[.slice Ar r.length cr, .int .i64 (n + m)] 63) = w4 at *
            generalize w3.heap.size = G at *
            have hO4 := hO2.below hk4 hlo2
            have hA4 := hA2.below (hk4.mono hlo2)
            have hB4 := hB2.below (hk4.mono hlo2)
            have h34 := h32.below (hk4.mono hlo2)
            have hW4 := hW2.trans (hk4.mono hlo2)
            have hlo4 : w.heap.size ≤ w4.heap.size := hW4.size
            have hai : (1 : Int) ≤ (la : Int) := by omega
            have hbi : (1 : Int) ≤ (lb : Int) := by omega
            clear hO2 hA2 hB2 h32 hW2 hk4 hlo2
            by_cases hz : n + m = 0
            · have hzb : (n + m != 0) = false := by simpa using hz
              have HZ := Lib.hid hz
              clear hz
              go_wp2_with fail
              go_quiet (fail)
              go_wp2
              go_roundw
              case rel => exact ⟨xs', ys', es, la - 1, lb - 1, ca - 1, cb - 1, _, _, rfl, rfl, HAL'.out, HBL'.out, by omega, by omega, Bag.tail1 hA4 HAL'.out hca ha0, Bag.tail1 hB4 HBL'.out hcb hb0, hO4, by rw [← HE.out, merge_gone HLT.out HLT.out HZ.out], by omega, fun p hp => HNA.out p (List.mem_cons_of_mem _ hp), fun p hp => HNB.out p (List.mem_cons_of_mem _ hp), bel_drewN hW4 _⟩
              case measure => simp [slen]; omega
            · have hzb : (n + m != 0) = true := by simpa using hz
              have HZ := Lib.hid hz
              clear hz
              go_wp2_with (at_builtin; refine wpList_append_any _ rfl (.tmp 38) (.tmp 40) 88 rfl w.heap.size 63 i0 _ 2 32 Try.underlying88 hi0 hz0 hz1 hz2 rfl (by decide) _ _ (entCells es) rfl (hO4.1.alloc _) _ (some ⟨w4.heap.size, 0, none⟩) 1 1 [.slice Ar r.length cr, .int .i64 (n + m)] rfl (reads_new2 w4 _ _ _) (by simp [Value.oneCell']) (by simp only [maxLen]; omega) (by omega) (by rw [World.size_alloc]; omega) ?_; intro v6 w6 hown6 hg6 hat6)
              obtain ⟨hO6, hk6⟩ := hO4.one hlo4 h34 x4 rfl hown6 hg6
              have hA6 := hA4.below hk6
              have hB6 := hB4.below hk6
              have hW6 := hW4.trans hk6
              clear hown6 hg6 hat6 hO4 hA4 hB4 hW4 hk6 c0 c1
              go_quiet (fail)
              go_wp2
              go_roundw
              case rel => exact ⟨xs', ys', _, la - 1, lb - 1, ca - 1, cb - 1, _, _, rfl, rfl, HAL'.out, HBL'.out, by omega, by omega, Bag.tail1 hA6 HAL'.out hca ha0, Bag.tail1 hB6 HBL'.out hcb hb0, hO6, by rw [List.map_append, List.append_assoc, ← HE.out, merge_both HLT.out HLT.out HZ.out]; rfl, by simp; omega, fun p hp => HNA.out p (List.mem_cons_of_mem _ hp), fun p hp => HNB.out p (List.mem_cons_of_mem _ hp), bel_drewN hW6 _⟩
              case measure => simp [slen]; omega
          · have B4 : Blk ((w3.setCell ⟨w2.heap.size, 0, none⟩ (.slice Ar r.length cr)).setCell ⟨w2.heap.size, 1, none⟩ (.int .i64 (n + m))) w2.heap.size 63 #[.slice Ar r.length cr, .int .i64 (n + m)] := (B3.set_ 0 (.slice Ar r.length cr)).set_ 1 (.int .i64 (n + m))
            have hk4 : Below w2.heap.size w2 ((w3.setCell ⟨w2.heap.size, 0, none⟩ (.slice Ar r.length cr)).setCell ⟨w2.heap.size, 1, none⟩ (.int .i64 (n + m))) := (hx.setCell (p := ⟨w2.heap.size, 0, none⟩) (by simp) _).setCell (p := ⟨w2.heap.size, 1, none⟩) (by simp) _
            have c0 : ((w3.setCell ⟨w2.heap.size, 0, none⟩ (.slice Ar r.length cr)).setCell ⟨w2.heap.size, 1, none⟩ (.int .i64 (n + m))).cell? ⟨w2.heap.size, 0, none⟩ = some (.slice Ar r.length cr) := B4.cell 0
            have c1 : ((w3.setCell ⟨w2.heap.size, 0, none⟩ (.slice Ar r.length cr)).setCell ⟨w2.heap.size, 1, none⟩ (.int .i64 (n + m))).cell? ⟨w2.heap.size, 1, none⟩ = some (.int .i64 (n + m)) := B4.cell 1
            clear B3 B4 g0 g1 f0 f1 k1 k2 k3 k4 n1 n2 n3 n4 m1 m2 m3 m4 q1 q2 p1 p2 HX2 hb3 hx
            generalize (w3.setCell ⟨w2.heap.size, 0, none⟩ (.slice Ar r.length cr)).setCell ⟨w2.heap.size, 1, none⟩ (.int .i64 (n + m)) = w4 at *
            have hO4 := hO2.below hk4 hlo2
            have hA4 := hA2.below (hk4.mono hlo2)
            have hB4 := hB2.below (hk4.mono hlo2)
            have h34 := h32.below (hk4.mono hlo2)
            have hW4 := hW2.trans (hk4.mono hlo2)
            have hlo4 : w.heap.size ≤ w4.heap.size := hW4.size
            have hai : (1 : Int) ≤ (la : Int) := by omega
            have hbi : (1 : Int) ≤ (lb : Int) := by omega
            clear hO2 hA2 hB2 h32 hW2 hk4 hlo2
            by_cases hz : n + m = 0
            · have hzb : (n + m != 0) = false := by simpa using hz
              have HZ := Lib.hid hz
              clear hz
              go_wp2_with fail
              go_quiet (fail)
              go_wp2
              go_roundw
              case rel => exact ⟨xs', ys', es, la - 1, lb - 1, ca - 1, cb - 1, _, _, rfl, rfl, HAL'.out, HBL'.out, by omega, by omega, Bag.tail1 hA4 HAL'.out hca ha0, Bag.tail1 hB4 HBL'.out hcb hb0, hO4, by rw [← HE.out, merge_gone HLT.out HLT.out HZ.out], by omega, fun p hp => HNA.out p (List.mem_cons_of_mem _ hp), fun p hp => HNB.out p (List.mem_cons_of_mem _ hp), bel_drewN hW4 _⟩
              case measure => simp [slen]; omega
            · have hzb : (n + m != 0) = true := by simpa using hz
              have HZ := Lib.hid hz
              clear hz
              go_wp2_with (at_builtin; refine wpList_append_any _ rfl (.tmp 38) (.tmp 40) 88 rfl w.heap.size 63 i0 _ 2 32 Try.underlying88 hi0 hz0 hz1 hz2 rfl (by decide) _ _ (entCells es) rfl (hO4.1.alloc _) _ (some ⟨w4.heap.size, 0, none⟩) 1 1 [.slice Ar r.length cr, .int .i64 (n + m)] rfl (reads_new2 w4 _ _ _) (by simp [Value.oneCell']) (by simp only [maxLen]; omega) (by omega) (by rw [World.size_alloc]; omega) ?_; intro v6 w6 hown6 hg6 hat6)
              obtain ⟨hO6, hk6⟩ := hO4.one hlo4 h34 x4 rfl hown6 hg6
              have hA6 := hA4.below hk6
              have hB6 := hB4.below hk6
              have hW6 := hW4.trans hk6
              clear hown6 hg6 hat6 hO4 hA4 hB4 hW4 hk6 c0 c1
              go_quiet (fail)
              go_wp2
              go_roundw
              case rel => exact ⟨xs', ys', _, la - 1, lb - 1, ca - 1, cb - 1, _, _, rfl, rfl, HAL'.out, HBL'.out, by omega, by omega, Bag.tail1 hA6 HAL'.out hca ha0, Bag.tail1 hB6 HBL'.out hcb hb0, hO6, by rw [List.map_append, List.append_assoc, ← HE.out, merge_both HLT.out HLT.out HZ.out]; rfl, by simp; omega, fun p hp => HNA.out p (List.mem_cons_of_mem _ hp), fun p hp => HNB.out p (List.mem_cons_of_mem _ hp), bel_drewN hW6 _⟩
              case measure => simp [slen]; omega
        · have HLT := Lib.hid hlt
          have HGT := Lib.hid (less_asymm hlt)
          clear hlt
          go_wp2_with fail
          go_region_held3 (fun w' => (w'.cell? ⟨ba, oa, none⟩ = some (.slice Ar r.length cr) ∧ w'.cell? ⟨ba, oa + 1, none⟩ = some (.int .i64 n)) ∧ (w'.cell? ⟨bb, ob, none⟩ = some (.slice Br s.length cs) ∧ w'.cell? ⟨bb, ob + 1, none⟩ = some (.int .i64 m)))
            (first | go_keep | exact ⟨⟨(hb1.cell hba').trans HX.out.1.1, (hb1.cell hba').trans HX.out.1.2⟩, ⟨(hb1.cell hbb').trans HX.out.2.1, (hb1.cell hbb').trans HX.out.2.2⟩⟩)
            (first | (go_at_call 73; refine (countLess_no Ar Br cr cs r s n m _ (by exact hia) (by exact hib) x4 y4 HGT.out).mono ?_; rintro e w1 ⟨rfl, hb1⟩))
          have hk1 : Below wr.heap.size wr w1 := (bel_drewN (Below.refl _ _) 1).trans hb1
          obtain ⟨⟨x1, x2⟩, ⟨y1, y2⟩⟩ := (show (w1.cell? ⟨ba, oa, none⟩ = some (.slice Ar r.length cr) ∧ w1.cell? ⟨ba, oa + 1, none⟩ = some (.int .i64 n)) ∧ (w1.cell? ⟨bb, ob, none⟩ = some (.slice Br s.length cs) ∧ w1.cell? ⟨bb, ob + 1, none⟩ = some (.int .i64 m)) from ⟨⟨(hk1.cell hba').trans HX.out.1.1, (hk1.cell hba').trans HX.out.1.2⟩, ⟨(hk1.cell hbb').trans HX.out.2.1, (hk1.cell hbb').trans HX.out.2.2⟩⟩)
          have HX1 := Lib.hid (And.intro (And.intro x1 x2) (And.intro y1 y2))
          have hia1 := hia.on hk1
          have hib1 := hib.on hk1
          have hba1 : ba < w1.heap.size := Nat.lt_of_lt_of_le hba' hk1.size
          have hbb1 : bb < w1.heap.size := Nat.lt_of_lt_of_le hbb' hk1.size
          go_wp2_with fail
          go_region_held3 (fun w' => (w'.cell? ⟨ba, oa, none⟩ = some (.slice Ar r.length cr) ∧ w'.cell? ⟨ba, oa + 1, none⟩ = some (.int .i64 n)) ∧ (w'.cell? ⟨bb, ob, none⟩ = some (.slice Br s.length cs) ∧ w'.cell? ⟨bb, ob + 1, none⟩ = some (.int .i64 m)))
            (first | go_keep | exact ⟨⟨(hb2.cell hba1).trans HX1.out.1.1, (hb2.cell hba1).trans HX1.out.1.2⟩, ⟨(hb2.cell hbb1).trans HX1.out.2.1, (hb2.cell hbb1).trans HX1.out.2.2⟩⟩)
            (first | (go_at_call 73; refine (countLess_yes Br Ar cs cr s r m n _ (by exact hib1) (by exact hia1) y4 x4 HLT.out).mono ?_; rintro e w2 ⟨rfl, hb2⟩))
          have hk2 : Below wr.heap.size wr w2 := bel_step hk1 ((bel_drewN (Below.refl _ _) 1).trans hb2)
          have z1 := (hk2.cell hbb').trans HX.out.2.1
          have z2 := (hk2.cell hbb').trans HX.out.2.2
          have hO1 := hO.below hk2 hlor
          have hA1 := HA.out.below (hk2.mono hlor)
          have hB1 := hB'.below (hk2.mono hlor)
          have h31 := y3.below (hk2.mono hlor)
          have hW1 := hW.trans (hk2.mono hlor)
          have hlo1 : w.heap.size ≤ w2.heap.size := hW1.size
          clear x1 x2 y1 y2 x3 y3 hia hib hia1 hib1 HX HX1 hO hW hb1 hb2 hk1 hk2 hA' hB' HA HB hba' hbb' hba1 hbb1 hlor
          go_wp2_with (at_builtin; refine wpList_append_any _ rfl (.tmp 72) (.tmp 76) 88 rfl w.heap.size 63 i0 _ 2 32 Try.underlying88 hi0 hz0 hz1 hz2 rfl (by decide) _ _ (entCells es) rfl (hO1.1.alloc _) _ (some ⟨w2.heap.size, 0, none⟩) 1 1 [.slice Br s.length cs, .int .i64 m] rfl (reads_new2 w2 _ _ _) (by simp [Value.oneCell']) (by simp only [maxLen]; omega) (by omega) (by rw [World.size_alloc]; omega) ?_; intro v6 w6 hown6 hg6 hat6)
          obtain ⟨hO6, hk6⟩ := hO1.one hlo1 h31 y4 rfl hown6 hg6
          go_roundw
          case rel => exact ⟨(r, n) :: xs', ys', _, la, lb - 1, ca, cb - 1, _, _, rfl, rfl, by have := HAL'.out; simp; omega, HBL'.out, hca, by omega, hA1.below hk6, (hB1.below hk6).tail1 HBL'.out hcb hb0, hO6, by rw [List.map_append, List.append_assoc, ← HE.out, merge_gt HLT.out]; rfl, by simp; omega, HNA.out, fun p hp => HNB.out p (List.mem_cons_of_mem _ hp), hW1.trans hk6⟩
          case measure => simp [slen]; omega
      · have hd : decide (0 < lb) = false := by simpa using hb0
        have hym : ys = [] := List.length_eq_zero_iff.1 (by have := HBL.out; omega)
        obtain ⟨fa, hfa, hRa, hIa⟩ := hA.ents
        obtain ⟨fb, hfb, hRb, hIb⟩ := hB.ents
        have hla : fa.length = la := by rw [← HAL.out, ← hfa, List.length_map]
        have hlb : fb.length = lb := by rw [← HBL.out, ← hfb, List.length_map]
        rw [HAL.out] at hRa
        rw [HBL.out] at hRb
        have HF := Lib.hid (show (es ++ fa ++ fb).map Ent.pair = M by rw [List.map_append, List.map_append, hfa, hfb, ← HE.out, hym, merge_nil', List.append_nil])
        have HLA := Lib.hid hla
        have HLB := Lib.hid hlb
        have HIA := Lib.hid hIa
        have HIB := Lib.hid hIb
        clear hfa hfb hla hlb hIa hIb hA hB hym
        go_wp2_with (first | (at_builtin; refine wpList_append_any _ rfl (.tmp 80) (.tmp 81) 88 rfl w.heap.size 63 i0 _ 2 32 Try.underlying88 hi0 hz0 hz1 hz2 rfl (by decide) _ _ (entCells es) rfl hO.1 _ A1 la ca (entCells fa) rfl hRa (entCells_one fa) (by simp only [maxLen]; omega) (by omega) hlor ?_; intro v6 w6 hown6 hg6 hat6; have hO6 := hO.grow hlor hg6 (by have := HLA.out; simp; omega) (by rw [entCells_append]) hown6 HIA.out; have hk6 : Below w.heap.size wr w6 := (Below.refl _ _).grown hg6 hlor (fun r e => (hO.1.lt r e).1); have hRb6 := hRb.below hk6; have hlo6 : w.heap.size ≤ w6.heap.size := Nat.le_trans hlor hk6.size; have hl6 : (es ++ fa).length + lb ≤ 2000000 := (by have := HLA.out; simp; omega)) | (at_builtin; refine wpList_append_any _ rfl (.tmp 83) (.tmp 84) 88 rfl w.heap.size 63 i0 _ 2 32 Try.underlying88 hi0 hz0 hz1 hz2 rfl (by decide) _ _ (entCells (es ++ fa)) rfl hO6.1 _ A2 lb cb (entCells fb) rfl hRb6 (entCells_one fb) (by simp only [maxLen]; omega) (by omega) hlo6 ?_; intro v7 w7 hown7 hg7 hat7))
        have hO7 := hO6.grow hlo6 hg7 (by have := HLB.out; simp; omega) (by rw [entCells_append (es ++ fa)]) hown7 (fun e he => ⟨(HIB.out e he).1.below hk6, (HIB.out e he).2⟩)
        have hk7 : Below w.heap.size w6 w7 := (Below.refl _ _).grown hg7 hlo6 (fun r e => (hO6.1.lt r e).1)
        go_ret
        exact ⟨_, _, rfl, hO7, HF.out, (hW.trans hk6).trans hk7⟩
    · have hd : decide (0 < la) = false := by simpa using ha0
      have hxm : xs = [] := List.length_eq_zero_iff.1 (by have := HAL.out; omega)
      obtain ⟨fa, hfa, hRa, hIa⟩ := hA.ents
      obtain ⟨fb, hfb, hRb, hIb⟩ := hB.ents
      have hla : fa.length = la := by rw [← HAL.out, ← hfa, List.length_map]
      have hlb : fb.length = lb := by rw [← HBL.out, ← hfb, List.length_map]
      rw [HAL.out] at hRa
      rw [HBL.out] at hRb
      have HF := Lib.hid (show (es ++ fa ++ fb).map Ent.pair = M by rw [List.map_append, List.map_append, hfa, hfb, ← HE.out, hxm, merge_nil, List.append_nil])
      have HLA := Lib.hid hla
      have HLB := Lib.hid hlb
      have HIA := Lib.hid hIa
      have HIB := Lib.hid hIb
      clear hfa hfb hla hlb hIa hIb hA hB hxm
      go_wp2_with (first | (at_builtin; refine wpList_append_any _ rfl (.tmp 80) (.tmp 81) 88 rfl w.heap.size 63 i0 _ 2 32 Try.underlying88 hi0 hz0 hz1 hz2 rfl (by decide) _ _ (entCells es) rfl hO.1 _ A1 la ca (entCells fa) rfl hRa (entCells_one fa) (by simp only [maxLen]; omega) (by omega) hlor ?_; intro v6 w6 hown6 hg6 hat6; have hO6 := hO.grow hlor hg6 (by have := HLA.out; simp; omega) (by rw [entCells_append]) hown6 HIA.out; have hk6 : Below w.heap.size wr w6 := (Below.refl _ _).grown hg6 hlor (fun r e => (hO.1.lt r e).1); have hRb6 := hRb.below hk6; have hlo6 : w.heap.size ≤ w6.heap.size := Nat.le_trans hlor hk6.size; have hl6 : (es ++ fa).length + lb ≤ 2000000 := (by have := HLA.out; simp; omega)) | (at_builtin; refine wpList_append_any _ rfl (.tmp 83) (.tmp 84) 88 rfl w.heap.size 63 i0 _ 2 32 Try.underlying88 hi0 hz0 hz1 hz2 rfl (by decide) _ _ (entCells (es ++ fa)) rfl hO6.1 _ A2 lb cb (entCells fb) rfl hRb6 (entCells_one fb) (by simp only [maxLen]; omega) (by omega) hlo6 ?_; intro v7 w7 hown7 hg7 hat7))
      have hO7 := hO6.grow hlo6 hg7 (by have := HLB.out; simp; omega) (by rw [entCells_append (es ++ fa)]) hown7 (fun e he => ⟨(HIB.out e he).1.below hk6, (HIB.out e he).2⟩)
      have hk7 : Below w.heap.size w6 w7 := (Below.refl _ _).grown hg7 hlo6 (fun r e => (hO6.1.lt r e).1)
      go_ret
      exact ⟨_, _, rfl, hO7, HF.out, (hW.trans hk6).trans hk7⟩
end Go.Proofs.Ytedbjjhkjkpnkaa
