/- A node read of its text: the model's l8Read; for texts of at most 2^20 bytes; nothing that lay has turned. -/
import Derived.Test.YtpadhcoboapodaaGreatDoorRv0
import Derived.Test.YtpadhcoboapodaaGreatDoorNod2
import Derived.Test.YtpadhcoboapodaaGreatDoorNodS
import Derived.Test.YtpadhcoboapodaaGreatDoorCndQ
import Derived.Deep.RegionHeld3
import Derived.Deep.DeepCutAuto
import Derived.Deep.CutBlock
namespace Go.Proofs.YtpadhcoboapodaaGreatDoor
open Go.RowKit

theorem kindW_least {t : List UInt8} {q : Nat} (h1 : 1 ≤ q) (h7 : q ≤ 7) (e : t = bl (wnx q)) : kindW t = q := by rw [e]; exact kindW_wnx h1 h7
theorem kindW_zero {t : List UInt8} (h : ∀ q, 1 ≤ q → q ≤ 7 → t ≠ bl (wnx q)) : kindW t = 0 := by
  unfold kindW
  rw [if_neg (h 1 (by omega) (by omega)), if_neg (h 2 (by omega) (by omega)), if_neg (h 3 (by omega) (by omega)), if_neg (h 4 (by omega) (by omega)), if_neg (h 5 (by omega) (by omega)), if_neg (h 6 (by omega) (by omega)), if_neg (h 7 (by omega) (by omega))]
theorem kindW_le (t : List UInt8) : kindW t ≤ 7 := by
  by_cases h : ∃ q, 1 ≤ q ∧ q ≤ 7 ∧ t = bl (wnx q)
  · obtain ⟨q, h1, h7, e⟩ := h
    rw [kindW_least h1 h7 e]; exact h7
  · rw [kindW_zero fun q h1 h7 e => h ⟨q, h1, h7, e⟩]; omega
set_option maxRecDepth 100000 in
theorem l1At_kind (g : Nat) (t : ByteArray) (w : World) (hB : Blk w g 9 wordsA) :
    Calls Tryz.prog 21 #[.slice (some ⟨g, 0, none⟩) 7 7, .string t] w fun e w' => e = .returned (.int .i64 ((kindW (bl t) : Nat) - 1)) ∧ w = w' := by
  obtain ⟨R, hR⟩ : ∃ R, kindW (bl t) = R := ⟨_, rfl⟩
  have HR := Lib.hid hR
  rw [hR]
  clear hR
  go_enter Tryz.func21, Tryz.ntmps21
  go_wp2
  go_loop [5] (fun i => ∃ k : Nat, k ≤ 7 ∧ i = .int .i64 k ∧ ∀ q, 1 ≤ q → q ≤ k → bl t ≠ bl (wnx q)) (fun i => 7 - (intOf i).toNat)
  case atStart => exact ⟨0, Nat.zero_le _, rfl, fun q h1 h2 => absurd h1 (by omega)⟩
  case round =>
    obtain ⟨k, hk, rfl, ht⟩ := hrel
    have HT := Lib.hid ht
    clear ht
    by_cases hlt : k < 7
    · have hck : w.cell? ⟨g, k, none⟩ = some (.string (wnx (k + 1))) := by
        rw [hB.cell k]; exact wordsA_get (q := k + 1) (by omega) (by omega)
      obtain ⟨X, hX⟩ : ∃ X, wnx (k + 1) = X := ⟨_, rfl⟩
      have HX := Lib.hid hX
      rw [hX] at hck
      clear hX
      have hki : (k : Int) < 7 := by omega
      have hlb : decide ((k : Int) < 7) = true := by simpa using hki
      by_cases hy : bl t = bl X
      · have hbe : (X.toList == t.toList) = true := by rw [toList_bl, toList_bl, hy]; simp
        have HM := Lib.hid (show R = k + 1 by rw [← HR.out]; exact kindW_least (by omega) (by omega) (by rw [hy, HX.out]))
        clear hy
        go_wp2
        go_ret
        exact ⟨by rw [HM.out, show (((k + 1 : Nat) : Int) - 1) = (k : Int) by omega]; rfl, rfl⟩
      · have hbe : (X.toList == t.toList) = false := by rw [toList_bl, toList_bl]; simpa using fun e : bl X = bl t => hy e.symm
        have HN := Lib.hid (show ∀ q, 1 ≤ q → q ≤ k + 1 → bl t ≠ bl (wnx q) from fun q h1 h2 => by
          by_cases e : q = k + 1
          · subst e; rw [HX.out]; exact hy
          · exact HT.out q h1 (by omega))
        clear hy
        go_wp2
        go_round
        case rel => exact ⟨k + 1, by omega, by go_num, HN.out⟩
        case measure => simp [intOf]; omega
    · obtain rfl : k = 7 := by omega
      have HM := Lib.hid (show R = 0 by rw [← HR.out]; exact kindW_zero HT.out)
      go_wp2
      go_ret
      exact ⟨by rw [HM.out]; rfl, rfl⟩
/-- A number's value, 0 where it is none. -/
def nv9 (t : List UInt8) : Int := (readNum 9 t).getD 0
theorem numAns_nv (t : List UInt8) : numAns (readNum 9 t) = .tuple #[.int .i64 (nv9 t), .bool (readNum 9 t).isSome] := by
  unfold numAns nv9
  cases readNum 9 t <;> rfl
theorem mapM_nv {a : List (List UInt8)} : (a.all fun t => (readNum 9 t).isSome) = true → a.mapM (readNum 9) = some (a.map nv9) := fun h => by
  have := mapM_map (readNum 9) id nv9 a (fun t ht => by
    have h1 := List.all_eq_true.1 h t ht
    unfold nv9
    obtain ⟨n, hn⟩ := Option.isSome_iff_exists.1 h1
    rw [id, hn]; rfl)
  rwa [List.map_id] at this
theorem mapM_nv_no {a : List (List UInt8)} (h : (a.all fun t => (readNum 9 t).isSome) = false) : a.mapM (readNum 9) = none := by
  obtain ⟨t, ht, hn⟩ := List.all_eq_false.1 h
  obtain ⟨j, hj, rfl⟩ := List.mem_iff_getElem.1 ht
  exact mapM_stop _ _ j hj (by cases hx : readNum 9 a[j] with | none => rfl | some n => rw [hx] at hn; exact absurd rfl hn)
/-- What stands behind sum: whether it is good, and the Place. -/
def sumG (o : Option (List UInt8)) : Bool := match o with | none => true | some t => (readNum 9 t).isSome && decide (0 ≤ nv9 t)
def sumP (o : Option (List UInt8)) : Int := match o with | none => -1 | some t => nv9 t
theorem readT_yes {k : Nat} {ws a : List (List UInt8)} {o : Option (List UInt8)} (h : sumCut ws = (a, o)) (hg : sumG o = true) (ha : (a.all fun t => (readNum 9 t).isSome) = true) : readT k ws = finN ⟨k, ⟨#[]⟩, [], a.map nv9, sumP o⟩ := by
  unfold readT
  rw [h]
  cases o with
  | none => simp only; rw [mapM_nv ha]; rfl
  | some t =>
    simp only
    unfold sumG at hg
    rw [Bool.and_eq_true, decide_eq_true_iff] at hg
    obtain ⟨n, hn⟩ := Option.isSome_iff_exists.1 hg.1
    have hv : nv9 t = n := by unfold nv9; rw [hn]; rfl
    rw [mapM_nv ha, hn]
    simp only
    rw [if_pos (by rw [← hv]; exact hg.2)]
    rw [show sumP (some t) = nv9 t from rfl, hv]
theorem readT_no {k : Nat} {ws a : List (List UInt8)} {o : Option (List UInt8)} (h : sumCut ws = (a, o)) (hg : (sumG o && a.all fun t => (readNum 9 t).isSome) = false) : readT k ws = none := by
  unfold readT
  rw [h]
  cases o with
  | none =>
    simp only
    unfold sumG at hg
    rw [Bool.true_and] at hg
    rw [mapM_nv_no hg]
  | some t =>
    simp only
    cases hn : readNum 9 t with
    | none => rfl
    | some n =>
      have hv : nv9 t = n := by unfold nv9; rw [hn]; rfl
      cases ha : a.all fun t => (readNum 9 t).isSome with
      | false => rw [mapM_nv_no ha]
      | true =>
        rw [mapM_nv ha]
        simp only
        rw [if_neg]
        intro hp
        rw [show sumG (some t) = ((readNum 9 t).isSome && decide (0 ≤ nv9 t)) from rfl, ha, hn, hv, decide_eq_true hp] at hg
        simp at hg
theorem blk_nrow {w : World} {base G : Nat} {t e : TypeId} {size : Nat} {v : Value} {n : Nat} {xs : List Value} {cs : Array Value} (h : Blk w G t cs) (hte : t ≠ e) (hown : w.ownsRow base e size v n xs) : some G ≠ v.ownBlock := by
  intro he
  rcases hown.2 with ⟨rfl, _⟩ | ⟨g, cap, cur, rfl, _, hg, _⟩
  · cases he
  · have : G = g := Option.some.inj he
    subst this
    unfold Blk at h
    rw [h] at hg
    injection hg with hg
    injection hg with _ h2 _
    exact hte h2
theorem words_get (w0 : ByteArray) (r : List ByteArray) (j : Nat) (h : j < r.length) : (r.map bl)[j]? = some (bl (sx (w0 :: r) (j + 1))) := by
  rw [List.getElem?_map, List.getElem?_eq_getElem h, sx_eq _ (j + 1) (by simp; omega)]
  rfl
theorem rd_none {w w' : World} (h : Below w.heap.size w w') : RdAns none w (.returned (.tuple #[.agg #[.int .i64 0, .string ⟨#[]⟩, .slice none 0 0, .slice none 0 0, .int .i64 0], .bool false])) w' :=
  ⟨0, 0, ⟨#[]⟩, none, 0, 0, none, 0, 0, rfl, h, fun d hd => by cases hd⟩
theorem fin_cases {o : Option Nd} {d : Nd} {B : Bool} (h : o = finN d) (hB : nodeB d = B) : (B = true → o = some d) ∧ (B = false → o = none) := by
  rw [h]
  unfold finN
  rw [hB]
  cases B <;> simp
theorem specN_1 {s w : List UInt8} {t : List UInt8} (h : spl 32 s = w :: [t]) (hk : kindW w = 1) : specReadN s = finN ⟨1, mkB t, [], [], -1⟩ := by unfold specReadN; rw [h]; simp only; rw [if_pos hk]
theorem specN_1n {s w : List UInt8} {ws : List (List UInt8)} (h : spl 32 s = w :: ws) (hk : kindW w = 1) (hl : ws.length ≠ 1) : specReadN s = none := by
  unfold specReadN
  rw [h]
  simp only
  rw [if_pos hk]
  match ws, hl with
  | [], _ => rfl
  | [a], h => exact absurd rfl h
  | a :: b :: q, _ => rfl
theorem specN_2 {s w : List UInt8} {t : List UInt8} (h : spl 32 s = w :: [t]) (hk : kindW w = 2) : specReadN s = if (specReadCs t).2 = true then finN ⟨2, ⟨#[]⟩, (specReadCs t).1, [], -1⟩ else none := by unfold specReadN; rw [h]; simp only; rw [if_neg (by omega), if_pos hk]
theorem specN_2n {s w : List UInt8} {ws : List (List UInt8)} (h : spl 32 s = w :: ws) (hk : kindW w = 2) (hl : ws.length ≠ 1) : specReadN s = none := by
  unfold specReadN
  rw [h]
  simp only
  rw [if_neg (by omega), if_pos hk]
  match ws, hl with
  | [], _ => rfl
  | [a], h => exact absurd rfl h
  | a :: b :: q, _ => rfl
theorem specN_3 {s w : List UInt8} {ws : List (List UInt8)} (h : spl 32 s = w :: ws) (h1 : kindW w ≠ 1) (h2 : kindW w ≠ 2) : specReadN s = readT (kindW w) ws := by unfold specReadN; rw [h]; simp only; rw [if_neg h1, if_neg h2]
theorem mkB_blV (x : ByteArray) : mkB (bl x) = x := rfl
set_option maxRecDepth 100000 in
set_option maxHeartbeats 4000000 in
theorem l8Read_any (s : ByteArray) (w : World) (hs : s.size ≤ 1048576) :
    Calls Tryz.prog 10 #[.string s] w (RdAns (specReadN (bl s)) w) := by
  obtain ⟨i0, hi0, hz0, hz1, hz2⟩ := info_parts info_i64
  have bc := (Below.refl w.heap.size w).alloc (Nat.le_refl _) (.cells #[.int .i64 0, .string ⟨#[]⟩, .slice none 0 0, .slice none 0 0, .int .i64 0] 33)
  have BR := Blk.new w 33 #[.int .i64 0, .string ⟨#[]⟩, .slice none 0 0, .slice none 0 0, .int .i64 0]
  have hsa : (w.alloc (.cells #[.int .i64 0, .string ⟨#[]⟩, .slice none 0 0, .slice none 0 0, .int .i64 0] 33)).heap.size = w.heap.size + 1 := World.size_alloc _ _
  go_enter Tryz.func10, Tryz.ntmps10
  go_wp2_with fail
  generalize w.alloc (.cells #[.int .i64 0, .string ⟨#[]⟩, .slice none 0 0, .slice none 0 0, .int .i64 0] 33) = wa at *
  refine (l1Split_any s 32 wa (by omega)).mono ?_
  rintro e w1 ⟨v, ts, rfl, hts, hown1, hb1⟩
  have hW1 := bel_step bc hb1
  have BR1 := BR.on hb1
  have hs1 : w.heap.size < w1.heap.size := by have := hb1.size; omega
  cases ts with
  | nil => exact absurd hts.symm (spl_ne 32 (bl s))
  | cons w0 r =>
  obtain ⟨g, cap, rfl, hg, hcap, hcc⟩ := own_cells1 hown1 (by simp)
  have hc0 : w1.cell? ⟨g, 0, none⟩ = some (.string w0) := hcc 0 _ rfl
  have HTS := Lib.hid hts
  obtain ⟨K, hK⟩ : ∃ K : Int, ((kindW (bl w0) : Nat) : Int) = K := ⟨_, rfl⟩
  have hk7 : 0 ≤ K ∧ K ≤ 7 := by have := kindW_le (bl w0); omega
  have hwK : IntKind.i64.wrap K = K := by rw [IntKind.wrap_i64]; omega
  have HC3 := Lib.hid (show ∀ W bk, Blk W bk 9 wordsA → Calls Tryz.prog 21 #[.slice (some ⟨bk, 0, none⟩) 7 7, .string w0] W fun e w' => e = .returned (.int .i64 (K - 1)) ∧ W = w' from fun W bk h => by rw [← hK]; exact l1At_kind bk w0 W h)
  have HKK := Lib.hid hK
  obtain ⟨n, hn⟩ : ∃ n, (w0 :: r).length = n := ⟨_, rfl⟩
  have HN := Lib.hid hn
  have HRN := Lib.hid (show r.length + 1 = n from hn)
  have hn0 : 0 < n := by rw [← hn]; simp
  have hn0i : (0 : Int) < (n : Int) := by omega
  have HCE := Lib.hid (show ∀ j, j < n → w1.cell? ⟨g, j, none⟩ = some (.string (sx (w0 :: r) j)) from fun j hj => hcc j _ (by
    have hj' : j < (w0 :: r).length := by omega
    unfold strl
    rw [List.getElem?_map, List.getElem?_eq_getElem hj', sx_eq _ j hj']
    rfl))
  rw [hn] at hcap hown1 ⊢
  have HOW := Lib.hid hown1
  have HX := Lib.hid hc0
  have m0 := World.new_ne w1 _ hc0
  have HR := Lib.hid BR1
  have HW := Lib.hid hW1
  clear BR bc hb1 hts hown1 hcc hn hK hsa
  go_wp2_with fail
  go_region_held3 (fun w' => w'.cell? ⟨g, 0, none⟩ = some (.string w0))
    (first | go_keep | exact k0)
    (first
      | (go_at_call 22; refine (l8Words_any _).mono ?_; rintro e w2 ⟨rfl, hB2, hb2⟩; (first | (have hx : Below w1.heap.size w1 w2 := (bel_drewN ((Below.refl w1.heap.size w1).alloc (Nat.le_refl _) (.cells #[.int .i64 0, .string ⟨#[]⟩, .slice none 0 0, .slice none 0 0, .int .i64 0] 33)) 1).trans (hb2.mono (by simp)); have B3 : Blk w2 w1.heap.size 33 #[.int .i64 0, .string ⟨#[]⟩, .slice none 0 0, .slice none 0 0, .int .i64 0] := ((Blk.new w1 33 #[.int .i64 0, .string ⟨#[]⟩, .slice none 0 0, .slice none 0 0, .int .i64 0]).drewN 1).below hb2 (by simp); obtain ⟨z0, z1, z2, z3, z4⟩ := B3.c5; have fz0 := B3.frozen 0; have fz1 := B3.frozen 1; have fz2 := B3.frozen 2; have fz3 := B3.frozen 3; have fz4 := B3.frozen 4; have hq2 : Blk w2 (w1.alloc (.cells #[.int .i64 0, .string ⟨#[]⟩, .slice none 0 0, .slice none 0 0, .int .i64 0] 33)).heap.size 9 wordsA := hB2; rw [World.size_alloc] at hq2) | (have hx : Below w1.heap.size w1 w2 := (bel_drewN (Below.refl _ _) 1).trans hb2)); have k0 : w2.cell? ⟨g, 0, none⟩ = some (.string w0) := (hx.cell hg).trans HX.out; have n0 := World.new_ne w2 _ k0)
      | (go_at_call 21; refine (HC3.out _ _ (by first | exact hq2 | exact hB2 | exact hB2.alloc _)).mono ?_; rintro e w3 ⟨rfl, hw3⟩; cases hw3))
  all_goals
    have hgw := hs1
    first
    | (have hbF : Below w1.heap.size w1 (((((w2.setCell ⟨w1.heap.size, 0, none⟩ (.int .i64 K)).setCell ⟨w1.heap.size, 1, none⟩ (.string ⟨#[]⟩)).setCell ⟨w1.heap.size, 2, none⟩ (.slice none 0 0)).setCell ⟨w1.heap.size, 3, none⟩ (.slice none 0 0)).setCell ⟨w1.heap.size, 4, none⟩ (.int .i64 (-1))) := (bel_set5 hx (Nat.le_refl _) _ _ _ _ _)
       have D : Blk (((((w2.setCell ⟨w1.heap.size, 0, none⟩ (.int .i64 K)).setCell ⟨w1.heap.size, 1, none⟩ (.string ⟨#[]⟩)).setCell ⟨w1.heap.size, 2, none⟩ (.slice none 0 0)).setCell ⟨w1.heap.size, 3, none⟩ (.slice none 0 0)).setCell ⟨w1.heap.size, 4, none⟩ (.int .i64 (-1))) w1.heap.size 33 #[.int .i64 K, .string ⟨#[]⟩, .slice none 0 0, .slice none 0 0, .int .i64 (-1)] := ((((B3.set_ 0 (.int .i64 K)).set_ 1 (.string ⟨#[]⟩)).set_ 2 (.slice none 0 0)).set_ 3 (.slice none 0 0)).set_ 4 (.int .i64 (-1))
       have hgd := hgw
       clear B3 z0 z1 z2 z3 z4 fz0 fz1 fz2 fz3 fz4 hq2
       generalize (((((w2.setCell ⟨w1.heap.size, 0, none⟩ (.int .i64 K)).setCell ⟨w1.heap.size, 1, none⟩ (.string ⟨#[]⟩)).setCell ⟨w1.heap.size, 2, none⟩ (.slice none 0 0)).setCell ⟨w1.heap.size, 3, none⟩ (.slice none 0 0)).setCell ⟨w1.heap.size, 4, none⟩ (.int .i64 (-1))) = wD at *
       have hgl2 : w1.heap.size < wD.heap.size := D.lt
       have hlo1 : w1.heap.size ≤ wD.heap.size := Nat.le_of_lt hgl2
       generalize w1.heap.size = gd at D hgd hgl2 ⊢)
    | (have hbF : Below w1.heap.size w1 (w2.alloc (.cells #[.int .i64 K, .string ⟨#[]⟩, .slice none 0 0, .slice none 0 0, .int .i64 (-1)] 33)) := hx.alloc hx.size _
       have D := Blk.new w2 33 #[.int .i64 K, .string ⟨#[]⟩, .slice none 0 0, .slice none 0 0, .int .i64 (-1)]
       have hgd : w.heap.size < w2.heap.size := Nat.lt_of_lt_of_le hgw hx.size
       clear hx hb2 hB2
       generalize w2.alloc (.cells #[.int .i64 K, .string ⟨#[]⟩, .slice none 0 0, .slice none 0 0, .int .i64 (-1)] 33) = wD at *
       have hgl2 : w2.heap.size < wD.heap.size := D.lt
       generalize w2.heap.size = gd at D hgd hgl2 ⊢)
    have hWD := bel_step HW.out hbF
    have RD := HR.out.on hbF
    have HCD := Lib.hid (show ∀ j, j < n → wD.cell? ⟨g, j, none⟩ = some (.string (sx (w0 :: r) j)) from fun j hj => (hbF.cell hg).trans (HCE.out j hj))
    have hgD : g < wD.heap.size := Nat.lt_of_lt_of_le hg hbF.size
    have OTD := HOW.out.kept (grown_of_below hbF) (by simp [Value.ownBlock])
    clear hbF HCE HX m0 hgw HC3 HR HW hg HOW
    have HZW := Lib.hid (show ∀ j, j < n → (sx (w0 :: r) j).size ≤ s.size from fun j hj => by
      have hj' : j < (w0 :: r).length := by rw [HN.out]; exact hj
      have h1 := cat_mem_le [32] (spl 32 (bl s)) (bl (sx (w0 :: r) j)) (by rw [← HTS.out, sx_eq _ j hj']; exact List.mem_map.2 ⟨_, List.getElem_mem hj', rfl⟩)
      rw [cat_spl, bl_length, bl_length] at h1
      exact h1)
    have hns : n ≤ s.size + 1 := by
      have h1 := spl_length 32 (bl s)
      have h2 : (bl s).count 32 ≤ (bl s).length := List.count_le_length
      rw [← HTS.out, List.length_map, HN.out] at h1
      rw [bl_length] at h2
      omega
    have HSN := Lib.hid (show spl 32 (bl s) = bl w0 :: r.map bl from HTS.out.symm)
    have d0 := D.cell 0
    have hd0 : wD.cell? ⟨gd, 0, none⟩ = some (.int .i64 K) := d0
    clear d0
    by_cases hK1 : K = 1
    · subst hK1
      have hk1 : kindW (bl w0) = 1 := by have := HKK.out; omega
      by_cases hn2 : n = 2
      · subst hn2
        obtain ⟨x, rfl⟩ : ∃ x, r = [x] := List.length_eq_one_iff.1 (by have := HRN.out; omega)
        have hc1 : wD.cell? ⟨g, 1, none⟩ = some (.string x) := HCD.out 1 (by omega)
        have hxs : x.size ≤ s.size := HZW.out 1 (by omega)
        have DWx : Blk (wD.setCell ⟨gd, 1, none⟩ (.string x)) gd 33 #[.int .i64 1, .string x, .slice none 0 0, .slice none 0 0, .int .i64 (-1)] := D.set_ 1 (.string x)
        have RWx := Blk.far (p := ⟨gd, 1, none⟩) RD (by simp only; omega) (.string x)
        have hWx := hWD.setCell (p := ⟨gd, 1, none⟩) (by simp only; omega) (.string x)
        obtain ⟨B, hB⟩ : ∃ B, nodeB ⟨1, x, [], [], -1⟩ = B := ⟨_, rfl⟩
        have HNO := Lib.hid (show Calls Tryz.prog 25 #[.agg #[.int .i64 1, .string x, .slice none 0 0, .slice none 0 0, .int .i64 (-1)]] (wD.setCell ⟨gd, 1, none⟩ (.string x)) (fun e w' => e = .returned (.bool B) ∧ Below (wD.setCell ⟨gd, 1, none⟩ (.string x)).heap.size (wD.setCell ⟨gd, 1, none⟩ (.string x)) w') from by
          rw [← hB]
          exact specNodeOk_any ⟨1, x, [], [], -1⟩ none 0 none 0 _ (fun hn => absurd hn (by simp)) (fun hn => absurd hn (by simp)) ⟨by show x.size ≤ 1048576; omega, Nat.zero_le _, Nat.zero_le _⟩)
        have HYN := Lib.hid (fin_cases (o := specReadN (bl s)) (by rw [specN_1 HSN.out hk1]; rfl) hB)
        have HNR := Lib.hid (show NRow (wD.setCell ⟨gd, 1, none⟩ (.string x)) ⟨⟨1, x, [], [], -1⟩, none, 0, w.heap.size, none, 0, w.heap.size⟩ from ⟨fun hn => absurd hn (by simp), fun hn => absurd hn (by simp)⟩)
        have HLO := Lib.hid (show w.heap.size ≤ w.heap.size ∧ w.heap.size ≤ w.heap.size from ⟨Nat.le_refl _, Nat.le_refl _⟩)
        obtain ⟨e0, e1, e2, e3, e4⟩ := D.c5
        have ef := D.frozen 1
        clear D RD hWD hB hxs hns
        obtain ⟨c0, c1, c2, c3, c4⟩ := DWx.c5
        go_wp2_with fail
        refine HNO.out.mono ?_
        rintro e w6 ⟨rfl, hb6⟩
        have hW6 := bel_step hWx hb6
        have DW6 := DWx.on hb6
        have RW6 := RWx.on hb6
        have HNR6 := HNR.out.on hb6
        obtain ⟨x0, x1, x2, x3, x4⟩ := DW6.c5
        obtain ⟨y0, y1, y2, y3, y4⟩ := RW6.c5
        have q0 := RW6.frozen 0
        have q1 := RW6.frozen 1
        have q2 := RW6.frozen 2
        have q3 := RW6.frozen 3
        have q4 := RW6.frozen 4
        have HB := Lib.hid (bel_set5 hW6 (Nat.le_refl _) (.int .i64 1) (.string x) (.slice none 0 0) (.slice none 0 0) (.int .i64 (-1)))
        have HB0 := Lib.hid (bel_set5 hW6 (Nat.le_refl _) (.int .i64 0) (.string ⟨#[]⟩) (.slice none 0 0) (.slice none 0 0) (.int .i64 0))
        have HRS := Lib.hid (HNR6.set5 RW6 0 1 2 3 4 (.int .i64 1) (.string x) (.slice none 0 0) (.slice none 0 0) (.int .i64 (-1)))
        clear c0 c1 c2 c3 c4 hW6 DW6 RW6 HNR6 DWx RWx hWx
        cases B with
        | false =>
          have HD := Lib.hid (HYN.out.2 rfl)
          go_wp2
          refine bodyPost_ret (v := .tuple #[.agg #[.int .i64 0, .string ⟨#[]⟩, .slice none 0 0, .slice none 0 0, .int .i64 0], .bool false]) (by simp [results, Tryz.f10, go_sem, *]) rfl ?_
          rw [HD.out]
          exact rd_none HB0.out
        | true =>
          have HD := Lib.hid (HYN.out.1 rfl)
          go_wp2
          refine bodyPost_ret (v := .tuple #[.agg #[.int .i64 1, .string x, .slice none 0 0, .slice none 0 0, .int .i64 (-1)], .bool true]) (by simp [results, Tryz.f10, go_sem, *]) rfl ?_
          rw [HD.out]
          refine ⟨1, -1, x, none, 0, 0, none, 0, 0, rfl, HB.out, fun d hd => ?_⟩
          obtain rfl := Option.some.inj hd
          exact ⟨rfl, rfl, rfl, rfl, rfl, _, _, HLO.out.1, HLO.out.2, HRS.out.1, HRS.out.2⟩
      · have hnb : ((n : Int) == 2) = false := by rw [beq_eq_false_iff_ne]; omega
        have HD := Lib.hid (show specReadN (bl s) = none by exact specN_1n HSN.out hk1 (by rw [List.length_map]; have := HRN.out; omega))
        have RWx := RD
        have hWx := hWD
        obtain ⟨e0, e1, e2, e3, e4⟩ := D.c5
        clear D RD hWD
        obtain ⟨y0, y1, y2, y3, y4⟩ := RWx.c5
        have q0 := RWx.frozen 0
        have q1 := RWx.frozen 1
        have q2 := RWx.frozen 2
        have q3 := RWx.frozen 3
        have q4 := RWx.frozen 4
        have HB0 := Lib.hid (bel_set5 hWx (Nat.le_refl _) (.int .i64 0) (.string ⟨#[]⟩) (.slice none 0 0) (.slice none 0 0) (.int .i64 0))
        go_wp2
        refine bodyPost_ret (v := .tuple #[.agg #[.int .i64 0, .string ⟨#[]⟩, .slice none 0 0, .slice none 0 0, .int .i64 0], .bool false]) (by simp [results, Tryz.f10, go_sem, *]) rfl ?_
        rw [HD.out]
        exact rd_none HB0.out
    · by_cases hK2 : K = 2
      · subst hK2
        have hk2 : kindW (bl w0) = 2 := by have := HKK.out; omega
        by_cases hn2 : n = 2
        · subst hn2
          obtain ⟨x, rfl⟩ : ∃ x, r = [x] := List.length_eq_one_iff.1 (by have := HRN.out; omega)
          have hc1 : wD.cell? ⟨g, 1, none⟩ = some (.string x) := HCD.out 1 (by omega)
          have hxs : x.size ≤ s.size := HZW.out 1 (by omega)
          obtain ⟨e0, e1, e2, e3, e4⟩ := D.c5
          go_wp2_with fail
          refine (specReadConds_any x wD (by omega)).mono ?_
          rintro e w4 ⟨v, rfl, hown, hb4⟩
          obtain ⟨Ac, cc, gc, rfl, hgc, hrow⟩ := crow_of_own hown
          have hW4 := bel_step hWD hb4
          have D4 := D.on hb4
          have R4 := RD.on hb4
          have hl3 := specReadCs_len (bl x)
          have hSP := specN_2 HSN.out hk2
          obtain ⟨L, b, hLb⟩ : ∃ L b, specReadCs (bl x) = (L, b) := ⟨_, _, rfl⟩
          simp only [hLb] at hSP hrow hl3 ⊢
          have DWx : Blk (w4.setCell ⟨gd, 2, none⟩ (.slice Ac L.length cc)) gd 33 #[.int .i64 2, .string ⟨#[]⟩, .slice Ac L.length cc, .slice none 0 0, .int .i64 (-1)] := D4.set_ 2 (.slice Ac L.length cc)
          have RWx := Blk.far (p := ⟨gd, 2, none⟩) R4 (by simp only; omega) (.slice Ac L.length cc)
          have hWx := hW4.setCell (p := ⟨gd, 2, none⟩) (by simp only; omega) (.slice Ac L.length cc)
          have hrow2 := hrow.far (p := ⟨gd, 2, none⟩) (by simp only; omega) (.slice Ac L.length cc)
          have ef := D4.frozen 2
          clear e0 e1 e2 e3 e4
          obtain ⟨e0, e1, e2, e3, e4⟩ := D4.c5
          have HLO := Lib.hid (show w.heap.size ≤ gc ∧ w.heap.size ≤ w.heap.size from ⟨by have := hWD.size; omega, Nat.le_refl _⟩)
          clear D RD hWD D4 R4 hW4 hrow hown hgc hb4 hLb
          cases b with
          | false =>
            have HD := Lib.hid (show specReadN (bl s) = none by rw [hSP]; rfl)
            clear hSP DWx hrow2
            obtain ⟨y0, y1, y2, y3, y4⟩ := RWx.c5
            have q0 := RWx.frozen 0
            have q1 := RWx.frozen 1
            have q2 := RWx.frozen 2
            have q3 := RWx.frozen 3
            have q4 := RWx.frozen 4
            have HB0 := Lib.hid (bel_set5 hWx (Nat.le_refl _) (.int .i64 0) (.string ⟨#[]⟩) (.slice none 0 0) (.slice none 0 0) (.int .i64 0))
            go_wp2
            refine bodyPost_ret (v := .tuple #[.agg #[.int .i64 0, .string ⟨#[]⟩, .slice none 0 0, .slice none 0 0, .int .i64 0], .bool false]) (by simp [results, Tryz.f10, go_sem, *]) rfl ?_
            rw [HD.out]
            exact rd_none HB0.out
          | true =>
            obtain ⟨B, hB⟩ : ∃ B, nodeB ⟨2, ⟨#[]⟩, L, [], -1⟩ = B := ⟨_, rfl⟩
            have HNO := Lib.hid (show Calls Tryz.prog 25 #[.agg #[.int .i64 2, .string ⟨#[]⟩, .slice Ac L.length cc, .slice none 0 0, .int .i64 (-1)]] (w4.setCell ⟨gd, 2, none⟩ (.slice Ac L.length cc)) (fun e w' => e = .returned (.bool B) ∧ Below (w4.setCell ⟨gd, 2, none⟩ (.slice Ac L.length cc)).heap.size (w4.setCell ⟨gd, 2, none⟩ (.slice Ac L.length cc)) w') from by
              rw [← hB]
              exact specNodeOk_any ⟨2, ⟨#[]⟩, L, [], -1⟩ Ac cc none 0 _ hrow2.cnds (fun hn => absurd hn (by simp)) ⟨Nat.zero_le _, by show L.length ≤ 1048576; omega, Nat.zero_le _⟩)
            have HYN := Lib.hid (fin_cases (o := specReadN (bl s)) (by rw [hSP]; rfl) hB)
            have HNR := Lib.hid (show NRow (w4.setCell ⟨gd, 2, none⟩ (.slice Ac L.length cc)) ⟨⟨2, ⟨#[]⟩, L, [], -1⟩, Ac, cc, gc, none, 0, w.heap.size⟩ from ⟨hrow2, fun hn => absurd hn (by simp)⟩)
            clear hB hxs hns hSP hrow2
            obtain ⟨c0, c1, c2, c3, c4⟩ := DWx.c5
            go_wp2_with fail
            refine HNO.out.mono ?_
            rintro e w6 ⟨rfl, hb6⟩
            have hW6 := bel_step hWx hb6
            have DW6 := DWx.on hb6
            have RW6 := RWx.on hb6
            have HNR6 := HNR.out.on hb6
            obtain ⟨x0, x1, x2, x3, x4⟩ := DW6.c5
            obtain ⟨y0, y1, y2, y3, y4⟩ := RW6.c5
            have q0 := RW6.frozen 0
            have q1 := RW6.frozen 1
            have q2 := RW6.frozen 2
            have q3 := RW6.frozen 3
            have q4 := RW6.frozen 4
            have HB := Lib.hid (bel_set5 hW6 (Nat.le_refl _) (.int .i64 2) (.string ⟨#[]⟩) (.slice Ac L.length cc) (.slice none 0 0) (.int .i64 (-1)))
            have HB0 := Lib.hid (bel_set5 hW6 (Nat.le_refl _) (.int .i64 0) (.string ⟨#[]⟩) (.slice none 0 0) (.slice none 0 0) (.int .i64 0))
            have HRS := Lib.hid (HNR6.set5 RW6 0 1 2 3 4 (.int .i64 2) (.string ⟨#[]⟩) (.slice Ac L.length cc) (.slice none 0 0) (.int .i64 (-1)))
            clear c0 c1 c2 c3 c4 hW6 DW6 RW6 HNR6 DWx RWx hWx
            cases B with
            | false =>
              have HD := Lib.hid (HYN.out.2 rfl)
              go_wp2
              refine bodyPost_ret (v := .tuple #[.agg #[.int .i64 0, .string ⟨#[]⟩, .slice none 0 0, .slice none 0 0, .int .i64 0], .bool false]) (by simp [results, Tryz.f10, go_sem, *]) rfl ?_
              rw [HD.out]
              exact rd_none HB0.out
            | true =>
              have HD := Lib.hid (HYN.out.1 rfl)
              go_wp2
              refine bodyPost_ret (v := .tuple #[.agg #[.int .i64 2, .string ⟨#[]⟩, .slice Ac L.length cc, .slice none 0 0, .int .i64 (-1)], .bool true]) (by simp [results, Tryz.f10, go_sem, *]) rfl ?_
              rw [HD.out]
              refine ⟨2, -1, ⟨#[]⟩, Ac, L.length, cc, none, 0, 0, rfl, HB.out, fun d hd => ?_⟩
              obtain rfl := Option.some.inj hd
              exact ⟨rfl, rfl, rfl, rfl, rfl, _, _, HLO.out.1, HLO.out.2, HRS.out.1, HRS.out.2⟩
        · have hnb : ((n : Int) == 2) = false := by rw [beq_eq_false_iff_ne]; omega
          have HD := Lib.hid (show specReadN (bl s) = none by exact specN_2n HSN.out hk2 (by rw [List.length_map]; have := HRN.out; omega))
          have RWx := RD
          have hWx := hWD
          obtain ⟨e0, e1, e2, e3, e4⟩ := D.c5
          clear D RD hWD
          obtain ⟨y0, y1, y2, y3, y4⟩ := RWx.c5
          have q0 := RWx.frozen 0
          have q1 := RWx.frozen 1
          have q2 := RWx.frozen 2
          have q3 := RWx.frozen 3
          have q4 := RWx.frozen 4
          have HB0 := Lib.hid (bel_set5 hWx (Nat.le_refl _) (.int .i64 0) (.string ⟨#[]⟩) (.slice none 0 0) (.slice none 0 0) (.int .i64 0))
          go_wp2
          refine bodyPost_ret (v := .tuple #[.agg #[.int .i64 0, .string ⟨#[]⟩, .slice none 0 0, .slice none 0 0, .int .i64 0], .bool false]) (by simp [results, Tryz.f10, go_sem, *]) rfl ?_
          rw [HD.out]
          exact rd_none HB0.out
      · have hk1b : (K == 1) = false := by rw [beq_eq_false_iff_ne]; exact hK1
        have hk2b : (K == 2) = false := by rw [beq_eq_false_iff_ne]; exact hK2
        have HSP := Lib.hid (specN_3 HSN.out (by have := HKK.out; omega) (by have := HKK.out; omega))
        have HAJ := Lib.hid (show ∀ j, j + 1 < n → (r.map bl)[j]? = some (bl (sx (w0 :: r) (j + 1))) from fun j hj => words_get w0 r j (by have := HRN.out; omega))
        obtain ⟨e0, e1, e2, e3, e4⟩ := D.c5
        have ef := D.frozen 4
        obtain ⟨lo, hlo⟩ : ∃ lo, wa.heap.size = lo := ⟨_, rfl⟩
        rw [hlo] at OTD
        have HD0 := Lib.hid (And.intro D (And.intro RD (And.intro hWD OTD)))
        clear D RD hWD OTD hlo
        obtain ⟨y, hyy⟩ : ∃ y, sx (w0 :: r) (n - 2) = y := ⟨_, rfl⟩
        have HY := Lib.hid hyy
        have hns2 := hns
        go_upto_region 6 with fail
        go_cut [35] (fun v35 wx => ∃ bb : Bool, v35 = .bool bb ∧ wx = wD ∧ (bb = true ↔ (2 < n ∧ bl y = sumL)))
        case first =>
          by_cases h2 : 2 < n
          · have hd2 : decide ((2 : Int) < (n : Int)) = true := by simp; omega
            obtain ⟨m2, hm2⟩ : ∃ m2, n = m2 + 2 := ⟨n - 2, by omega⟩
            have hw2 : IntKind.i64.wrap ((n : Int) - 2) = (m2 : Int) := by rw [IntKind.wrap_i64]; omega
            have h20 : (0 : Int) ≤ (m2 : Int) := by omega
            have h21 : (m2 : Int) < (n : Int) := by omega
            have hc2 := HCD.out m2 (by omega)
            rw [show sx (w0 :: r) m2 = y by rw [← HY.out, show n - 2 = m2 by omega]] at hc2
            have H2 := Lib.hid h2
            clear hm2 h2 hyy
            by_cases hy : bl y = sumL
            · have hyb : (y.toList == [115, 117, 109]) = true := by rw [toList_bl, hy]; rfl
              have HYS := Lib.hid hy
              clear hy
              go_wp2
              go_meet
              exact ⟨true, rfl, rfl, by simp [H2.out, HYS.out]⟩
            · have hyb : (y.toList == [115, 117, 109]) = false := by rw [toList_bl, beq_eq_false_iff_ne]; exact hy
              have HYS := Lib.hid hy
              clear hy
              go_wp2
              go_meet
              exact ⟨false, rfl, rfl, by simp [HYS.out]⟩
          · have hd2 : decide ((2 : Int) < (n : Int)) = false := by simp; omega
            have H2 := Lib.hid h2
            clear h2 hyy
            go_wp2
            go_meet
            exact ⟨false, rfl, rfl, by simp [H2.out]⟩
        case rest =>
        obtain ⟨bb, rfl, hwx, hbb⟩ := hcut
        have hwx2 := hwx.symm
        subst hwx2
        clear hyy hwx
        have HBB := Lib.hid hbb
        clear hbb
        go_upto_if 35 with fail
        go_cut [6, 7] (fun v6 v7 wx => ∃ (m : Nat) (a : List (List UInt8)) (o : Option (List UInt8)), v6 = .bool (sumG o) ∧ v7 = .int .i64 m ∧ sumCut (r.map bl) = (a, o) ∧ a.length + 1 = m ∧ m ≤ n ∧ (∀ j, j < a.length → a[j]? = some (bl (sx (w0 :: r) (j + 1)))) ∧ Blk wx gd 33 #[.int .i64 K, .string ⟨#[]⟩, .slice none 0 0, .slice none 0 0, .int .i64 (sumP o)] ∧ Blk wx w.heap.size 33 #[.int .i64 0, .string ⟨#[]⟩, .slice none 0 0, .slice none 0 0, .int .i64 0] ∧ wx.ownsRow lo 9 1 (.slice (some ⟨g, 0, none⟩) n cap) n (strl (w0 :: r)) ∧ Below w.heap.size w wx)
        case first =>
          cases bb with
          | true =>
            obtain ⟨h2, hy⟩ := HBB.out.1 rfl
            obtain ⟨m2, hm2⟩ : ∃ m2, n = m2 + 2 := ⟨n - 2, by omega⟩
            have hw2 : IntKind.i64.wrap ((n : Int) - 2) = (m2 : Int) := by rw [IntKind.wrap_i64]; omega
            have hw1 : IntKind.i64.wrap ((n : Int) - 1) = ((m2 + 1 : Nat) : Int) := by rw [IntKind.wrap_i64]; omega
            have h10 : (0 : Int) ≤ ((m2 + 1 : Nat) : Int) := by omega
            have h11 : ((m2 + 1 : Nat) : Int) < (n : Int) := by omega
            have hc1 := HCD.out (m2 + 1) (by omega)
            have hz1 := HZW.out (m2 + 1) (by omega)
            have hrl : (r.map bl).length = m2 + 1 := by rw [List.length_map]; have := HRN.out; omega
            have hb1 : (r.map bl)[m2]? = some (bl (sx (w0 :: r) (m2 + 1))) := HAJ.out m2 (by omega)
            have hm0 : 0 < m2 := by omega
            have hb2 : (r.map bl)[m2 - 1]? = some (bl y) := by
              have := HAJ.out (m2 - 1) (by omega)
              rw [show m2 - 1 + 1 = n - 2 by omega, HY.out] at this
              exact this
            have HSC := Lib.hid (show sumCut (r.map bl) = ((r.map bl).take (m2 - 1), some (bl (sx (w0 :: r) (m2 + 1)))) by
              unfold sumCut
              rw [hrl, if_pos ⟨by omega, by rw [show m2 + 1 - 2 = m2 - 1 by omega, hb2, hy]⟩, show m2 + 1 - 2 = m2 - 1 by omega, show m2 + 1 - 1 = m2 by omega, hb1])
            have HAL := Lib.hid (show (((r.map bl).take (m2 - 1)).length + 1 = m2 ∧ m2 ≤ n) ∧ ∀ j, j < ((r.map bl).take (m2 - 1)).length → ((r.map bl).take (m2 - 1))[j]? = some (bl (sx (w0 :: r) (j + 1))) from ⟨⟨by rw [List.length_take]; omega, by omega⟩, fun j hj => by
              rw [List.length_take] at hj
              rw [List.getElem?_take, if_pos (by omega)]
              exact HAJ.out j (by omega)⟩)
            clear hb1 hb2 hrl hy hm2 h2
            generalize sx (w0 :: r) (m2 + 1) = z at *
            go_wp2_with fail
            refine (l1Read_any z wD (by omega)).mono ?_
            rintro e w' ⟨rfl, hww⟩
            cases hww
            rw [numAns_nv]
            have HG := Lib.hid (show sumG (some (bl z)) = ((readNum 9 (bl z)).isSome && decide (0 ≤ nv9 (bl z))) from rfl)
            have HP := Lib.hid (show sumP (some (bl z)) = nv9 (bl z) from rfl)
            have B4 : Blk (wD.setCell ⟨gd, 4, none⟩ (.int .i64 (nv9 (bl z)))) gd 33 #[.int .i64 K, .string ⟨#[]⟩, .slice none 0 0, .slice none 0 0, .int .i64 (nv9 (bl z))] := HD0.out.1.set_ 4 (.int .i64 (nv9 (bl z)))
            have HB4 := Lib.hid (And.intro B4 (And.intro (Blk.far (p := ⟨gd, 4, none⟩) HD0.out.2.1 (by simp only; omega) (.int .i64 (nv9 (bl z)))) (And.intro (HD0.out.2.2.2.kept (grown_setCell wD gd 4 (.int .i64 (nv9 (bl z)))) (.inr fun e => blk_nrow HD0.out.1 (by decide) HD0.out.2.2.2 e.symm)) (HD0.out.2.2.1.setCell (p := ⟨gd, 4, none⟩) (by simp only; omega) (.int .i64 (nv9 (bl z)))))))
            clear B4
            generalize nv9 (bl z) = P at *
            generalize (readNum 9 (bl z)).isSome = ib at *
            cases ib with
            | false =>
              go_wp2
              go_meet
              exact ⟨m2, _, _, by rw [HG.out]; rfl, rfl, HSC.out, HAL.out.1.1, HAL.out.1.2, HAL.out.2, by rw [HP.out]; exact HB4.out.1, HB4.out.2.1, HB4.out.2.2.1, HB4.out.2.2.2⟩
            | true =>
              go_wp2
              go_meet
              exact ⟨m2, _, _, by rw [HG.out]; rfl, rfl, HSC.out, HAL.out.1.1, HAL.out.1.2, HAL.out.2, by rw [HP.out]; exact HB4.out.1, HB4.out.2.1, HB4.out.2.2.1, HB4.out.2.2.2⟩
          | false =>
            have HRL := Lib.hid (show (r.map bl).length + 1 = n by rw [List.length_map]; exact HRN.out)
            have HSC := Lib.hid (show sumCut (r.map bl) = (r.map bl, none) by
              have hrl := HRL.out
              unfold sumCut
              rw [if_neg]
              rintro ⟨h1, h⟩
              have h3 := HAJ.out (n - 3) (by omega)
              rw [show (r.map bl).length - 2 = n - 3 by omega, h3, show n - 3 + 1 = n - 2 by omega, HY.out] at h
              have := HBB.out.2 ⟨by omega, Option.some.inj h⟩
              cases this)
            go_wp2
            go_meet
            exact ⟨n, _, none, rfl, rfl, HSC.out, HRL.out, Nat.le_refl _, fun j hj => HAJ.out j (by have := HRL.out; omega), HD0.out.1, HD0.out.2.1, HD0.out.2.2.2, HD0.out.2.2.1⟩
        case rest =>
          obtain ⟨m, a, o, rfl, rfl, hsc, ham, hmn, haj, BC, RC, OC, hWC⟩ := hcut
          have HAJ2 := Lib.hid haj
          have HAM := Lib.hid ham
          obtain ⟨G, hG⟩ : ∃ G, sumG o = G := ⟨_, rfl⟩
          obtain ⟨P, hP⟩ : ∃ P, sumP o = P := ⟨_, rfl⟩
          have HYES := Lib.hid (show (G && a.all fun t => (readNum 9 t).isSome) = true → specReadN (bl s) = finN ⟨K, ⟨#[]⟩, [], a.map nv9, P⟩ from fun h => by
            rw [Bool.and_eq_true] at h
            rw [HSP.out, readT_yes hsc (by rw [hG]; exact h.1) h.2, HKK.out, hP])
          have HNO2 := Lib.hid (show (G && a.all fun t => (readNum 9 t).isSome) = false → specReadN (bl s) = none from fun h => by
            rw [HSP.out, readT_no hsc (by rw [hG]; exact h)])
          rw [hP] at BC
          have hm1 : 1 ≤ m := by omega
          rw [hG]
          clear hsc haj ham hG hP HD0 HSP HAJ e0 e1 e2 e3 e4 ef HCD
          go_wp2_with fail
          go_loopw [6, 10] (fun v6 i wr => ∃ (j : Nat) (V : Value), j + 1 ≤ m ∧ i = .int .i64 ((j + 1 : Nat) : Int) ∧ v6 = .bool (G && (a.take j).all fun t => (readNum 9 t).isSome) ∧ Blk wr gd 33 #[.int .i64 K, .string ⟨#[]⟩, .slice none 0 0, V, .int .i64 P] ∧ Blk wr w.heap.size 33 #[.int .i64 0, .string ⟨#[]⟩, .slice none 0 0, .slice none 0 0, .int .i64 0] ∧ wr.ownsRow lo 9 1 (.slice (some ⟨g, 0, none⟩) n cap) n (strl (w0 :: r)) ∧ wr.ownsRow w.heap.size 2 1 V j (((a.take j).map nv9).map (Value.int .i64)) ∧ Below w.heap.size w wr) (fun _ i _ => m - (intOf i).toNat)
          case atStart => exact ⟨0, .slice none 0 0, by omega, rfl, by simp, BC, RC, OC, World.ownsRow_nil _ _ _ _, hWC⟩
          case round =>
            clear BC RC OC hWC
            obtain ⟨j, V, hj, rfl, rfl, B, R, O, hV, hW⟩ := hrel
            obtain ⟨AV, cV, rfl⟩ := own_form hV
            by_cases hlt : j + 1 < m
            · have hlb : decide (((j + 1 : Nat) : Int) < (m : Int)) = true := by simp; omega
              have hji0 : (0 : Int) ≤ ((j + 1 : Nat) : Int) := by omega
              have hjin : ((j + 1 : Nat) : Int) < (n : Int) := by omega
              have hja : j < a.length := by have := HAM.out; omega
              obtain ⟨g', cap', hgv, hgl, _, hcells⟩ := own_cells1 O hn0
              have hgg : g' = g := by injection hgv with e1; injection e1 with e1; injection e1 with e1; exact e1.symm
              subst hgg
              have hjl : j + 1 < (w0 :: r).length := by rw [HN.out]; omega
              have hcj : wr.cell? ⟨g', j + 1, none⟩ = some (.string (sx (w0 :: r) (j + 1))) := hcells (j + 1) _ (by
                unfold strl
                rw [List.getElem?_map, List.getElem?_eq_getElem hjl, sx_eq _ _ hjl]
                rfl)
              have hzz := HZW.out (j + 1) (by omega)
              obtain ⟨z, hz⟩ : ∃ z, sx (w0 :: r) (j + 1) = z := ⟨_, rfl⟩
              rw [hz] at hcj hzz
              have hax : a[j]? = some (bl z) := by rw [← hz]; exact HAJ2.out j hja
              have HA1 := Lib.hid (show (a.take (j + 1)).map nv9 = (a.take j).map nv9 ++ [nv9 (bl z)] by rw [List.take_add_one, hax]; simp)
              have HA2 := Lib.hid (show (a.take (j + 1)).all (fun t => (readNum 9 t).isSome) = ((a.take j).all (fun t => (readNum 9 t).isSome) && (readNum 9 (bl z)).isSome) by rw [List.take_add_one, hax]; simp)
              clear hcells hgv hz hax hjl
              obtain ⟨c0, c1, c2, c3, c4⟩ := B.c5
              have fq := B.frozen 3
              obtain ⟨gb, hgb⟩ : ∃ gb, (G && (a.take j).all fun t => (readNum 9 t).isSome) = gb := ⟨_, rfl⟩
              have HGB := Lib.hid hgb
              rw [hgb]
              have HST := Lib.hid (And.intro B (And.intro R (And.intro O (And.intro hV hW))))
              have hsw := hW.size
              clear hgb B R O hV hW
              go_wp2_with fail
              refine (l1Read_any z wr (by omega)).mono ?_
              rintro e w' ⟨rfl, hww⟩
              cases hww
              rw [numAns_nv]
              generalize nv9 (bl z) = q at *
              generalize (readNum 9 (bl z)).isSome = ib at *
              cases gb
              all_goals
                go_wp2_with (at_builtin; refine wpList_append_any _ (by rfl) (.tmp 72) (.tmp 74) 31 (by rfl) w.heap.size 2 i0 (.int .i64 0) 1 8 Tryz.underlying31 hi0 hz0 hz1 hz2 rfl (by decide) (.slice AV j cV) j (((a.take j).map nv9).map (Value.int .i64)) (by rfl) (HST.out.2.2.2.1.alloc _) _ (some ⟨wr.heap.size, 0, none⟩) 1 1 [.int .i64 q] (by rfl) (reads_newP _ _ _) (by simp [Value.oneCell']) (by simp only [maxLen]; omega) (by omega) (by rw [World.size_alloc]; omega) ?_; intro v3 w3 hown3 hgrow3 _; obtain ⟨A3, c3, hv3⟩ := own_form hown3; subst hv3; have B3 := (HST.out.1.alloc (.cells #[.int .i64 q] 2)).grown hgrow3 (blk_nrow (HST.out.1.alloc (.cells #[.int .i64 q] 2)) (by decide) (HST.out.2.2.2.1.alloc (.cells #[.int .i64 q] 2))); have f3 := B3.frozen 3; obtain ⟨b0, b1, b2, b3, b4⟩ := B3.c5)
                have R3 := (HST.out.2.1.alloc (.cells #[.int .i64 q] 2)).grown hgrow3 (blk_nrow (HST.out.2.1.alloc (.cells #[.int .i64 q] 2)) (by decide) (HST.out.2.2.2.1.alloc (.cells #[.int .i64 q] 2)))
                have O3 := (HST.out.2.2.1.alloc (.cells #[.int .i64 q] 2)).kept hgrow3 (own_ne (HST.out.2.2.1.alloc (.cells #[.int .i64 q] 2)) (HST.out.2.2.2.1.alloc (.cells #[.int .i64 q] 2)) (by decide))
                have W3 : Below w.heap.size w w3 := (HST.out.2.2.2.2.alloc hsw _).grown hgrow3 (by rw [World.size_alloc]; omega) (fun g hg => (HST.out.2.2.2.1.lt g hg).1)
                have B4 : Blk (w3.setCell ⟨gd, 3, none⟩ (.slice A3 (j + 1) c3)) gd 33 #[.int .i64 K, .string ⟨#[]⟩, .slice none 0 0, (.slice A3 (j + 1) c3), .int .i64 P] := B3.set_ 3 (.slice A3 (j + 1) c3)
                have R4 := Blk.far (p := ⟨gd, 3, none⟩) R3 (by simp only; omega) (.slice A3 (j + 1) c3)
                have O4 := O3.kept (grown_setCell w3 gd 3 (.slice A3 (j + 1) c3)) (.inr fun e => blk_nrow B3 (by decide) O3 e.symm)
                have V4 := hown3.kept (grown_setCell w3 gd 3 (.slice A3 (j + 1) c3)) (.inr fun e => blk_nrow B3 (by decide) hown3 e.symm)
                have W4 := W3.setCell (p := ⟨gd, 3, none⟩) (by simp only; omega) (.slice A3 (j + 1) c3)
                have HEQ := Lib.hid (show ((a.take (j + 1)).map nv9).map (Value.int .i64) = ((a.take j).map nv9).map (Value.int .i64) ++ [.int .i64 q] by rw [HA1.out, List.map_append]; rfl)
                rw [← HEQ.out] at V4
                clear B3 R3 O3 W3 hown3 hgrow3 f3 b0 b1 b2 b3 b4
                go_roundw
                case rel => exact ⟨j + 1, (.slice A3 (j + 1) c3), by omega, by go_num, by rw [HA2.out, ← Bool.and_assoc, HGB.out]; simp, B4, R4, O4, V4, W4⟩
                case measure => simp [intOf]; omega
            · have hlb : decide (((j + 1 : Nat) : Int) < (m : Int)) = false := by simp; omega
              have hja : j = a.length := by have := HAM.out; omega
              rw [hja, List.take_length] at hV ⊢
              obtain ⟨zs, hzs⟩ : ∃ zs, a.map nv9 = zs := ⟨_, rfl⟩
              have hzl : a.length = zs.length := by rw [← hzs, List.length_map]
              rw [hzs, hzl] at hV
              obtain ⟨AZ, cZ, gz, hvz, hgz, hrz⟩ := Row.of_own hV
              rw [hja, hzl] at B
              rw [hvz] at B
              have hzl2 : zs.length ≤ s.size := by have := HAM.out; omega
              rw [hzs] at HYES
              obtain ⟨gb, hgb⟩ : ∃ gb, (G && a.all fun t => (readNum 9 t).isSome) = gb := ⟨_, rfl⟩
              rw [hgb] at HYES HNO2 ⊢
              have DWx := B
              have RWx := R
              have hWx := hW
              clear B R O hV hW hgb hzs hvz
              obtain ⟨e0, e1, e2, e3, e4⟩ := DWx.c5
              cases gb with
              | false =>
                have HD := Lib.hid (HNO2.out rfl)
                clear DWx
                obtain ⟨y0, y1, y2, y3, y4⟩ := RWx.c5
                have q0 := RWx.frozen 0
                have q1 := RWx.frozen 1
                have q2 := RWx.frozen 2
                have q3 := RWx.frozen 3
                have q4 := RWx.frozen 4
                have HB0 := Lib.hid (bel_set5 hWx (Nat.le_refl _) (.int .i64 0) (.string ⟨#[]⟩) (.slice none 0 0) (.slice none 0 0) (.int .i64 0))
                go_wp2
                refine bodyPost_ret (v := .tuple #[.agg #[.int .i64 0, .string ⟨#[]⟩, .slice none 0 0, .slice none 0 0, .int .i64 0], .bool false]) (by simp [results, Tryz.f10, go_sem, *]) rfl ?_
                rw [HD.out]
                exact rd_none HB0.out
              | true =>
                obtain ⟨B, hB⟩ : ∃ B, nodeB ⟨K, ⟨#[]⟩, [], zs, P⟩ = B := ⟨_, rfl⟩
                have HNO := Lib.hid (show Calls Tryz.prog 25 #[.agg #[.int .i64 K, .string ⟨#[]⟩, .slice none 0 0, .slice AZ zs.length cZ, .int .i64 P]] wr (fun e w' => e = .returned (.bool B) ∧ Below wr.heap.size wr w') from by
                  rw [← hB]
                  exact specNodeOk_any ⟨K, ⟨#[]⟩, [], zs, P⟩ none 0 AZ cZ wr (fun hn => absurd hn (by simp)) hrz.ints ⟨Nat.zero_le _, Nat.zero_le _, by show zs.length ≤ 1048576; omega⟩)
                have HYN := Lib.hid (fin_cases (o := specReadN (bl s)) (HYES.out rfl) hB)
                have HNR := Lib.hid (show NRow wr ⟨⟨K, ⟨#[]⟩, [], zs, P⟩, none, 0, w.heap.size, AZ, cZ, gz⟩ from ⟨fun hn => absurd hn (by simp), hrz⟩)
                have HLO := Lib.hid (show w.heap.size ≤ w.heap.size ∧ w.heap.size ≤ gz from ⟨Nat.le_refl _, hgz⟩)
                clear hB hrz hgz e0 e1 e2 e3 e4
                obtain ⟨c0, c1, c2, c3, c4⟩ := DWx.c5
                go_wp2_with fail
                refine HNO.out.mono ?_
                rintro e w6 ⟨rfl, hb6⟩
                have hW6 := bel_step hWx hb6
                have DW6 := DWx.on hb6
                have RW6 := RWx.on hb6
                have HNR6 := HNR.out.on hb6
                obtain ⟨x0, x1, x2, x3, x4⟩ := DW6.c5
                obtain ⟨y0, y1, y2, y3, y4⟩ := RW6.c5
                have q0 := RW6.frozen 0
                have q1 := RW6.frozen 1
                have q2 := RW6.frozen 2
                have q3 := RW6.frozen 3
                have q4 := RW6.frozen 4
                have HB := Lib.hid (bel_set5 hW6 (Nat.le_refl _) (.int .i64 K) (.string ⟨#[]⟩) (.slice none 0 0) (.slice AZ zs.length cZ) (.int .i64 P))
                have HB0 := Lib.hid (bel_set5 hW6 (Nat.le_refl _) (.int .i64 0) (.string ⟨#[]⟩) (.slice none 0 0) (.slice none 0 0) (.int .i64 0))
                have HRS := Lib.hid (HNR6.set5 RW6 0 1 2 3 4 (.int .i64 K) (.string ⟨#[]⟩) (.slice none 0 0) (.slice AZ zs.length cZ) (.int .i64 P))
                clear c0 c1 c2 c3 c4 hW6 DW6 RW6 HNR6 DWx RWx hWx
                cases B with
                | false =>
                  have HD := Lib.hid (HYN.out.2 rfl)
                  go_wp2
                  refine bodyPost_ret (v := .tuple #[.agg #[.int .i64 0, .string ⟨#[]⟩, .slice none 0 0, .slice none 0 0, .int .i64 0], .bool false]) (by simp [results, Tryz.f10, go_sem, *]) rfl ?_
                  rw [HD.out]
                  exact rd_none HB0.out
                | true =>
                  have HD := Lib.hid (HYN.out.1 rfl)
                  go_wp2
                  refine bodyPost_ret (v := .tuple #[.agg #[.int .i64 K, .string ⟨#[]⟩, .slice none 0 0, .slice AZ zs.length cZ, .int .i64 P], .bool true]) (by simp [results, Tryz.f10, go_sem, *]) rfl ?_
                  rw [HD.out]
                  refine ⟨K, P, ⟨#[]⟩, none, 0, 0, AZ, zs.length, cZ, rfl, HB.out, fun d hd => ?_⟩
                  obtain rfl := Option.some.inj hd
                  exact ⟨rfl, rfl, rfl, rfl, rfl, _, _, HLO.out.1, HLO.out.2, HRS.out.1, HRS.out.2⟩
end Go.Proofs.YtpadhcoboapodaaGreatDoor
