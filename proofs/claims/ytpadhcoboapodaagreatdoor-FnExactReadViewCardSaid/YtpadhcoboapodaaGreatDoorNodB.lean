/- A node read of its words: the program's readNode; the variables lie as their texts lay them. -/
import Derived.Test.YtpadhcoboapodaaGreatDoorSplt
import Derived.Test.YtpadhcoboapodaaGreatDoorNodQ
import Derived.Test.YtpadhcoboapodaaGreatDoorNodM
import Derived.Test.YtpadhcoboapodaaGreatDoorNodI
import Derived.Test.YtpadhcoboapodaaGreatDoorCndN
namespace Go.Proofs.YtpadhcoboapodaaGreatDoor
open Go.RowKit

theorem mapM_of {α β : Type} {f : α → Option β} {l : List α} {r : List β} (h : l.mapM f = some r) {b : β} (hb : b ∈ r) : ∃ a ∈ l, f a = some b := by
  obtain ⟨j, hj, rfl⟩ := List.mem_iff_getElem.1 hb
  obtain ⟨h1, h2⟩ := mapM_some h
  have hj2 : j < l.length := by omega
  exact ⟨l[j], List.getElem_mem hj2, h2 j _ _ (List.getElem?_eq_getElem hj2) (List.getElem?_eq_getElem hj)⟩
theorem pv_le {s : List UInt8} {ps : List (List UInt8)} (h : partsV s = some ps) : ∀ p ∈ ps, p.length ≤ s.length := by
  unfold partsV at h
  split at h
  · rename_i a r hs
    cases hm : r.mapM stripB with
    | none => rw [hm] at h; cases h
    | some qs =>
      rw [hm] at h
      obtain rfl := Option.some.inj h
      intro p hp
      rcases List.mem_cons.1 hp with rfl | hp
      · have := cat_mem_le [59] (spl 59 s) p (by rw [hs]; simp)
        rwa [cat_spl] at this
      · obtain ⟨t, ht, he⟩ := mapM_of hm hp
        have h1 := cat_mem_le [59] (spl 59 s) t (by rw [hs]; simp [ht])
        rw [cat_spl] at h1
        rw [stripB_is he] at h1
        simp at h1
        omega
  · cases h
theorem splitN_cat {s : List UInt8} {q : List (List (List UInt8))} (h : splitN s = some q) : ∀ x ∈ q, x ≠ [] ∧ (cat [32] x).length ≤ s.length := by
  unfold splitN at h
  cases hp : partsV s with
  | none => rw [hp] at h; cases h
  | some ps =>
    rw [hp] at h
    simp only at h
    split at h
    · obtain rfl := Option.some.inj h
      intro x hx
      obtain ⟨p, hpp, rfl⟩ := List.mem_map.1 hx
      exact ⟨spl_ne 32 p, by rw [cat_spl]; exact pv_le hp p hpp⟩
    · cases h
theorem CRow.far {w : World} {A : Option Addr} {g : Nat} {l : List Cnd} (h : CRow w A g l) {p : Addr} (hp : g ≠ p.block) (u : Value) : CRow (w.setCell p u) A g l := fun hn => by
  obtain ⟨a, cur, hB, hc⟩ := h hn
  exact ⟨a, cur, Blk.far hB hp u, hc⟩
theorem bel_set5 {w w1 : World} {G : Nat} (h : Below w.heap.size w w1) (hG : w.heap.size ≤ G) (a b c d e : Value) : Below w.heap.size w (((((w1.setCell ⟨G, 0, none⟩ a).setCell ⟨G, 1, none⟩ b).setCell ⟨G, 2, none⟩ c).setCell ⟨G, 3, none⟩ d).setCell ⟨G, 4, none⟩ e) :=
  ((((h.setCell (p := ⟨G, 0, none⟩) hG _).setCell (p := ⟨G, 1, none⟩) hG _).setCell (p := ⟨G, 2, none⟩) hG _).setCell (p := ⟨G, 3, none⟩) hG _).setCell (p := ⟨G, 4, none⟩) hG _
theorem pl_got {o : Option (List Int × Int)} {W W' : World} {e : Ending} (h : PlAns o W e W') : ∃ A l c p, e = .returned (.tuple #[.slice A l c, .int .i64 p, .bool o.isSome]) ∧ Below W.heap.size W W' ∧ ∀ z q, o = some (z, q) → ∃ g, A = some ⟨g, 0, none⟩ ∧ l = z.length ∧ c = z.length ∧ p = q ∧ W.heap.size ≤ g ∧ Blk W' g 2 (i64s z) := by
  cases o with
  | none => exact ⟨none, 0, 0, -1, h.1, h.2, fun z q e => by cases e⟩
  | some zq =>
    obtain ⟨z, q⟩ := zq
    obtain ⟨g, rfl, hg, hB, hb⟩ := h
    exact ⟨_, _, _, _, rfl, hb, fun z' q' e => by cases e; exact ⟨g, rfl, rfl, rfl, rfl, hg, hB⟩⟩
theorem blk_set7 {w : World} {g a b : Nat} {t : TypeId} {cs : Array Value} (h : Blk w g t cs) (ha : g ≠ a) (hb : g ≠ b) (i j : Nat) (u v a0 a1 a2 a3 a4 : Value) :
    Blk (((((((w.setCell ⟨a, i, none⟩ u).setCell ⟨a, j, none⟩ v).setCell ⟨b, 0, none⟩ a0).setCell ⟨b, 1, none⟩ a1).setCell ⟨b, 2, none⟩ a2).setCell ⟨b, 3, none⟩ a3).setCell ⟨b, 4, none⟩ a4) g t cs :=
  Blk.far (p := ⟨b, 4, none⟩) (Blk.far (p := ⟨b, 3, none⟩) (Blk.far (p := ⟨b, 2, none⟩) (Blk.far (p := ⟨b, 1, none⟩) (Blk.far (p := ⟨b, 0, none⟩) (Blk.far (p := ⟨a, j, none⟩) (Blk.far (p := ⟨a, i, none⟩) h ha u) ha v) hb a0) hb a1) hb a2) hb a3) hb a4
theorem crow_set6 {w : World} {g a b : Nat} {A : Option Addr} {l : List Cnd} (h : CRow w A g l) (ha : g ≠ a) (hb : g ≠ b) (i : Nat) (u a0 a1 a2 a3 a4 : Value) :
    CRow ((((((w.setCell ⟨a, i, none⟩ u).setCell ⟨b, 0, none⟩ a0).setCell ⟨b, 1, none⟩ a1).setCell ⟨b, 2, none⟩ a2).setCell ⟨b, 3, none⟩ a3).setCell ⟨b, 4, none⟩ a4) A g l :=
  CRow.far (p := ⟨b, 4, none⟩) (CRow.far (p := ⟨b, 3, none⟩) (CRow.far (p := ⟨b, 2, none⟩) (CRow.far (p := ⟨b, 1, none⟩) (CRow.far (p := ⟨b, 0, none⟩) (CRow.far (p := ⟨a, i, none⟩) h ha u) hb a0) hb a1) hb a2) hb a3) hb a4
/-- A node read, with its conds and places in blocks of the call's own. -/
def RdAns (o : Option Nd) (w : World) (e : Ending) (w' : World) : Prop :=
  ∃ (k p : Int) (n : ByteArray) (Ac : Option Addr) (lc cc : Nat) (Az : Option Addr) (lz cz : Nat), e = .returned (.tuple #[.agg #[.int .i64 k, .string n, .slice Ac lc cc, .slice Az lz cz, .int .i64 p], .bool o.isSome]) ∧ Below w.heap.size w w' ∧
    ∀ d, o = some d → k = d.k ∧ n = d.n ∧ p = d.p ∧ lc = d.c.length ∧ lz = d.z.length ∧ ∃ gc gz, w.heap.size ≤ gc ∧ w.heap.size ≤ gz ∧ CRow w' Ac gc d.c ∧ Row w' 2 Az d.z gz
theorem implReadN_1 {w : List UInt8} {r : List (List UInt8)} (h : kindW w = 1) : implReadN (w :: r) = some ⟨1, mkB (cat [32] r), [], [], -1⟩ := by unfold implReadN; simp only; rw [if_pos h]
theorem implReadN_2 {w : List UInt8} {r : List (List UInt8)} (h : kindW w = 2) : implReadN (w :: r) = if (specReadCs (cat [32] r)).2 = true then some ⟨2, ⟨#[]⟩, (specReadCs (cat [32] r)).1, [], -1⟩ else none := by unfold implReadN; simp only; rw [if_neg (by omega), if_pos h]
theorem implReadN_3 {w : List UInt8} {r : List (List UInt8)} (h1 : kindW w ≠ 1) (h2 : kindW w ≠ 2) : implReadN (w :: r) = match readP r with | some (z, p) => some ⟨kindW w, ⟨#[]⟩, [], z, p⟩ | none => none := by unfold implReadN; simp only; rw [if_neg h1, if_neg h2]; cases readP r <;> rfl
set_option maxRecDepth 100000 in
set_option maxHeartbeats 4000000 in
theorem readNode_any (g cap : Nat) (w0 : ByteArray) (r : List ByteArray) (w : World) (hc : ∀ j, j < r.length + 1 → w.cell? ⟨g, j, none⟩ = some (.string (sx (w0 :: r) j))) (hg : g < w.heap.size) (hcap : r.length + 1 ≤ cap) (hcat : (cat [32] (r.map bl)).length ≤ 1048577) (hz : ∀ j, j < r.length → (sx r j).size ≤ 1073741824) (hl : r.length ≤ 1048577) (hF : FormsAt w) (hL : LaidAll w) :
    Calls Tryz.prog 13 #[.slice (some ⟨g, 0, none⟩) (r.length + 1) cap] w (RdAns (implReadN ((w0 :: r).map bl)) w) := by
  have hc0 : w.cell? ⟨g, 0, none⟩ = some (.string w0) := hc 0 (by omega)
  have HKD := Lib.hid (show ∀ W, Below w.heap.size w W → Calls Tryz.prog 27 #[.string w0] W (fun e w' => e = .returned (.int .i64 (kindW (bl w0))) ∧ Below W.heap.size W w') from fun W h => nodeKindOf_any w0 W (hF.on h))
  have HST := Lib.hid (show ∀ W A', Below w.heap.size w W → (A' = some ⟨g, 1, none⟩ ∨ r.length = 0) → Strs W W.heap.size A' r from fun W A' h hA => by
    rcases hA with rfl | hA
    · exact fun _ => ⟨g, 1, rfl, Nat.lt_of_lt_of_le hg h.size, fun j hj => by
        rw [h.cell (p := ⟨g, 1 + j, none⟩) hg, Nat.add_comm 1 j, hc (j + 1) (by omega)]; rfl⟩
    · exact fun hn => absurd hn (by omega))
  obtain ⟨J, hJ⟩ : ∃ J, mkB (cat [32] (r.map bl)) = J := ⟨_, rfl⟩
  have hJb : cat [32] (r.map bl) = bl J := by rw [← hJ, bl_mkB]
  have hJs : J.size ≤ 1048577 := by rw [← bl_length, ← hJb]; exact hcat
  have HJ := Lib.hid (show ∀ W A' c', Below w.heap.size w W → (A' = some ⟨g, 1, none⟩ ∨ (∃ o, A' = some ⟨g, o, none⟩) ∧ r.length = 0) → r.length ≤ c' → Calls Tryz.prog 28 #[.slice A' r.length c', .string ⟨#[32]⟩] W (fun e w' => e = .returned (.string J) ∧ Below W.heap.size W w') from fun W A' c' h hA hc' => by
    have hcells : ∃ o, A' = some ⟨g, o, none⟩ ∧ ∀ (j : Nat) x, r[j]? = some x → W.cell? ⟨g, o + j, none⟩ = some (.string x) := by
      rcases hA with rfl | ⟨⟨o, rfl⟩, h0⟩
      · refine ⟨1, rfl, fun j x hx => ?_⟩
        have hj := (List.getElem?_eq_some_iff.1 hx).1
        rw [h.cell (p := ⟨g, 1 + j, none⟩) hg, Nat.add_comm 1 j, hc (j + 1) (by omega)]
        simp [sx, hx]
      · exact ⟨o, rfl, fun j x hx => absurd (List.getElem?_eq_some_iff.1 hx).1 (by omega)⟩
    obtain ⟨o, rfl, hcc⟩ := hcells
    have he : Lib.join (r.map (·.data.toList)) (ByteArray.data ⟨#[32]⟩).toList = cat [32] (r.map bl) := join_catG [32] (r.map bl)
    have := Tryz.strings_Join g o c' r ⟨#[32]⟩ W hcc (Nat.lt_of_lt_of_le hg h.size) (by omega) hc' (by rw [he]; omega)
    rw [he] at this
    rw [← hJ]
    exact this)
  have HRC := Lib.hid (show ∀ W, Below w.heap.size w W → Calls Tryz.prog 29 #[.string J] W (CAns (specReadCs (cat [32] (r.map bl))) W) from fun W h => by
    rw [hJb]; exact implReadConds_any J W (by omega) (hL.on h))
  have HRP := Lib.hid (show ∀ W A' c', Below w.heap.size w W → (A' = some ⟨g, 1, none⟩ ∨ r.length = 0) → r.length ≤ c' → Calls Tryz.prog 30 #[.slice A' r.length c'] W (PlAns (readP (r.map bl)) W) from fun W A' c' h hA hc' =>
    readPlaces_any A' c' r W (HST.out W A' h hA) hz (by omega) hc' (hL.on h))
  have hJ2 := Lib.hid hJ
  have bc := (Below.refl w.heap.size w).alloc (Nat.le_refl _) (.cells #[.int .i64 0, .string ⟨#[]⟩, .slice none 0 0, .slice none 0 0, .int .i64 0] 33)
  have BR := Blk.new w 33 #[.int .i64 0, .string ⟨#[]⟩, .slice none 0 0, .slice none 0 0, .int .i64 0]
  have hsa : (w.alloc (.cells #[.int .i64 0, .string ⟨#[]⟩, .slice none 0 0, .slice none 0 0, .int .i64 0] 33)).heap.size = w.heap.size + 1 := World.size_alloc _ _
  have hca : (w.alloc (.cells #[.int .i64 0, .string ⟨#[]⟩, .slice none 0 0, .slice none 0 0, .int .i64 0] 33)).cell? ⟨g, 0, none⟩ = some (.string w0) := (bc.cell (p := ⟨g, 0, none⟩) hg).trans hc0
  rw [show implReadN ((w0 :: r).map bl) = implReadN (bl w0 :: r.map bl) from rfl]
  obtain ⟨rb, hrb⟩ : ∃ rb, r.map bl = rb := ⟨_, rfl⟩
  rw [hrb] at HRC HRP hJ
  have HJQ := Lib.hid hJ
  rw [hrb]
  clear hc hz hF hL hJ hJb hJs hcat hrb hc0
  generalize hkk : kindW (bl w0) = kk at *
  obtain ⟨n, hn⟩ : ∃ n, r.length = n := ⟨_, rfl⟩
  rw [hn] at HST HJ HRP hcap hl
  rw [hn]
  have hm1 : ((n + 1 : Nat) : Int) - 1 = (n : Int) := by omega
  go_enter Tryz.func13, Tryz.ntmps13
  go_wp2_with fail
  generalize w.alloc (.cells #[.int .i64 0, .string ⟨#[]⟩, .slice none 0 0, .slice none 0 0, .int .i64 0] 33) = wa at *
  refine (HKD.out wa bc).mono ?_
  rintro e w1 ⟨rfl, hb1⟩
  have hW1 := bel_step bc hb1
  have hs1 : w.heap.size < w1.heap.size := by have := hb1.size; omega
  have BR1 := BR.on hb1
  have hW2 := hW1.alloc hW1.size (.cells #[.int .i64 kk, .string ⟨#[]⟩, .slice none 0 0, .slice none 0 0, .int .i64 (-1)] 33)
  have BN2 := Blk.new w1 33 #[.int .i64 kk, .string ⟨#[]⟩, .slice none 0 0, .slice none 0 0, .int .i64 (-1)]
  have BR2 := BR1.alloc (.cells #[.int .i64 kk, .string ⟨#[]⟩, .slice none 0 0, .slice none 0 0, .int .i64 (-1)] 33)
  have hs2 : (w1.alloc (.cells #[.int .i64 kk, .string ⟨#[]⟩, .slice none 0 0, .slice none 0 0, .int .i64 (-1)] 33)).heap.size = w1.heap.size + 1 := World.size_alloc _ _
  obtain ⟨n0, n1, n2, n3, n4⟩ := BN2.c5
  clear BR BR1 bc hb1 hW1 hca hsa
  by_cases k1 : kk = 1
  · subst k1
    have HIR := Lib.hid (show implReadN (bl w0 :: rb) = some ⟨1, J, [], [], -1⟩ by rw [implReadN_1 hkk, HJQ.out])
    go_wp2_with fail
    all_goals
      refine (HJ.out _ _ _ hW2 (by first | exact .inl rfl | exact .inr ⟨⟨_, rfl⟩, by omega⟩) (by omega)).mono ?_
      rintro e w3 ⟨rfl, hb3⟩
      have hW3 := bel_step hW2 hb3
      have BN3 := BN2.on hb3
      have BR3 := BR2.on hb3
      have HB5 := Lib.hid (bel_set5 (hW3.setCell (p := ⟨w1.heap.size, 1, none⟩) (by simp only; omega) (.string J)) (Nat.le_refl _) (.int .i64 1) (.string J) (.slice none 0 0) (.slice none 0 0) (.int .i64 (-1)))
      obtain ⟨m0, m1, m2, m3, m4⟩ := BN3.c5
      obtain ⟨r0, r1, r2, r3, r4⟩ := BR3.c5
      have f1 := BN3.frozen 1
      have g0 := BR3.frozen 0
      have g1 := BR3.frozen 1
      have g2 := BR3.frozen 2
      have g3 := BR3.frozen 3
      have g4 := BR3.frozen 4
      clear n0 n1 n2 n3 n4 BN2 BR2 hW2 hb3 hW3 BN3 BR3 hs2
      go_wp2
      refine bodyPost_ret (v := .tuple #[.agg #[.int .i64 1, .string J, .slice none 0 0, .slice none 0 0, .int .i64 (-1)], .bool true]) (by simp [results, Tryz.f13, go_sem, *]) rfl ?_
      rw [HIR.out]
      refine ⟨1, -1, J, none, 0, 0, none, 0, 0, rfl, HB5.out, fun d hd => ?_⟩
      obtain rfl := Option.some.inj hd
      exact ⟨rfl, rfl, rfl, rfl, rfl, w.heap.size, w.heap.size, Nat.le_refl _, Nat.le_refl _, fun hn => absurd hn (by simp), fun hn => absurd hn (by simp)⟩
  · by_cases k2 : kk = 2
    · subst k2
      have HIR := Lib.hid (implReadN_2 (r := rb) hkk)
      go_wp2_with fail
      all_goals
        refine (HJ.out _ _ _ hW2 (by first | exact .inl rfl | exact .inr ⟨⟨_, rfl⟩, by omega⟩) (by omega)).mono ?_
        rintro e w3 ⟨rfl, hb3⟩
        have hW3 := bel_step hW2 hb3
        have BN3 := BN2.on hb3
        have BR3 := BR2.on hb3
        have hs3 : w1.heap.size + 1 ≤ w3.heap.size := by have := hb3.size; omega
        clear n0 n1 n2 n3 n4 BN2 BR2 hW2 hb3 hs2
        go_wp2_with fail
        refine (HRC.out _ hW3).mono ?_
        rintro e w4 ⟨v, rfl, hown, hb4⟩
        obtain ⟨A, c, gc, rfl, hgc, hrow⟩ := crow_of_own hown
        have hW4 := bel_step hW3 hb4
        have BN4 := BN3.on hb4
        have BR4 := BR3.on hb4
        generalize hL : specReadCs (cat [32] rb) = P at *
        have hrow6 := crow_set6 hrow (a := w1.heap.size) (b := w.heap.size) (by omega) (by omega) 2 (.slice A P.1.length c) (.int .i64 2) (.string ⟨#[]⟩) (.slice A P.1.length c) (.slice none 0 0) (.int .i64 (-1))
        have HB5 := Lib.hid (And.intro hrow6 (bel_set5 (hW4.setCell (p := ⟨w1.heap.size, 2, none⟩) (by simp only; omega) (.slice A P.1.length c)) (Nat.le_refl _) (.int .i64 2) (.string ⟨#[]⟩) (.slice A P.1.length c) (.slice none 0 0) (.int .i64 (-1))))
        obtain ⟨m0, m1, m2, m3, m4⟩ := BN4.c5
        obtain ⟨r0, r1, r2, r3, r4⟩ := BR4.c5
        have f1 := BN4.frozen 2
        have g0 := BR4.frozen 0
        have g1 := BR4.frozen 1
        have g2 := BR4.frozen 2
        have g3 := BR4.frozen 3
        have g4 := BR4.frozen 4
        have HGC := Lib.hid (show w.heap.size ≤ gc by omega)
        clear BN3 BR3 hW3 hb4 hW4 BN4 BR4 hown hrow hrow6 hgc hL
        obtain ⟨L, b⟩ := P
        simp only at HIR HB5 ⊢
        go_wp2
        refine bodyPost_ret (v := .tuple #[.agg #[.int .i64 2, .string ⟨#[]⟩, .slice A L.length c, .slice none 0 0, .int .i64 (-1)], .bool b]) (by simp [results, Tryz.f13, go_sem, *]) rfl ?_
        rw [HIR.out]
        refine ⟨2, -1, ⟨#[]⟩, A, L.length, c, none, 0, 0, by cases b <;> rfl, HB5.out.2, fun d hd => ?_⟩
        cases b with
        | false => exact absurd hd (by simp)
        | true =>
          obtain rfl := Option.some.inj hd
          exact ⟨rfl, rfl, rfl, rfl, rfl, gc, w.heap.size, HGC.out, Nat.le_refl _, HB5.out.1, fun hn => absurd hn (by simp)⟩
    · have HIR := Lib.hid (implReadN_3 (r := rb) (by rw [hkk]; exact k1) (by rw [hkk]; exact k2))
      have hk1 : ((kk : Int) == 1) = false := by rw [beq_eq_false_iff_ne]; omega
      have hk2 : ((kk : Int) == 2) = false := by rw [beq_eq_false_iff_ne]; omega
      rw [hkk] at HIR
      clear k1 k2
      go_wp2_with fail
      all_goals
        refine (HRP.out _ _ _ hW2 (by first | exact .inl rfl | exact .inr (by omega)) (by omega)).mono ?_
        rintro e w3 hq
        obtain ⟨A, l, c, p, rfl, hb3, hz3⟩ := pl_got hq
        have hW3 := bel_step hW2 hb3
        have BN3 := BN2.on hb3
        have BR3 := BR2.on hb3
        generalize readP rb = P at *
        have HB5 := Lib.hid (bel_set5 ((hW3.setCell (p := ⟨w1.heap.size, 3, none⟩) (by simp only; omega) (.slice A l c)).setCell (p := ⟨w1.heap.size, 4, none⟩) (by simp only; omega) (.int .i64 p)) (Nat.le_refl _) (.int .i64 kk) (.string ⟨#[]⟩) (.slice none 0 0) (.slice A l c) (.int .i64 p))
        have HZ5 := Lib.hid (show ∀ z q, P = some (z, q) → ∃ g, A = some ⟨g, 0, none⟩ ∧ l = z.length ∧ p = q ∧ w.heap.size ≤ g ∧ Blk (((((((w3.setCell ⟨w1.heap.size, 3, none⟩ (.slice A l c)).setCell ⟨w1.heap.size, 4, none⟩ (.int .i64 p)).setCell ⟨w.heap.size, 0, none⟩ (.int .i64 kk)).setCell ⟨w.heap.size, 1, none⟩ (.string ⟨#[]⟩)).setCell ⟨w.heap.size, 2, none⟩ (.slice none 0 0)).setCell ⟨w.heap.size, 3, none⟩ (.slice A l c)).setCell ⟨w.heap.size, 4, none⟩ (.int .i64 p)) g 2 (i64s z) from fun z q e => by
          obtain ⟨g', e1, e2, _, e4, e5, e6⟩ := hz3 z q e
          exact ⟨g', e1, e2, e4, by omega, blk_set7 e6 (by omega) (by omega) _ _ _ _ _ _ _ _ _⟩)
        obtain ⟨m0, m1, m2, m3, m4⟩ := BN3.c5
        obtain ⟨r0, r1, r2, r3, r4⟩ := BR3.c5
        have f1 := BN3.frozen 3
        have f2 := BN3.frozen 4
        have g0 := BR3.frozen 0
        have g1 := BR3.frozen 1
        have g2 := BR3.frozen 2
        have g3 := BR3.frozen 3
        have g4 := BR3.frozen 4
        clear n0 n1 n2 n3 n4 BN2 BR2 hW2 hb3 hW3 BN3 BR3 hs2 hz3 hq
        generalize hbo : P.isSome = bo at *
        go_wp2
        refine bodyPost_ret (v := .tuple #[.agg #[.int .i64 kk, .string ⟨#[]⟩, .slice none 0 0, .slice A l c, .int .i64 p], .bool bo]) (by simp [results, Tryz.f13, go_sem, *]) rfl ?_
        rw [HIR.out]
        refine ⟨kk, p, ⟨#[]⟩, none, 0, 0, A, l, c, by rw [← hbo]; cases P <;> rfl, HB5.out, fun d hd => ?_⟩
        cases P with
        | none => exact absurd hd (by simp)
        | some zq =>
          obtain ⟨z, q⟩ := zq
          obtain ⟨g', e1, e2, e3, e4, e5⟩ := HZ5.out z q rfl
          obtain rfl := Option.some.inj hd
          subst e1 e2 e3
          exact ⟨rfl, rfl, rfl, rfl, rfl, w.heap.size, g', Nat.le_refl _, e4, (fun hn => absurd hn (by simp)), Row.of_blk e5⟩
end Go.Proofs.YtpadhcoboapodaaGreatDoor
