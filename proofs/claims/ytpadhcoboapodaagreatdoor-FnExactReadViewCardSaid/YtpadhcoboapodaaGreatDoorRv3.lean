/- Views read of their text: the model's ReadView; for texts of at most 2^20 bytes; nothing that lay has turned. -/
import Derived.Test.YtpadhcoboapodaaGreatDoorRv2
namespace Go.Proofs.YtpadhcoboapodaaGreatDoor
open Go.RowKit

theorem node_fit {d : Nd} (h : nodeB d = true) : fitD 1048576 d := by
  obtain ⟨q, hr⟩ := right_of h
  obtain ⟨_, hn, hc, _, _⟩ := nodeB_all h
  refine ⟨?_, ?_, by have := hr.len; omega⟩
  · unfold nameD at hn
    split at hn
    · have := hr.name (by have := hr.kq; omega); omega
    · have := of_decide_eq_true hn; omega
  · unfold condsD at hc
    split at hc
    · have := (rightB_iff.1 hc).2; omega
    · have := of_decide_eq_true hc; omega
/-- What the model reads of the j-th piece. -/
def stepV (j : Nat) (t : List UInt8) : Option Nd := if j = 0 then specReadN t else (stripB t).bind specReadN
def sR (t : List UInt8) : Option Nd := (stripB t).bind specReadN
theorem mapM_bind2 {α β γ : Type} (f : α → Option β) (g : β → Option γ) : ∀ l : List α, l.mapM (fun t => (f t).bind g) = (l.mapM f).bind (·.mapM g) := by
  intro l
  induction l with
  | nil => rfl
  | cons a r ih =>
    rw [List.mapM_cons, List.mapM_cons, ih]
    cases h1 : f a with
    | none => rfl
    | some b =>
      cases h2 : r.mapM f with
      | none =>
        show ((g b).bind fun _ => none) = none
        cases g b <;> rfl
      | some bs =>
        show ((g b).bind fun c => (bs.mapM g).bind fun cs => some (c :: cs)) = (b :: bs).mapM g
        rw [List.mapM_cons]
        rfl
theorem specV_cons {s a : List UInt8} {r : List (List UInt8)} (h : spl 59 s = a :: r) : specV s = match specReadN a with | none => none | some d => match r.mapM sR with | none => none | some v => if viewB (d :: v) = true then some (d :: v) else none := by
  have hb : r.mapM sR = (r.mapM stripB).bind (·.mapM specReadN) := mapM_bind2 stripB specReadN r
  rw [hb]
  unfold specV partsV
  rw [h]
  simp only
  cases h1 : r.mapM stripB with
  | none =>
    cases specReadN a <;> rfl
  | some ps =>
    show (match (a :: ps).mapM specReadN with | none => none | some v => if viewB v = true then some v else none) = _
    rw [List.mapM_cons]
    cases specReadN a with
    | none => rfl
    | some d =>
      show (match ((ps.mapM specReadN).bind fun cs => some (d :: cs)) with | none => none | some v => if viewB v = true then some v else none) = match ps.mapM specReadN with | none => none | some v => if viewB (d :: v) = true then some (d :: v) else none
      cases ps.mapM specReadN <;> rfl
theorem specV_no {s : List UInt8} {L : List (List UInt8)} (hL : spl 59 s = L) {j : Nat} (hj : j < L.length) (h : stepV j L[j] = none) : specV s = none := by
  cases L with
  | nil => exact absurd hj (by simp)
  | cons a r =>
    rw [specV_cons hL]
    cases j with
    | zero =>
      have : specReadN a = none := h
      rw [this]
    | succ j =>
      have h2 : r.mapM sR = none := mapM_stop _ _ j (by simpa using hj) (by simpa [stepV, sR] using h)
      rw [h2]
      cases specReadN a <;> rfl
theorem mapM_is {α β : Type} {f : α → Option β} : ∀ {l : List α} {v : List β}, v.length = l.length → (∀ j (h : j < l.length) (h2 : j < v.length), f l[j] = some v[j]) → l.mapM f = some v
  | [], [], _, _ => rfl
  | [], _ :: _, h, _ => absurd h (by simp)
  | _ :: _, [], h, _ => absurd h (by simp)
  | a :: l, b :: v, h, hf => by
    have h0 : f a = some b := hf 0 (by simp) (by simp)
    have h1 : l.mapM f = some v := mapM_is (by simpa using h) fun j h h2 => hf (j + 1) (by simpa using h) (by simpa using h2)
    rw [List.mapM_cons, h0, h1]
    rfl
theorem specV_all {s : List UInt8} {L : List (List UInt8)} (hL : spl 59 s = L) {v : List Nd} (hl : v.length = L.length) (h : ∀ j (hj : j < L.length) (h2 : j < v.length), stepV j L[j] = some v[j]) : specV s = if viewB v = true then some v else none := by
  cases L with
  | nil => exact absurd hL (spl_ne 59 s)
  | cons a r =>
    cases v with
    | nil => exact absurd hl (by simp)
    | cons d v =>
      rw [specV_cons hL]
      have h0 : specReadN a = some d := h 0 (by simp) (by simp)
      have h1 : r.mapM sR = some v := mapM_is (by simpa using hl) fun j h2 h3 => by
        have := h (j + 1) (by simpa using h2) (by simpa using h3)
        simpa [stepV, sR] using this
      rw [h0, h1]
theorem pieces_few {s : List UInt8} {ts : List ByteArray} (hts : ts.map bl = spl 59 s) (h : stepV 0 (bl (sx ts 0)) ≠ none) (h1 : 1 ≤ s.length) : ts.length ≤ s.length := by
  have h3 := spl_length 59 s
  rw [← hts, List.length_map] at h3
  have h2 : s.count 59 ≤ s.length := List.count_le_length
  by_cases hc : s.count 59 = s.length
  · exfalso
    cases s with
    | nil => simp at h1
    | cons b r =>
      obtain rfl : (59 : UInt8) = b := List.count_eq_length.1 hc b (by simp)
      rw [spl_yes] at hts
      cases ts with
      | nil => cases hts
      | cons t q =>
        rw [List.map_cons] at hts
        injection hts with e1 _
        apply h
        show specReadN (bl t) = none
        rw [e1]
        decide
  · omega
def ncs (e : NV) : List Value := [nvc e 0, nvc e 1, nvc e 2, nvc e 3, nvc e 4]
def nflat : List NV → List Value
  | [] => []
  | e :: l => ncs e ++ nflat l
theorem nflat_length : ∀ l : List NV, (nflat l).length = l.length * 5
  | [] => rfl
  | e :: l => by simp only [nflat, List.length_append, List.length_cons, nflat_length l]; show 5 + _ = _; omega
theorem nflat_snoc : ∀ (l : List NV) (e : NV), nflat (l ++ [e]) = nflat l ++ ncs e
  | [], e => by simp [nflat]
  | d :: l, e => by simp [nflat, nflat_snoc l e]
theorem nflat_get : ∀ (l : List NV) {j r : Nat} (hj : j < l.length), r < 5 → (nflat l)[j * 5 + r]? = some (nvc l[j] r)
  | [], j, r, hj, _ => absurd hj (by simp)
  | e :: l, 0, r, _, hr => by
    rw [nflat, List.getElem?_append_left (by show _ < 5; omega)]
    have : r = 0 ∨ r = 1 ∨ r = 2 ∨ r = 3 ∨ r = 4 := by omega
    rcases this with rfl | rfl | rfl | rfl | rfl <;> rfl
  | e :: l, j + 1, r, hj, hr => by
    rw [nflat, List.getElem?_append_right (by show 5 ≤ _; omega)]
    rw [show (j + 1) * 5 + r - (ncs e).length = j * 5 + r by show (j + 1) * 5 + r - 5 = _; omega, nflat_get l (by simpa using hj) hr]
    rfl
theorem nat_of_own {w : World} {lo : Nat} {v : Value} {es : List NV} (h : w.ownsRow lo 33 5 v es.length (nflat es)) (h0 : 0 < es.length) : ∃ G c, v = .slice (some ⟨G, 0, none⟩) es.length c ∧ lo ≤ G ∧ NAt w G es := by
  rcases h.2 with ⟨_, h0'⟩ | ⟨g, cap, cur, rfl, hg, hh, hnc, _, hs, ht⟩
  · omega
  · refine ⟨g, cap, rfl, hg, cur, hh, fun j hj r hr => ?_⟩
    have e : (cur.toList.take (es.length * 5))[j * 5 + r]? = (nflat es)[j * 5 + r]? := by rw [ht]
    rw [List.getElem?_take, if_pos (by omega), Array.getElem?_toList] at e
    rw [e, nflat_get es hj hr, nvx_eq es j hj]
theorem reads_node {w : World} {X : Nat} {e : NV} (hX : Blk w X 33 #[.int .i64 e.d.k, .string e.d.n, .slice e.Ac e.d.c.length e.cc, .slice e.Az e.d.z.length e.cz, .int .i64 e.d.p]) : Reads w w.heap.size 5 (some ⟨X, 0, none⟩) 1 (ncs e) := by
  refine ⟨rfl, fun _ => ⟨_, rfl, hX.lt, fun j u hu => ?_⟩⟩
  have ea : Addr.add ⟨X, 0, none⟩ j = ⟨X, 0 + j, none⟩ := by unfold Addr.add; split <;> simp_all
  rw [ea, Nat.zero_add, hX.cell j, ← hu]
  have e1 : ∀ q : Nat, (#[Value.int .i64 e.d.k, .string e.d.n, .slice e.Ac e.d.c.length e.cc, .slice e.Az e.d.z.length e.cz, .int .i64 e.d.p] : Array Value)[q]? = (ncs e)[q]? := fun q => by
    rw [← Array.getElem?_toList]; rfl
  exact e1 j
theorem NRow.grown {w w' : World} {e : NV} {base n : Nat} {v : Value} {xs : List Value} (h : NRow w e) (ho : w.ownsRow base 33 5 v n xs) (hg : w.grownBy w' v.ownBlock) : NRow w' e := by
  refine ⟨h.1.kept hg fun hn => ?_, h.2.kept hg fun hn => ?_⟩
  · obtain ⟨_, cur, hB, _⟩ := h.1 hn
    exact blk_nrow hB (by decide) ho
  · obtain ⟨_, cur, hB, _⟩ := h.2 hn
    exact blk_nrow (t := 2) (cs := cur) hB (by decide) ho
theorem NRows.grown {B : Nat} {es : List NV} {w w' : World} {base n : Nat} {v : Value} {xs : List Value} (h : NRows B es w) (ho : w.ownsRow base 33 5 v n xs) (hg : w.grownBy w' v.ownBlock) : NRows B es w' := ⟨fun e he => (h.rows e he).grown ho hg, h.lo, h.ne⟩
theorem strip_yes {t : ByteArray} {r : List UInt8} (h : bl t = 32 :: r) : bl (t.extract 1 t.size) = r ∧ (t.extract 1 t.size).size = t.size - 1 := by
  refine ⟨?_, by rw [ByteArray.size_extract]; omega⟩
  have := piece_bl t 1 t.size
  unfold piece at this
  rw [this, h]
  have hl : t.size = r.length + 1 := by rw [← bl_length, h]; rfl
  rw [hl]
  simp
theorem own_freshN (w : World) (lo : Nat) (h : lo ≤ w.heap.size) : (w.alloc (.cells #[] 33)).ownsRow lo 33 5 (.slice (some ⟨w.heap.size, 0, none⟩) 0 0) 0 [] := World.ownsRow_made w #[] 0 h (Nat.zero_le _) rfl
set_option maxRecDepth 100000 in
set_option maxHeartbeats 4000000 in
theorem specReadView_any (s : ByteArray) (w : World) (hs : s.size ≤ 1048576) :
    Calls Tryz.prog 4 #[.string s] w (RvAns (specV (bl s)) w) := by
  obtain ⟨i0, hi0, hz0, hz1, hz2⟩ := info_parts info_node
  have bc := (Below.refl w.heap.size w).alloc (Nat.le_refl _) (.cells #[] 33)
  have o0 := own_freshN w w.heap.size (Nat.le_refl _)
  go_enter Tryz.func4, Tryz.ntmps4
  go_wp2_with fail
  generalize w.alloc (.cells #[] 33) = wa at *
  refine (l1Split_any s 59 wa (by omega)).mono ?_
  rintro e w1 ⟨v, ts, rfl, hts, hown1, hb1⟩
  have hW1 := bel_step bc hb1
  have o1 := o0.kept (grown_of_below hb1) (by simp [Value.ownBlock])
  have hn0 : 0 < ts.length := by
    cases ts with
    | nil => exact absurd hts.symm (spl_ne 59 (bl s))
    | cons a r => simp
  have hwz : ∀ j, j < ts.length → (sx ts j).size ≤ s.size := fun j hj => by
    have h1 := cat_mem_le [59] (spl 59 (bl s)) (bl (sx ts j)) (by rw [← hts, sx_eq _ j hj]; exact List.mem_map.2 ⟨_, List.getElem_mem hj, rfl⟩)
    rw [cat_spl, bl_length, bl_length] at h1
    exact h1
  have htn : ts.length ≤ s.size + 1 := by
    have h1 := spl_length 59 (bl s)
    have h2 : (bl s).count 59 ≤ (bl s).length := List.count_le_length
    rw [← hts, List.length_map] at h1
    rw [bl_length] at h2
    omega
  have HWZ := Lib.hid hwz
  have HNO := Lib.hid (show ∀ j, j < ts.length → stepV j (bl (sx ts j)) = none → specV (bl s) = none from fun j hj h => by
    have hj2 : j < (ts.map bl).length := by rw [List.length_map]; exact hj
    exact specV_no hts.symm hj2 (by rw [List.getElem_map, ← sx_eq ts j hj]; exact h))
  have HYES := Lib.hid (show ∀ v : List Nd, v.length = ts.length → (∀ j, j < ts.length → stepV j (bl (sx ts j)) = some (ndx v j)) → specV (bl s) = if viewB v = true then some v else none from fun v hl h =>
    specV_all hts.symm (by rw [hl, List.length_map]) fun j hj h2 => by
      have hj2 : j < ts.length := by rw [List.length_map] at hj; exact hj
      rw [List.getElem_map, ← sx_eq ts j hj2, h j hj2, ndx_eq v j h2])
  have HFEW := Lib.hid (show stepV 0 (bl (sx ts 0)) ≠ none → ts.length ≤ 1048576 from fun h => by
    by_cases h1 : 1 ≤ (bl s).length
    · have := pieces_few hts h h1
      rw [bl_length] at this
      omega
    · rw [bl_length] at h1
      omega)
  obtain ⟨n, hn⟩ : ∃ n, ts.length = n := ⟨_, rfl⟩
  obtain ⟨lo, hlo⟩ : ∃ lo, wa.heap.size = lo := ⟨_, rfl⟩
  rw [hlo] at hown1
  rw [hn] at hn0 hown1 HWZ HNO HYES htn HFEW
  have HTL := Lib.hid hn
  obtain ⟨g, cap, rfl, _, _, _⟩ := own_cells1 hown1 hn0
  clear hts hwz o0 bc hb1 hn hlo
  go_wp2_with fail
  go_loopw [4, 6] (fun u i wr => ∃ (k : Nat) (es : List NV), k ≤ n ∧ i = .int .i64 k ∧ es.length = k ∧ (∀ j, j < k → stepV j (bl (sx ts j)) = some (ndx (es.map NV.d) j)) ∧ wr.ownsRow w.heap.size 33 5 u k (nflat es) ∧ NRows w.heap.size es wr ∧ wr.ownsRow lo 9 1 (.slice (some ⟨g, 0, none⟩) n cap) n (strl ts) ∧ Below w.heap.size w wr) (fun _ i _ => n - (intOf i).toNat)
  case atStart => exact ⟨0, [], Nat.zero_le _, rfl, rfl, fun j hj => absurd hj (by omega), o1, NRows.nil _ _, hown1, hW1⟩
  case round =>
    clear o1 hown1 hW1
    obtain ⟨k, es, hk, rfl, hel, hst, hU, hR, hT, hW⟩ := hrel
    obtain ⟨AU, cU, rfl⟩ := own_form hU
    have HST := Lib.hid hst
    have HEL := Lib.hid hel
    have HM := Lib.hid (And.intro hU (And.intro hR (And.intro hT hW)))
    clear hst hel
    by_cases hlt : k < n
    · obtain ⟨g', cap', hgv, hgl, _, hcells⟩ := own_cells1 hT hn0
      have hgg : g' = g := by injection hgv with e1; injection e1 with e1; injection e1 with e1; exact e1.symm
      subst hgg
      have hjl : k < ts.length := by rw [HTL.out]; exact hlt
      have hck : wr.cell? ⟨g', k, none⟩ = some (.string (sx ts k)) := hcells k _ (by
        unfold strl
        rw [List.getElem?_map, List.getElem?_eq_getElem hjl, sx_eq _ _ hjl]
        rfl)
      have htz := HWZ.out k hlt
      have HNK := Lib.hid (HNO.out k hlt)
      have HSK := Lib.hid (show ∀ d : Nd, stepV k (bl (sx ts k)) = some d → ∀ (e : NV), e.d = d → ∀ j, j < k + 1 → stepV j (bl (sx ts j)) = some (ndx ((es ++ [e]).map NV.d) j) from fun d hd e he j hj => by
        by_cases hjk : j = k
        · subst hjk
          rw [hd, List.map_append]
          unfold ndx
          rw [List.getElem?_append_right (by rw [List.length_map, HEL.out]; exact Nat.le_refl _)]
          simp [HEL.out, he]
        · rw [HST.out j (by omega), List.map_append]
          unfold ndx
          rw [List.getElem?_append_left (by rw [List.length_map, HEL.out]; omega)])
      generalize sx ts k = t at *
      clear hcells hgv hjl hU hR hT hW
      have hsw := HM.out.2.2.2.size
      by_cases hk0 : k = 0
      · have HS0 := Lib.hid (show stepV k (bl t) = specReadN (bl t) by unfold stepV; rw [if_pos hk0])
        have hkn : ¬ 0 < k := by omega
        clear hk0
        have HRD := Lib.hid (l8Read_any t wr (by omega))
        go_wp2_with fail
        refine HRD.out.mono ?_
        rintro e w3 ⟨dk, dp, dn, Ac, lc, cc, Az, lz, cz, rfl, hb3, hd⟩
        have hW3 := bel_step HM.out.2.2.2 hb3
        cases hx : specReadN (bl t) with
        | none =>
          have HD := Lib.hid (HNK.out (by rw [HS0.out]; exact hx))
          have hWa := hW3.alloc hW3.size (.cells #[.int .i64 dk, .string dn, .slice Ac lc cc, .slice Az lz cz, .int .i64 dp] 33)
          clear hd hx hW3 hb3
          simp only [Option.isSome_none]
          go_wp2
          go_ret2
          rw [HD.out]
          have := rv_no hWa
          rw [World.size_alloc] at this
          exact this
        | some d =>
          obtain ⟨rfl, rfl, rfl, rfl, rfl, gc, gz, hgc, hgz, hrc, hrz⟩ := hd d hx
          have HSN := Lib.hid (HSK.out d (by rw [HS0.out]; exact hx) (⟨d, Ac, cc, gc, Az, cz, gz⟩ : NV) rfl)
          have ha := ((Below.refl w3.heap.size w3).alloc (Nat.le_refl _) (.cells #[.int .i64 d.k, .string d.n, .slice Ac d.c.length cc, .slice Az d.z.length cz, .int .i64 d.p] 33)).alloc (by rw [World.size_alloc]; omega) (.cells #[.int .i64 d.k, .string d.n, .slice Ac d.c.length cc, .slice Az d.z.length cz, .int .i64 d.p] 33)
          have hba := bel_step hb3 ha
          have hU2 := HM.out.1.kept (grown_of_below hba) (by cases h : (Value.slice AU k cU).ownBlock <;> simp)
          have hR2 := HM.out.2.1.snoc (e := (⟨d, Ac, cc, gc, Az, cz, gz⟩ : NV)) hba hsw ⟨hrc.on ha, hrz.on ha⟩ hgc hgz
          have ht := HM.out.2.2.1.kept (grown_of_below hba) (by simp [Value.ownBlock])
          have hW2 := bel_step HM.out.2.2.2 hba
          have hX := reads_node (e := (⟨d, Ac, cc, gc, Az, cz, gz⟩ : NV)) (Blk.new (w3.alloc (.cells #[.int .i64 d.k, .string d.n, .slice Ac d.c.length cc, .slice Az d.z.length cz, .int .i64 d.p] 33)) 33 #[.int .i64 d.k, .string d.n, .slice Ac d.c.length cc, .slice Az d.z.length cz, .int .i64 d.p])
          simp only [World.size_alloc] at hX
          have HX := Lib.hid (And.intro hU2 (And.intro hX (And.intro hR2 (And.intro ht hW2))))
          have hone : ∀ u ∈ ncs (⟨d, Ac, cc, gc, Az, cz, gz⟩ : NV), u.oneCell' = true := by simp [ncs, nvc, Value.oneCell']
          have h63 : k + 1 ≤ maxLen := by simp only [maxLen]; omega
          have h64 : (k + 1) * 80 ≤ 140737488355328 := by omega
          have HO1 := Lib.hid hone
          have H63 := Lib.hid h63
          clear hd hx hW3 hb3 hba ha hU2 hR2 ht hW2 hX hone h63 hrc hrz hck
          simp only [Option.isSome_some]
          go_wp2_with (at_builtin; refine wpList_append_any _ (by rfl) (.tmp 43) (.tmp 45) 22 (by rfl) w.heap.size 33 i0 _ 5 80 Tryz.underlying22 hi0 hz0 hz1 hz2 rfl (by decide) (.slice AU k cU) k (nflat es) (by rfl) HX.out.1 _ (some ⟨w3.heap.size + 1, 0, none⟩) 1 1 (ncs (⟨d, Ac, cc, gc, Az, cz, gz⟩ : NV)) (by rfl) HX.out.2.1 HO1.out H63.out h64 HX.out.2.2.2.2.size ?_; intro v4 w4 hown4 hgrow4 _)
          have hR4 := HX.out.2.2.1.grown HX.out.1 hgrow4
          have hT4 := HX.out.2.2.2.1.kept hgrow4 (own_ne HX.out.2.2.2.1 HX.out.1 (by decide))
          have hW4 := HX.out.2.2.2.2.grown hgrow4 HX.out.2.2.2.2.size (fun g hg => (HX.out.1.lt g hg).1)
          rw [← nflat_snoc] at hown4
          clear hgrow4
          go_roundw
          case rel => exact ⟨k + 1, es ++ [(⟨d, Ac, cc, gc, Az, cz, gz⟩ : NV)], by omega, by go_num, by rw [List.length_append, HEL.out]; rfl, HSN.out, hown4, hR4, hT4, hW4⟩
          case measure => simp [intOf]; omega
      · have hkp : 0 < k := by omega
        cases hbt : bl t with
        | nil =>
          have hte : t.toList.isEmpty = true := by rw [toList_bl, hbt]; rfl
          have HD := Lib.hid (HNK.out (by unfold stepV; rw [if_neg hk0, hbt]; rfl))
          have hW5 := HM.out.2.2.2
          clear hbt hk0
          go_wp2
          go_ret2
          rw [HD.out]
          exact rv_no hW5
        | cons b q =>
          have hte : t.toList.isEmpty = false := by rw [toList_bl, hbt]; rfl
          have hts : 0 < t.size := by rw [← bl_length, hbt]; simp
          have hti : (0 : Int) < (t.size : Int) := by omega
          have hti1 : (1 : Int) ≤ (t.size : Int) := by omega
          have hb0 : t[0] = b := by
            have := bl_get t 0 hts
            rw [hbt] at this
            exact (Option.some.inj this).symm
          by_cases hb : b = 32
          · have hbb : ((t[0].toNat : Int) != 32) = false := by rw [hb0, hb]; rfl
            have HS0 := Lib.hid (show stepV k (bl t) = specReadN (bl (t.extract 1 t.size)) by unfold stepV; rw [if_neg hk0, hbt, (strip_yes (by rw [hbt, hb])).1, hb]; rfl)
            have hts1 := (strip_yes (by rw [hbt, hb]) : bl (t.extract 1 t.size) = q ∧ _).2
            obtain ⟨t2, ht2⟩ : ∃ t2, t.extract 1 t.size = t2 := ⟨_, rfl⟩
            rw [ht2] at HS0 hts1
            have HT2 := Lib.hid ht2
            clear hbt hk0 hb hb0
            have HRD := Lib.hid (l8Read_any t2 wr (by omega))
            go_wp2_with fail
            try rw [HT2.out]
            refine HRD.out.mono ?_
            rintro e w3 ⟨dk, dp, dn, Ac, lc, cc, Az, lz, cz, rfl, hb3, hd⟩
            have hW3 := bel_step HM.out.2.2.2 hb3
            cases hx : specReadN (bl t2) with
            | none =>
              have HD := Lib.hid (HNK.out (by rw [HS0.out]; exact hx))
              have hWa := hW3.alloc hW3.size (.cells #[.int .i64 dk, .string dn, .slice Ac lc cc, .slice Az lz cz, .int .i64 dp] 33)
              clear hd hx hW3 hb3
              simp only [Option.isSome_none]
              go_wp2
              go_ret2
              rw [HD.out]
              have := rv_no hWa
              rw [World.size_alloc] at this
              exact this
            | some d =>
              obtain ⟨rfl, rfl, rfl, rfl, rfl, gc, gz, hgc, hgz, hrc, hrz⟩ := hd d hx
              have HSN := Lib.hid (HSK.out d (by rw [HS0.out]; exact hx) (⟨d, Ac, cc, gc, Az, cz, gz⟩ : NV) rfl)
              have ha := ((Below.refl w3.heap.size w3).alloc (Nat.le_refl _) (.cells #[.int .i64 d.k, .string d.n, .slice Ac d.c.length cc, .slice Az d.z.length cz, .int .i64 d.p] 33)).alloc (by rw [World.size_alloc]; omega) (.cells #[.int .i64 d.k, .string d.n, .slice Ac d.c.length cc, .slice Az d.z.length cz, .int .i64 d.p] 33)
              have hba := bel_step hb3 ha
              have hU2 := HM.out.1.kept (grown_of_below hba) (by cases h : (Value.slice AU k cU).ownBlock <;> simp)
              have hR2 := HM.out.2.1.snoc (e := (⟨d, Ac, cc, gc, Az, cz, gz⟩ : NV)) hba hsw ⟨hrc.on ha, hrz.on ha⟩ hgc hgz
              have ht2 := HM.out.2.2.1.kept (grown_of_below hba) (by simp [Value.ownBlock])
              have hW2 := bel_step HM.out.2.2.2 hba
              have hX := reads_node (e := (⟨d, Ac, cc, gc, Az, cz, gz⟩ : NV)) (Blk.new (w3.alloc (.cells #[.int .i64 d.k, .string d.n, .slice Ac d.c.length cc, .slice Az d.z.length cz, .int .i64 d.p] 33)) 33 #[.int .i64 d.k, .string d.n, .slice Ac d.c.length cc, .slice Az d.z.length cz, .int .i64 d.p])
              simp only [World.size_alloc] at hX
              have HX := Lib.hid (And.intro hU2 (And.intro hX (And.intro hR2 (And.intro ht2 hW2))))
              have hone : ∀ u ∈ ncs (⟨d, Ac, cc, gc, Az, cz, gz⟩ : NV), u.oneCell' = true := by simp [ncs, nvc, Value.oneCell']
              have h63 : k + 1 ≤ maxLen := by simp only [maxLen]; omega
              have h64 : (k + 1) * 80 ≤ 140737488355328 := by omega
              have HO1 := Lib.hid hone
              have H63 := Lib.hid h63
              clear hd hx hW3 hb3 hba ha hU2 hR2 ht2 hW2 hX hone h63 hrc hrz hck
              simp only [Option.isSome_some]
              go_wp2_with (at_builtin; refine wpList_append_any _ (by rfl) (.tmp 43) (.tmp 45) 22 (by rfl) w.heap.size 33 i0 _ 5 80 Tryz.underlying22 hi0 hz0 hz1 hz2 rfl (by decide) (.slice AU k cU) k (nflat es) (by rfl) HX.out.1 _ (some ⟨w3.heap.size + 1, 0, none⟩) 1 1 (ncs (⟨d, Ac, cc, gc, Az, cz, gz⟩ : NV)) (by rfl) HX.out.2.1 HO1.out H63.out h64 HX.out.2.2.2.2.size ?_; intro v4 w4 hown4 hgrow4 _)
              have hR4 := HX.out.2.2.1.grown HX.out.1 hgrow4
              have hT4 := HX.out.2.2.2.1.kept hgrow4 (own_ne HX.out.2.2.2.1 HX.out.1 (by decide))
              have hW4 := HX.out.2.2.2.2.grown hgrow4 HX.out.2.2.2.2.size (fun g hg => (HX.out.1.lt g hg).1)
              rw [← nflat_snoc] at hown4
              clear hgrow4
              go_roundw
              case rel => exact ⟨k + 1, es ++ [(⟨d, Ac, cc, gc, Az, cz, gz⟩ : NV)], by omega, by go_num, by rw [List.length_append, HEL.out]; rfl, HSN.out, hown4, hR4, hT4, hW4⟩
              case measure => simp [intOf]; omega
          · have hbb : ((t[0].toNat : Int) != 32) = true := by
              rw [bne_iff_ne, hb0]
              intro e
              exact hb (UInt8.toNat_inj.1 (by show b.toNat = 32; omega))
            have HD := Lib.hid (HNK.out (by unfold stepV; rw [if_neg hk0, hbt]; show (stripB (b :: q)).bind specReadN = none; unfold stripB; simp only; rw [if_neg hb]; rfl))
            have hW5 := HM.out.2.2.2
            clear hbt hk0 hb hb0
            go_wp2
            go_ret2
            rw [HD.out]
            exact rv_no hW5
    · have hd : decide (k < n) = false := by simpa using hlt
      obtain rfl : k = n := by omega
      obtain ⟨G, c, hv, hG, hNA⟩ := nat_of_own (w := wr) (lo := w.heap.size) (es := es) (by rw [HEL.out]; exact hU) (by rw [HEL.out]; exact hn0)
      rw [HEL.out] at hv
      obtain ⟨v, hvv⟩ : ∃ v, es.map NV.d = v := ⟨_, rfl⟩
      have hvl : v.length = k := by rw [← hvv, List.length_map]; exact HEL.out
      have hall := HST.out
      rw [hvv] at hall
      have hSV := HYES.out v hvl hall
      have hfew : k ≤ 1048576 := HFEW.out (by rw [hall 0 hn0]; simp)
      have hft : fitN 1048576 v := fun j hj => by
        have h1 := hall j (by omega)
        have h2 : nodeB (ndx v j) = true := by
          unfold stepV at h1
          split at h1
          · exact (show_readN h1).1
          · cases h3 : stripB (bl (sx ts j)) with
            | none => rw [h3] at h1; cases h1
            | some x => rw [h3] at h1; exact (show_readN h1).1
        exact node_fit h2
      have hnds := (hR.own hNA).nds hvv
      have HVO := Lib.hid (show Calls Tryz.prog 11 #[.slice AU k cU] wr (fun e w' => e = .returned (.bool (viewB v)) ∧ Below wr.heap.size wr w') from by
        rw [hv]
        have := specViewOk_any (some ⟨G, 0, none⟩) c v wr hnds hft (by rw [hvl]; exact hfew)
        rwa [hvl] at this)
      have HF := Lib.hid (And.intro hv (And.intro hG (And.intro hNA (And.intro hR (And.intro hW hvv)))))
      obtain ⟨B, hB⟩ : ∃ B, viewB v = B := ⟨_, rfl⟩
      rw [hB] at HVO hSV
      have HSV := Lib.hid hSV
      clear hv hG hNA hvl hall hSV hft hnds hU hR hT hW hB hvv HM
      go_wp2_with fail
      refine HVO.out.mono ?_
      rintro e w2 ⟨rfl, hb2⟩
      have hW2 := bel_step HF.out.2.2.2.2.1 hb2
      cases B with
      | false =>
        have HD := Lib.hid (show specV (bl s) = none by rw [HSV.out]; rfl)
        go_wp2
        go_ret2
        rw [HD.out]
        exact rv_no hW2
      | true =>
        have HD := Lib.hid (show specV (bl s) = some v by rw [HSV.out]; rfl)
        go_wp2
        go_ret2
        rw [HD.out, HF.out.1]
        have := rv_yes (c := c) (HF.out.2.2.2.1.on hb2) (HF.out.2.2.1.on hb2) HF.out.2.1 hW2 HF.out.2.2.2.2.2
        rw [HEL.out] at this
        exact this
end Go.Proofs.YtpadhcoboapodaaGreatDoor
