/- The model's ShowView: the text of a view, else the empty one; nothing that lay has turned. -/
import Derived.Test.YtcenfabjpgpofaaDoorNodT
import Derived.Test.YtcenfabjpgpofaaDoorNod2
import Derived.Test.YtcenfabjpgpofaaDoorCndX
import Derived.Deep.RegionLaw
namespace Go.Proofs.YtcenfabjpgpofaaDoor
open Go.RowKit

def wordsA : Array Value := #[.string (wnx 1), .string (wnx 2), .string (wnx 3), .string (wnx 4), .string (wnx 5), .string (wnx 6), .string (wnx 7)]
theorem wordsA_get {q : Nat} (h1 : 1 ≤ q) (h7 : q ≤ 7) : wordsA[q - 1]? = some (.string (wnx q)) := by
  have : q = 1 ∨ q = 2 ∨ q = 3 ∨ q = 4 ∨ q = 5 ∨ q = 6 ∨ q = 7 := by omega
  rcases this with rfl | rfl | rfl | rfl | rfl | rfl | rfl <;> rfl
theorem l8Words_any (w : World) :
    Calls Tryd.prog 43 #[] w fun e w' => e = .returned (.slice (some ⟨w.heap.size, 0, none⟩) 7 7) ∧ Blk w' w.heap.size 9 wordsA ∧ Below w.heap.size w w' := by
  go_enter Tryd.func43, Tryd.ntmps43
  go_wp2
  go_ret
  exact ⟨rfl, Blk.new w _ _, (Below.refl _ _).alloc (Nat.le_refl _) _⟩
theorem size_of_bl {s : ByteArray} {l : List UInt8} (h : bl s = l) : s.size = l.length := by rw [← h, bl_length]
theorem mk_eta {s : ByteArray} {l : List UInt8} (h : bl s = l) : s = mkB l := bl_eta s l h

set_option maxRecDepth 100000 in
set_option maxHeartbeats 2000000 in
theorem l8Show_any (d : Nd) (Ac : Option Addr) (cc : Nat) (Az : Option Addr) (cz : Nat) (w : World) (hC : Cnds w w.heap.size Ac d.c) (hZ : Ints w w.heap.size Az d.z) (hd : nodeB d = true) :
    Calls Tryd.prog 33 #[.agg #[.int .i64 d.k, .string d.n, .slice Ac d.c.length cc, .slice Az d.z.length cz, .int .i64 d.p]] w fun e w' => e = .returned (.string (mkB (nodeL d))) ∧ Below w.heap.size w w' := by
  obtain ⟨q, hr⟩ := right_of hd
  have HR := Lib.hid hr
  obtain ⟨S, hS⟩ : ∃ S, mkB (nodeL d) = S := ⟨_, rfl⟩
  have HS := Lib.hid hS
  rw [hS]
  have hq := hr.kq
  have q1 := hr.q1
  have q7 := hr.q7
  have hW5 := wnx_size q7
  have hzl := hr.len
  have bc := (Below.refl w.heap.size w).alloc (Nat.le_refl _) (.cells #[.int .i64 d.k, .string d.n, .slice Ac d.c.length cc, .slice Az d.z.length cz, .int .i64 d.p] 30)
  have B := Blk.new w 30 #[.int .i64 d.k, .string d.n, .slice Ac d.c.length cc, .slice Az d.z.length cz, .int .i64 d.p]
  have hCb := hC.on bc
  have hZb := hZ.on bc
  rw [hq] at bc B hCb hZb ⊢
  have hwk : IntKind.i64.wrap ((q : Int) - 1) = ((q - 1 : Nat) : Int) := by rw [IntKind.wrap_i64]; omega
  have hj7 : ((q - 1 : Nat) : Int) < 7 := by omega
  have HWQ := Lib.hid (show ∀ W G, Blk W G 9 wordsA → W.cell? ⟨G, q - 1, none⟩ = some (.string (wnx q)) from fun W G h => by rw [h.cell (q - 1), wordsA_get q1 q7])
  obtain ⟨c0, c1, c2, c3, c4⟩ := B.c5
  obtain ⟨Wd, hWd⟩ : ∃ Wd, wnx q = Wd := ⟨_, rfl⟩
  have HWD := Lib.hid hWd
  rw [hWd] at hW5 HWQ
  generalize q - 1 = j at *
  clear hr hS hd hC hZ hWd hq
  go_enter Tryd.func33, Tryd.ntmps33
  go_wp2_with fail
  generalize w.alloc (.cells #[.int .i64 (q : Int), .string d.n, .slice Ac d.c.length cc, .slice Az d.z.length cz, .int .i64 d.p] 30) = wb at *
  go_region_law (first | (go_simp; refine (l8Words_any _).mono ?_; rintro e w1 ⟨rfl, hB1, hb1⟩; have qc : w1.cell? ⟨wb.heap.size, j, none⟩ = some (.string Wd) := HWQ.out w1 _ hB1; have BD1 := (B.drewN 1).on hb1; have hC1 := (hCb.drewN 1).on hb1; have hZ1 := (hZb.drewN 1).on hb1; have hW1 : Below w.heap.size w w1 := bel_step bc ((bel_drewN (Below.refl _ _) 1).trans hb1); obtain ⟨d0, d1, d2, d3, d4⟩ := BD1.c5))
  all_goals
    have HBD := Lib.hid BD1
    clear hb1 hB1 qc B BD1 c0 c1 c2 c3 c4 hCb hZb hwk hj7 HWQ bc
    have hts : (Wd ++ (⟨#[32]⟩ : ByteArray)).size ≤ 6 := by rw [ByteArray.size_append]; show Wd.size + 1 ≤ 6; omega
    by_cases h1 : q = 1
    · have hk1 : ((q : Int) == 1) = true := by rw [beq_iff_eq]; omega
      have hns := HR.out.name h1
      have HE := Lib.hid (show (Wd ++ (⟨#[32]⟩ : ByteArray)) ++ d.n = S by
        rw [← HS.out]
        refine mk_eta ?_
        rw [bl_append, bl_append, nodeL_name HR.out h1, ← HWD.out, h1]; rfl)
      clear h1
      go_wp2
      go_ret
      exact ⟨congrArg (fun s => Ending.returned (.string s)) HE.out, hW1⟩
    have hk1 : ((q : Int) == 1) = false := by rw [beq_eq_false_iff_ne]; omega
    by_cases h2 : q = 2
    · have hk2 : ((q : Int) == 2) = true := by rw [beq_iff_eq]; omega
      have hrc := HR.out.cond h2
      have HRC := Lib.hid (rightB_iff.1 hrc)
      obtain ⟨Cb, hCb⟩ : ∃ Cb, mkB (if d.c = [] then [45] else cat [44] (d.c.map showC)) = Cb := ⟨_, rfl⟩
      have hcs : bl Cb = showCs d.c := by rw [← hCb, bl_mkB]; unfold showCs; rw [if_pos hrc]
      have hcz : Cb.size ≤ 141 := by rw [size_of_bl hcs]; exact showCs_le hrc
      have HE := Lib.hid (show (Wd ++ (⟨#[32]⟩ : ByteArray)) ++ Cb = S by
        rw [← HS.out]
        refine mk_eta ?_
        rw [bl_append, bl_append, nodeL_cond HR.out h2, ← HWD.out, h2, hcs]; rfl)
      have HCB := Lib.hid hCb
      clear h1 h2 hrc hcs hCb
      go_wp2_with fail
      refine (l7Show_any Ac cc d.c w1 hC1 HRC.out.1 HRC.out.2).mono ?_
      rintro e w2 ⟨rfl, hb2⟩
      rw [HCB.out]
      have hW2 := bel_step hW1 hb2
      go_wp2
      go_ret
      exact ⟨congrArg (fun s => Ending.returned (.string s)) HE.out, hW2⟩
    have hk2 : ((q : Int) == 2) = false := by rw [beq_eq_false_iff_ne]; omega
    have HM := Lib.hid (nodeL_more HR.out (by omega))
    have HPZ := Lib.hid (places_cell HR.out.pl)
    have hp1 := HR.out.p0
    have hp5 := HR.out.p5
    have hil := itoa_short hp1 hp5
    obtain ⟨Pb, hPb⟩ : ∃ Pb, mkB (Lib.itoa d.p) = Pb := ⟨_, rfl⟩
    have hpb : bl Pb = Lib.itoa d.p := by rw [← hPb, bl_mkB]
    have hpz : Pb.size ≤ 22 := by rw [size_of_bl hpb]; exact hil
    have HPB := Lib.hid hPb
    have HPL := Lib.hid hpb
    clear h1 h2 hPb hpb hil
    by_cases hz : 0 < d.z.length
    · have hnz : ¬ d.z = [] := fun e => by rw [e] at hz; exact absurd hz (by simp)
      have hlen := (numbersL_len d.z HPZ.out).1
      obtain ⟨Nb, hNb⟩ : ∃ Nb : ByteArray, (⟨(numbersL d.z).toArray⟩ : ByteArray) = Nb := ⟨_, rfl⟩
      have hnb : bl Nb = numbersL d.z := by rw [← hNb, bl_mk]
      have hnz2 : Nb.size ≤ 200 := by rw [size_of_bl hnb]; omega
      have HNB := Lib.hid hNb
      obtain ⟨T, hT⟩ : ∃ T, (Wd ++ (⟨#[32]⟩ : ByteArray)) ++ Nb = T := ⟨_, rfl⟩
      have hTz : T.size ≤ 206 := by rw [← hT, ByteArray.size_append]; omega
      have hTs : (T ++ (⟨#[32, 115, 117, 109, 32]⟩ : ByteArray)).size ≤ 211 := by rw [ByteArray.size_append]; show T.size + 5 ≤ 211; omega
      have HTB := Lib.hid (show bl T = bl (wnx q) ++ ([32] ++ numbersL d.z) by rw [← hT, bl_append, bl_append, hnb, HWD.out]; simp [bl])
      have HT := Lib.hid hT
      have HNL := Lib.hid (show (numbersL d.z).length ≤ 1099511627776 by omega)
      clear hNb hnb hlen hT
      go_wp2_with fail
      refine (l1Numbers_any Az cz d.z w1 hZ1 (by omega) HPZ.out HNL.out).mono ?_
      rintro e w2 ⟨rfl, hb2⟩
      rw [HNB.out]
      have hW2 := bel_step hW1 hb2
      have BD2 := HBD.out.on hb2
      clear d0 d1 d2 d3 d4
      obtain ⟨d0, d1, d2, d3, d4⟩ := BD2.c5
      by_cases hp : 0 ≤ d.p
      · have HE := Lib.hid (show (T ++ (⟨#[32, 115, 117, 109, 32]⟩ : ByteArray)) ++ Pb = S by
          rw [← HS.out]
          refine mk_eta ?_
          rw [bl_append, bl_append, HM.out, HTB.out, HPL.out, if_neg hnz, if_neg (show ¬ d.p = -1 by omega)]
          simp [bl])
        go_wp2_with (first | (go_at_call 45; fail) | (go_at_call 46; refine (l1Int_any d.p _ (by omega) (by omega)).mono ?_; rintro e w3 ⟨rfl, hb3⟩; rw [show (⟨(Lib.itoa d.p).toArray⟩ : ByteArray) = Pb from HPB.out]))
        go_ret
        exact ⟨congrArg (fun s => Ending.returned (.string s)) (by rw [← HE.out, ← HT.out]), bel_step hW2 hb3⟩
      · have hpd : decide (0 ≤ d.p) = false := decide_eq_false hp
        have HE := Lib.hid (show T = S by
          rw [← HS.out]
          refine mk_eta ?_
          rw [HM.out, HTB.out, if_neg hnz, if_pos (show d.p = -1 by omega), List.append_nil])
        clear hp
        go_wp2
        go_ret
        exact ⟨congrArg (fun s => Ending.returned (.string s)) (by rw [← HE.out, ← HT.out]), hW2⟩
    · have hz0 : d.z = [] := List.length_eq_zero_iff.1 (by omega)
      have hzd : decide (0 < d.z.length) = false := decide_eq_false hz
      obtain ⟨T, hT⟩ : ∃ T, Wd = T := ⟨_, rfl⟩
      have hTz : T.size ≤ 206 := by rw [← hT]; omega
      have hTs : (T ++ (⟨#[32, 115, 117, 109, 32]⟩ : ByteArray)).size ≤ 211 := by rw [ByteArray.size_append]; show T.size + 5 ≤ 211; omega
      have HTB := Lib.hid (show bl T = bl (wnx q) ++ [] by rw [← hT, HWD.out, List.append_nil])
      subst hT
      have HZ0 := Lib.hid hz0
      clear hz0 hz
      clear d0 d1 d2 d3 d4
      obtain ⟨d0, d1, d2, d3, d4⟩ := HBD.out.c5
      by_cases hp : 0 ≤ d.p
      · have HE := Lib.hid (show (Wd ++ (⟨#[32, 115, 117, 109, 32]⟩ : ByteArray)) ++ Pb = S by
          rw [← HS.out]
          refine mk_eta ?_
          rw [bl_append, bl_append, HM.out, HTB.out, HPL.out, if_pos HZ0.out, if_neg (show ¬ d.p = -1 by omega)]
          simp [bl])
        go_wp2_with (first | (go_at_call 45; fail) | (go_at_call 46; refine (l1Int_any d.p _ (by omega) (by omega)).mono ?_; rintro e w3 ⟨rfl, hb3⟩; rw [show (⟨(Lib.itoa d.p).toArray⟩ : ByteArray) = Pb from HPB.out]))
        go_ret
        exact ⟨congrArg (fun s => Ending.returned (.string s)) HE.out, bel_step hW1 hb3⟩
      · have hpd : decide (0 ≤ d.p) = false := decide_eq_false hp
        have HE := Lib.hid (show Wd = S by
          rw [← HS.out]
          refine mk_eta ?_
          rw [HM.out, HTB.out, if_pos HZ0.out, if_pos (show d.p = -1 by omega), List.append_nil, List.append_nil])
        clear hp
        go_wp2
        go_ret
        exact ⟨congrArg (fun s => Ending.returned (.string s)) HE.out, hW1⟩
end Go.Proofs.YtcenfabjpgpofaaDoor
