/- The walk of laws.FnWith: it returns true, and nothing that lay has turned. -/
import Derived.Test.YthlniadodiomfaaDrawBag3
import Derived.Test.YthlniadodiomfaaBagI3
import Derived.Test.YthlniadodiomfaaBagMark
import Derived.Test.YthlniadodiomfaaWithThy
namespace Go.Proofs.Ythlniadodiomfaa
open Go.RowKit

/-- A bag, a row and a number, drawn from a code. -/
def DrawnBRN (w : World) (e : Ending) (w' : World) : Prop :=
  ∃ g cap bag v row n, e = .returned (.tuple #[.slice (some ⟨g, 0, none⟩) bag.length cap, v, .int .i64 n]) ∧ (∃ A cr, v = .slice A row.length cr ∧ Ints w' w'.heap.size A row) ∧ Bag w' w'.heap.size (some ⟨g, 0, none⟩) bag ∧ bag.length ≤ cap ∧ bag.length ≤ 400 ∧ row.length ≤ 1000 ∧
    ((-3 ≤ n ∧ n ≤ 3) ∨ n = IntKind.i64.wrap (-timesL bag row)) ∧ Below w.heap.size w w'
set_option maxRecDepth 100000 in
set_option maxHeartbeats 2000000 in
theorem drawWith_any (A : Option Addr) (cap : Nat) (zs : List Int) (w : World) (hU : U8s w w.heap.size A zs) (hl : zs.length ≤ 1048576) :
    Calls Try.prog 20 #[.slice A zs.length cap] w (DrawnBRN w) := by
  go_enter Try.func20, Try.ntmps20
  go_wp2_with fail
  refine (drawTimesIn_any A cap zs _ hU hl).mono ?_
  rintro e w1 ⟨g, cp, es, v, row, rfl, hR, hel, hes, hrl, hown, hb1⟩
  have HES := Lib.hid hes
  obtain ⟨bag, hbag⟩ : ∃ bag, es.map Ent.pair = bag := ⟨_, rfl⟩
  have hB := hR.bag (fun e he => by have := HES.out e he; omega)
  have hlb : es.length = bag.length := by rw [← hbag, List.length_map]
  have hcap := hR.cap
  rw [hbag] at hB
  rw [hlb] at hel hcap ⊢
  obtain ⟨Ar, cr, gr, rfl, _, hRr⟩ := Row.of_own hown
  have hI := hRr.ints
  clear hes hbag hlb hR hown hRr HES
  go_wp2_with fail
  refine (l1New_any A cap zs _ (hU.on hb1) hl).mono ?_
  rintro e w2 ⟨rfl, hC2, hb2⟩
  go_wp2_with fail
  refine (l1From_any _ (-3) 3 _ hC2 (by omega) (by omega) (by omega)).mono ?_
  rintro e w3 ⟨n, rfl, hn0, hn1, hC3, hg3⟩
  have hb13 : Below w1.heap.size w1 w3 := hb2.grown hg3 hb2.size (fun k e => by cases e; exact Nat.le_refl _)
  clear hg3 hC2 hb2
  go_wp2_with fail
  refine (l1Once_any _ 3 _ hC3 (by omega) (by omega)).mono ?_
  rintro e w4 ⟨b4, rfl, hC4, hg4⟩
  have hb14 : Below w1.heap.size w1 w4 := hb13.grown hg4 hb13.size (fun k e => by cases e; exact Nat.le_refl _)
  have hB4 := hB.on hb14
  have hI4 := hI.on hb14
  have hb04 := bel_step hb1 hb14
  clear hg4 hC3 hb13 hB hI hb14 hb1 hC4
  cases b4 with
  | false =>
    go_wp2
    go_ret3
    exact ⟨g, cp, bag, _, row, n, rfl, ⟨Ar, cr, rfl, hI4⟩, hB4, hcap, hel, hrl, .inl ⟨hn0, hn1⟩, hb04⟩
  | true =>
    go_wp2_with fail
    refine (specTimesIn_any _ _ _ _ bag row w4 _ _ hB4 hI4 (by omega) (by omega)).mono ?_
    rintro e w5 ⟨rfl, n5, hw5⟩
    have hB5 : Bag w5 w5.heap.size (some ⟨g, 0, none⟩) bag := by rw [hw5]; exact hB4
    have hI5 : Ints w5 w5.heap.size Ar row := by rw [hw5]; exact hI4
    have hb05 : Below w.heap.size w w5 := by rw [hw5]; exact bel_drewN hb04 n5
    clear hw5 hB4 hI4 hb04
    generalize htl : timesL bag row = tl
    have HTL := Lib.hid htl
    clear htl
    go_wp2
    go_ret3
    exact ⟨g, cp, bag, _, row, _, rfl, ⟨Ar, cr, rfl, hI5⟩, hB5, hcap, hel, hrl, .inr (by rw [HTL.out, IntKind.wrap_i64, wrap64]), hb05⟩

theorem times_bd {bag : List (List Int × Int)} (h : bagOkB bag = true) (row : List Int) : -1000000 ≤ timesL bag row ∧ timesL bag row ≤ 1000000 := by
  unfold bagOkB at h
  rw [Bool.and_eq_true] at h
  have hall : ∀ (bag : List (List Int × Int)) (p : Option (List Int)), okFrom p bag = true → -1000000 ≤ timesL bag row ∧ timesL bag row ≤ 1000000 := by
    intro bag
    induction bag with
    | nil => intro p _; simp [timesL]
    | cons x bs ih =>
      obtain ⟨r, n⟩ := x
      intro p hp
      simp only [okFrom, Bool.and_eq_true] at hp
      rw [timesL]
      split
      · have := hp.1.1.2
        simp only [inB, Bool.and_eq_true, decide_eq_true_eq] at this
        exact this
      · exact ih _ hp.2
  exact hall bag none h.1
/-- What the law asks of a bag in order. -/
theorem with_facts {bag : List (List Int × Int)} {row : List Int} {n : Int} (h : bagOkB bag = true) (hn : (-3 ≤ n ∧ n ≤ 3) ∨ n = IntKind.i64.wrap (-timesL bag row)) :
    inB n (-1000000) 1000000 = true ∧ (-1000000 ≤ n ∧ n ≤ 1000000) ∧ (∀ s, s ≠ row → timesL (withAll bag row n) s = timesL bag s) ∧ timesL (withAll bag row n) row = addW (timesL bag row) n ∧ withAll (withAll bag row n) row (-n) = bag := by
  obtain ⟨ht0, ht1⟩ := times_bd h row
  obtain ⟨hsb, hnz⟩ := bagOk_sb h
  have hnb : -1000000 ≤ n ∧ n ≤ 1000000 := by
    rcases hn with hn | hn
    · omega
    · rw [IntKind.wrap_i64] at hn; omega
  have hin : inB n (-1000000) 1000000 = true := by
    unfold inB; rw [decide_eq_true hnb.1, decide_eq_true hnb.2]; rfl
  have hin' : inB (-n) (-1000000) 1000000 = true := by
    unfold inB; rw [decide_eq_true (by omega), decide_eq_true (by omega)]; rfl
  have e0 : addW 0 n = n := by rw [addW_small (by omega) (by omega) (by omega) (by omega)]; omega
  have e0' : addW 0 (-n) = -n := by rw [addW_small (by omega) (by omega) (by omega) (by omega)]; omega
  have hw : withAll bag row n = insL row n bag := by rw [withAll_yes hin, withL_ins]
  have hw' : ∀ b, withAll b row (-n) = insL row (-n) b := fun b => by rw [withAll_yes hin', withL_ins]
  refine ⟨hin, hnb, fun s hs => ?_, ?_, ?_⟩
  · rw [hw, ins_times e0 hsb, if_neg hs]
  · rw [hw, ins_times e0 hsb, if_pos rfl]
  · rw [hw, hw']
    refine canon (ins_sb (ins_sb hsb)) hsb (ins_nz (ins_nz hnz)) hnz fun s => ?_
    rw [ins_times e0' (ins_sb hsb), ins_times e0 hsb, ins_times e0 hsb]
    by_cases e : s = row
    · subst e
      rw [if_pos rfl, if_pos rfl, addW_small (a := timesL bag s) (by omega) (by omega) (by omega) (by omega), addW_small (by omega) (by omega) (by omega) (by omega)]
      omega
    · rw [if_neg e, if_neg e]

set_option maxRecDepth 100000 in
set_option maxHeartbeats 8000000 in
theorem walkFnWith (a0 : Option Addr) (len0 cap0 : Nat) (z0 : List Int) (w : World) (w0 : IsRow .u8 w a0 len0 cap0 z0) :
    Calls Try.prog 3 #[.slice a0 len0 cap0] w fun e w' => e = .returned (.bool true) ∧ Below w.heap.size w w' := by
  obtain ⟨zs, rfl, hU, hm⟩ := isRow_u8 w0
  clear w0
  by_cases hbig : (4096 : Int) < (zs.length : Int)
  · have hd := decide_eq_true hbig
    have HD := Lib.hid hd
    clear hd hbig
    go_enter Try.func3, Try.ntmps3
    go_wp2_with fail
    refine (big_any a0 zs.length cap0 w).mono ?_
    rintro e w1 ⟨rfl, rfl⟩
    rw [HD.out]
    go_wp2
    go_ret
    exact ⟨rfl, Below.refl _ _⟩
  have hd := decide_eq_false hbig
  have HD := Lib.hid hd
  have hzl : zs.length ≤ 1048576 := by omega
  clear hd hbig hm
  go_enter Try.func3, Try.ntmps3
  go_wp2_with fail
  refine (big_any a0 zs.length cap0 w).mono ?_
  rintro e w1 ⟨rfl, rfl⟩
  rw [HD.out]
  go_wp2_with fail
  refine (drawWith_any a0 cap0 zs w hU hzl).mono ?_
  rintro e w1 ⟨g, cap, bag, v, row, n, rfl, ⟨Ar, cr, rfl, hI1⟩, hB1, hcap, hbl, hrl, hn, hb1⟩
  have HN := Lib.hid hn
  clear hn hU
  obtain ⟨W, hW⟩ : ∃ W, withAll bag row n = W := ⟨_, rfl⟩
  have hWl : W.length ≤ 1000 := by have := withAll_length bag row n; rw [hW] at this; omega
  have HW := Lib.hid hW
  have HBle := Lib.hid (show ∀ j, j < bag.length → (rx bag j).length ≤ 1099511627776 from hB1.le)
  have HWle := Lib.hid (show ∀ j, j < W.length → (rx W j).length ≤ 1099511627776 by rw [← hW]; exact withAll_rows hB1.le (by omega))
  clear hW
  go_wp2_with fail
  refine (implWith_own g 0 cap Ar cr bag row n w1 hB1 hcap hI1 (by omega) (by omega)).mono ?_
  rintro e w2 ⟨vx, esx, rfl, hOx, hex, hb2, ⟨gx, hgx⟩⟩
  rw [HW.out] at hex
  obtain ⟨capx, rfl, hOBx⟩ := hOx.ob hgx
  have hlx : esx.length = W.length := by rw [← hex, List.length_map]
  have hcx : W.length ≤ capx := by have := hOBx.parts.choose_spec.2.2.1; omega
  rw [hlx] at hOx ⊢
  have hBx := OBag.bagW hOx hex HWle.out
  have hB2 := hB1.on hb2
  have hI2 := hI1.on hb2
  have hb02 := bel_step hb1 hb2
  clear hex hlx hgx hOx hOBx hB1 hI1 hb1 hb2
  go_wp2_with fail
  refine (specWith_any _ _ _ _ bag row n w2 hB2 hI2 (by omega) (by omega)).mono ?_
  rintro e w3 ⟨vs, ess, rfl, hOs, hes, hb3⟩
  rw [HW.out] at hes
  obtain ⟨As, caps, rfl⟩ := hOs.formW hes
  have hBs := OBag.bagW hOs hes HWle.out
  have hBx3 := hBx.on hb3
  have hB3 := hB2.on hb3
  have hI3 := hI2.on hb3
  have hb03 := bel_step hb02 hb3
  clear hes hOs hBx hB2 hI2 hb02 hb3
  go_wp2_with fail
  refine (likeBag_any _ _ _ _ W W w3 hBx3 hBs (by omega) (by omega)).mono ?_
  rintro e w4 ⟨rfl, n4, hw4⟩
  have hBx4 : Bag w4 w4.heap.size (some ⟨gx, 0, none⟩) W := by rw [hw4]; exact hBx3
  have hB4 : Bag w4 w4.heap.size (some ⟨g, 0, none⟩) bag := by rw [hw4]; exact hB3
  have hI4 : Ints w4 w4.heap.size Ar row := by rw [hw4]; exact hI3
  have hb04 : Below w.heap.size w w4 := by rw [hw4]; exact bel_drewN hb03 n4
  rw [decide_eq_true (rfl : W = W)]
  clear hw4 hBx3 hB3 hI3 hb03 hBs
  go_wp2_with fail
  refine (specBagOk_any _ _ bag w4 _ hB4 (by omega)).mono ?_
  rintro e w5 ⟨rfl, n5, hw5⟩
  have hBx5 : Bag w5 w5.heap.size (some ⟨gx, 0, none⟩) W := by rw [hw5]; exact hBx4
  have hB5 : Bag w5 w5.heap.size (some ⟨g, 0, none⟩) bag := by rw [hw5]; exact hB4
  have hI5 : Ints w5 w5.heap.size Ar row := by rw [hw5]; exact hI4
  have hb05 : Below w.heap.size w w5 := by rw [hw5]; exact bel_drewN hb04 n5
  clear hw5 hBx4 hB4 hI4 hb04
  cases hok : bagOkB bag with
  | false =>
    clear hok
    go_wp2
    go_ret
    exact ⟨rfl, hb05⟩
  | true =>
    obtain ⟨hin, ⟨hn0, hn1⟩, hF1, hF2, hF3⟩ := with_facts hok HN.out
    obtain ⟨hsb, _⟩ := bagOk_sb hok
    rw [HW.out] at hF1 hF2 hF3
    have HF1 := Lib.hid hF1
    have HF2 := Lib.hid hF2
    have HF3 := Lib.hid hF3
    have HSB := Lib.hid hsb
    clear hok hin hF1 hF2 hF3 hsb HN
    go_wp2_with fail
    refine (specRowOk_any Ar cr row w5 _ hI5 (by omega)).mono ?_
    rintro e w6 ⟨rfl, rfl⟩
    cases hro : rowOkB row with
    | false =>
      clear hro
      go_wp2
      go_ret
      exact ⟨rfl, hb05⟩
    | true =>
      clear hro
      go_wp2
      go_loopw [7] (fun i wr => ∃ k : Nat, k ≤ bag.length ∧ i = .int .i64 k ∧ Below w5.heap.size w5 wr) (fun i _ => bag.length - (intOf i).toNat)
      case atStart => exact ⟨0, Nat.zero_le _, rfl, Below.refl _ _⟩
      case round =>
        obtain ⟨k, hk, rfl, hWr⟩ := hrel
        have hBxr := hBx5.on hWr
        have hIr := hI5.on hWr
        by_cases hlt : k < bag.length
        · obtain ⟨b, off, hbb, hblt, hc⟩ := hB5 (by omega)
          obtain ⟨rfl, rfl⟩ : g = b ∧ 0 = off := by simpa using hbb
          obtain ⟨Ak, ck, c1, c2, c3, c4⟩ := hc k hlt
          rw [Nat.zero_add] at c1 c2
          clear hc hbb
          have h1 : wr.cell? ⟨g, k * 2, none⟩ = some (.slice Ak (rx bag k).length ck) := (hWr.cell hblt).trans c1
          have h2 : wr.cell? ⟨g, k * 2 + 1, none⟩ = some (.int .i64 (nx bag k)) := (hWr.cell hblt).trans c2
          have h3 := c3.on hWr
          have hk0 : (0 : Int) ≤ (k : Int) := Int.natCast_nonneg _
          have hk1 : (k : Int) < (bag.length : Int) := by omega
          have HC := Lib.hid (And.intro c1 c2)
          clear c1 c2
          by_cases he : rx bag k = row
          · have HE := Lib.hid he
            clear he
            go_wp2_with fail
            go_quiet (first | (go_at_call 26; exact Calls.quiet_of (likeRow_yes Ak Ar ck cr (rx bag k) row _ _ _ (by exact h3) (by exact hIr) c4 (by omega) HE.out)))
            go_wp2
            go_roundw
            case rel => exact ⟨k + 1, by omega, by go_num, bel_drewN hWr _⟩
            case measure => simp [intOf]; omega
          · have hts : timesL W (rx bag k) = nx bag k := by rw [HF1.out _ he, times_at HSB.out hlt]
            have HTS := Lib.hid hts
            have HE := Lib.hid he
            have hz : (timesL W (rx bag k) != nx bag k) = false := by rw [hts]; simp
            clear he hts
            go_wp2_with fail
            go_region_held3 (fun w' => w'.cell? ⟨g, k * 2, none⟩ = some (.slice Ak (rx bag k).length ck) ∧ w'.cell? ⟨g, k * 2 + 1, none⟩ = some (.int .i64 (nx bag k)))
              (first | go_keep | exact ⟨(hkB.cell hblt).trans HC.out.1, (hkB.cell hblt).trans HC.out.2⟩ | exact ⟨(hkA.cell hblt).trans HC.out.1, (hkA.cell hblt).trans HC.out.2⟩)
              (first | (go_at_call 26; refine (likeRow_no Ak Ar ck cr (rx bag k) row _ _ _ (by exact h3) (by exact hIr) c4 (by omega) HE.out).mono ?_; rintro e wA ⟨rfl, nA, hwA⟩; have hkA : Below w5.heap.size w5 wA := (by rw [hwA]; exact bel_drewN (bel_drewN hWr 1) nA); clear hwA) | (go_at_call 27; refine (implTimesIn_any _ _ _ _ W (rx bag k) wA (hBx5.on hkA) (c3.on hkA) (by omega) c4).mono ?_; rintro e wB ⟨rfl, hbB⟩; have hkB := bel_step hkA hbB))
            go_wp2
            go_roundw
            case rel => exact ⟨k + 1, by omega, by go_num, hkB⟩
            case measure => simp [intOf]; omega
        · have hdk : decide (k < bag.length) = false := by simpa using hlt
          have hBr := hB5.on hWr
          have hbr := bel_step hb05 hWr
          clear hBx5 hB5 hI5 hb05 hWr HF1 HSB
          go_wp2_with fail
          refine (implTimesIn_any _ _ _ _ W row wr hBxr hIr (by omega) (by omega)).mono ?_
          rintro e w7 ⟨rfl, hb7⟩
          rw [HF2.out]
          have hBx7 := hBxr.on hb7
          have hB7 := hBr.on hb7
          have hI7 := hIr.on hb7
          have hb07 := bel_step hbr hb7
          clear hBxr hBr hIr hbr hb7
          go_wp2_with fail
          refine (specTimesIn_any _ _ _ _ bag row w7 _ _ hB7 hI7 (by omega) (by omega)).mono ?_
          rintro e w8 ⟨rfl, n8, hw8⟩
          have hBx8 : Bag w8 w8.heap.size (some ⟨gx, 0, none⟩) W := by rw [hw8]; exact hBx7
          have hB8 : Bag w8 w8.heap.size (some ⟨g, 0, none⟩) bag := by rw [hw8]; exact hB7
          have hI8 : Ints w8 w8.heap.size Ar row := by rw [hw8]; exact hI7
          have hb08 : Below w.heap.size w w8 := by rw [hw8]; exact bel_drewN hb07 n8
          have hadd : IntKind.i64.wrap (timesL bag row + n) = addW (timesL bag row) n := rfl
          have hadd' : wrap64 (timesL bag row + n) = addW (timesL bag row) n := by unfold addW; rw [IntKind.wrap_i64, wrap64]
          clear hw8 hBx7 hB7 hI7 hb07
          go_wp2_with fail
          refine (implWith_own gx 0 capx Ar cr W row (-n) w8 hBx8 hcx hI8 (by omega) (by omega)).mono ?_
          rintro e w9 ⟨vy, esy, rfl, hOy, hey, hb9, _⟩
          rw [HF3.out] at hey
          obtain ⟨Ay, capy, rfl⟩ := hOy.formW hey
          have hBy := OBag.bagW hOy hey HBle.out
          have hB9 := hB8.on hb9
          have hb09 := bel_step hb08 hb9
          clear hey hOy hBx8 hB8 hI8 hb08 hb9 hadd hadd'
          go_wp2_with fail
          refine (likeBag_any _ _ _ _ bag bag w9 hBy hB9 (by omega) (by omega)).mono ?_
          rintro e w10 ⟨rfl, n10, hw10⟩
          have hb10 : Below w.heap.size w w10 := by rw [hw10]; exact bel_drewN hb09 n10
          rw [decide_eq_true (rfl : bag = bag)]
          clear hw10 hBy hB9 hb09
          go_wp2
          go_ret
          exact ⟨rfl, hb10⟩
end Go.Proofs.Ythlniadodiomfaa
