/- Contracts of ShowRow, the model's and the program's: both show a row by the same bytes. -/
import Derived.Test.YtedbjjhkjkpnkaaDoorJA
import Derived.Lib.ItoaMem
namespace Go.Proofs.YtedbjjhkjkpnkaaDoor
open Go.RowKit

/-- What the rounds have written ahead of what is left of a. -/
def DigInv (a m : Nat) (l : List UInt8) : Prop := (l = [] ∧ m = a) ∨ (l ≠ [] ∧ if m = 0 then Lib.decDigits a = l else Lib.decDigits a = Lib.decDigits m ++ l)
def emp : Value → Nat | .string b => if b.size = 0 then 1 else 0 | _ => 0
theorem digInv_step {a m : Nat} {l : List UInt8} (h : DigInv a m l) (hgo : l = [] ∨ m ≠ 0) : DigInv a (m / 10) (UInt8.ofNat (48 + m % 10) :: l) := by
  refine .inr ⟨by simp, ?_⟩
  have key : Lib.decDigits m = if m / 10 = 0 then [UInt8.ofNat (48 + m % 10)] else Lib.decDigits (m / 10) ++ [UInt8.ofNat (48 + m % 10)] := by
    rw [Lib.decDigits]
    by_cases h10 : m < 10
    · rw [dif_pos h10, if_pos (by omega), Nat.mod_eq_of_lt h10]
    · rw [dif_neg h10, if_neg (by omega)]
  have hm : Lib.decDigits a = Lib.decDigits m ++ l := by
    rcases h with ⟨rfl, rfl⟩ | ⟨h1, h2⟩
    · simp
    · rcases hgo with h3 | h3
      · exact absurd h3 h1
      · rw [if_neg h3] at h2; exact h2
  by_cases h0 : m / 10 = 0
  · rw [if_pos h0, hm, key, if_pos h0]; rfl
  · rw [if_neg h0, hm, key, if_neg h0]; simp
theorem digInv_end {a m : Nat} {l : List UInt8} (h : DigInv a m l) (h1 : l ≠ []) (h2 : m = 0) : Lib.decDigits a = l := by
  rcases h with ⟨h3, _⟩ | ⟨_, h3⟩
  · exact absurd h3 h1
  · rw [if_pos h2] at h3; exact h3

theorem conv_byte' (w : World) (x : Int) (c : UInt8) (hc : (c.toNat : Int) = x) :
    (convert 22 9 (.slice (some ⟨w.heap.size, 0, none⟩) 1 1)).run Tryd.prog (w.alloc (.cells #[.int .u8 x] 5)) =
      .ok (.string ⟨[c].toArray⟩) (w.alloc (.cells #[.int .u8 x] 5)) := by
  refine run_convert_bytes_back _ 22 9 5 ⟨w.heap.size, 0, none⟩ 1 [c] Tryd.underlying22 Tryd.underlying5 Tryd.underlying9 ?_
  intro j hj
  have hj0 : j = 0 := by simp at hj; omega
  subst hj0
  simp only [List.getElem_cons_zero]
  rw [hc]
  simp [Addr.add]
theorem conv_byte (w : World) (m : Nat) (c : UInt8) (hc : c = UInt8.ofNat (48 + m % 10)) :
    (convert 22 9 (.slice (some ⟨w.heap.size, 0, none⟩) 1 1)).run Tryd.prog (w.alloc (.cells #[.int .u8 (48 + (m : Int) % 10)] 5)) =
      .ok (.string ⟨[c].toArray⟩) (w.alloc (.cells #[.int .u8 (48 + (m : Int) % 10)] 5)) := conv_byte' w _ c (by rw [hc, UInt8.toNat_ofNat']; omega)

theorem bytes_cons (c : UInt8) (sb : ByteArray) : ((⟨#[c]⟩ : ByteArray) ++ sb).data.toList = c :: sb.data.toList := by
  have : (⟨#[c]⟩ : ByteArray) ++ sb = ⟨([c] ++ sb.data.toList).toArray⟩ := by rw [← ByteArray.mk_append_mk]
  rw [this]; simp
theorem size_cons (c : UInt8) (sb : ByteArray) : ((⟨#[c]⟩ : ByteArray) ++ sb).size = sb.size + 1 := by
  have := congrArg List.length (bytes_cons c sb)
  rw [List.length_cons, Array.length_toList, Array.length_toList] at this
  exact this
theorem bytes_eta (sb : ByteArray) (l : List UInt8) (h : sb.data.toList = l) : sb = ⟨l.toArray⟩ := by subst h; rfl

set_option maxRecDepth 100000 in
set_option maxHeartbeats 1000000 in
theorem l1Int_nonneg (a : Nat) (w : World) (h : a ≤ 1000000000) :
    Calls Tryd.prog 34 #[.int .i64 a] w fun e w' => e = .returned (.string ⟨(Lib.decDigits a).toArray⟩) ∧ Below w.heap.size w w' := by
  have hneg : decide ((a : Int) < 0) = false := by simp
  go_enter Tryd.func34, Tryd.ntmps34
  go_wp2
  go_loopw [0, 3, 5] (fun n s _ wr => ∃ (m : Nat) (sb : ByteArray), m ≤ a ∧ n = .int .i64 m ∧ s = .string sb ∧ sb.size + m ≤ a + 1 ∧ DigInv a m sb.data.toList ∧ Below w.heap.size w wr) (fun n s _ _ => (intOf n).toNat + emp s)
  case atStart => exact ⟨a, ⟨#[]⟩, Nat.le_refl _, rfl, rfl, by simp [ByteArray.size], .inl ⟨rfl, rfl⟩, Below.refl _ _⟩
  case round =>
    obtain ⟨m, sb, hm, rfl, rfl, hl, hinv, hbel⟩ := hrel
    have HI := Lib.hid hinv
    obtain ⟨cb, hcb⟩ : ∃ cb : UInt8, cb = UInt8.ofNat (48 + m % 10) := ⟨_, rfl⟩
    have hconv := conv_byte wr m cb hcb
    have HC := Lib.hid hcb
    clear hinv hcb
    by_cases hsb : sb.data.toList = []
    · obtain rfl : sb = ⟨#[]⟩ := bytes_eta sb [] hsb
      clear hsb
      go_wp2
      go_roundw
      case rel => exact ⟨m / 10, _, by omega, by go_num, rfl, by rw [size_cons]; simp [ByteArray.size] at hl ⊢; omega, by rw [bytes_cons, HC.out]; exact digInv_step HI.out (.inl rfl), hbel.alloc hbel.size _⟩
      case measure => simp only [intOf, emp, size_cons]; simp [ByteArray.size]; omega
    · have hsz : 0 < sb.size := by
        have : 0 < sb.data.toList.length := List.length_pos_iff.2 hsb
        rw [Array.length_toList] at this
        exact this
      have HSB := Lib.hid hsb
      have hemp : sb.toList.isEmpty = false := by rw [ByteArray.toList_eq]; cases hx : sb.data.toList with
        | nil => exact absurd hx hsb
        | cons _ _ => rfl
      clear hsb
      by_cases hm0 : m = 0
      · have HE := Lib.hid (bytes_eta sb _ (digInv_end HI.out HSB.out hm0).symm)
        have hb : ((m : Int) != 0) = false := by simp; omega
        clear hconv hm0
        go_wp2
        go_ret
        exact ⟨congrArg (fun x => Ending.returned (.string x)) HE.out, hbel⟩
      · have hb : ((m : Int) != 0) = true := by simp; omega
        go_wp2
        go_roundw
        case rel => exact ⟨m / 10, _, by omega, by go_num, rfl, by rw [size_cons]; omega, by rw [bytes_cons, HC.out]; exact digInv_step HI.out (.inr hm0), hbel.alloc hbel.size _⟩
        case measure => simp only [intOf, emp, size_cons]; simp; omega

set_option maxRecDepth 100000 in
set_option maxHeartbeats 1000000 in
theorem l1Int_neg (a : Nat) (w : World) (h : a ≤ 1000000000) (h1 : 1 ≤ a) :
    Calls Tryd.prog 34 #[.int .i64 (-(a : Int))] w fun e w' => e = .returned (.string ⟨(45 :: Lib.decDigits a).toArray⟩) ∧ Below w.heap.size w w' := by
  have hneg : decide (0 < a) = true := by simp; omega
  go_enter Tryd.func34, Tryd.ntmps34
  go_wp2
  go_loopw [0, 3, 5] (fun n s _ wr => ∃ (m : Nat) (sb : ByteArray), m ≤ a ∧ n = .int .i64 (-(m : Int)) ∧ s = .string sb ∧ sb.size + m ≤ a + 1 ∧ DigInv a m sb.data.toList ∧ Below w.heap.size w wr) (fun n s _ _ => (intOf n).natAbs + emp s)
  case atStart => exact ⟨a, ⟨#[]⟩, Nat.le_refl _, rfl, rfl, by simp [ByteArray.size], .inl ⟨rfl, rfl⟩, Below.refl _ _⟩
  case round =>
    obtain ⟨m, sb, hm, rfl, rfl, hl, hinv, hbel⟩ := hrel
    have HI := Lib.hid hinv
    obtain ⟨cb, hcb⟩ : ∃ cb : UInt8, cb = UInt8.ofNat (48 + m % 10) := ⟨_, rfl⟩
    have hconv := conv_byte wr m cb hcb
    have hconv0 : m % 10 = 0 → _ := fun h10 => conv_byte' wr (48 + -((m : Int) % 10)) cb (by rw [hcb, UInt8.toNat_ofNat']; omega)
    have HC := Lib.hid hcb
    clear hinv hcb
    by_cases hsb : sb.data.toList = []
    · obtain rfl : sb = ⟨#[]⟩ := bytes_eta sb [] hsb
      clear hsb
      by_cases h10 : m % 10 = 0
      · have hc0 := hconv0 h10
        have hd : decide (0 < (m : Int) % 10) = false := by simp; omega
        clear hconv0 hconv h10
        go_wp2
        go_roundw
        case rel => exact ⟨m / 10, _, by omega, by go_num, rfl, by rw [size_cons]; simp [ByteArray.size] at hl ⊢; omega, by rw [bytes_cons, HC.out]; exact digInv_step HI.out (.inl rfl), hbel.alloc hbel.size _⟩
        case measure => simp only [intOf, emp, size_cons]; simp [ByteArray.size]; omega
      · have hd : decide (0 < (m : Int) % 10) = true := by simp; omega
        clear hconv0 h10
        go_wp2
        go_roundw
        case rel => exact ⟨m / 10, _, by omega, by go_num, rfl, by rw [size_cons]; simp [ByteArray.size] at hl ⊢; omega, by rw [bytes_cons, HC.out]; exact digInv_step HI.out (.inl rfl), hbel.alloc hbel.size _⟩
        case measure => simp only [intOf, emp, size_cons]; simp [ByteArray.size]; omega
    · have hsz : 0 < sb.size := by
        have : 0 < sb.data.toList.length := List.length_pos_iff.2 hsb
        rw [Array.length_toList] at this
        exact this
      have HSB := Lib.hid hsb
      have hemp : sb.toList.isEmpty = false := by rw [ByteArray.toList_eq]; cases hx : sb.data.toList with
        | nil => exact absurd hx hsb
        | cons _ _ => rfl
      clear hsb
      by_cases hm0 : m = 0
      · have HE := Lib.hid (bytes_eta sb _ (digInv_end HI.out HSB.out hm0).symm)
        have hb : (-(m : Int) != 0) = false := by simp; omega
        clear hconv hm0 hconv0
        go_wp2
        go_ret
        exact ⟨congrArg (fun x => Ending.returned (.string x)) (by rw [HE.out]; exact ByteArray.mk_append_mk [45] _), hbel⟩
      · have hb : (-(m : Int) != 0) = true := by simp; omega
        by_cases h10 : m % 10 = 0
        · have hc0 := hconv0 h10
          have hd : decide (0 < (m : Int) % 10) = false := by simp; omega
          clear hconv0 hconv h10
          go_wp2
          go_roundw
          case rel => exact ⟨m / 10, _, by omega, by go_num, rfl, by rw [size_cons]; omega, by rw [bytes_cons, HC.out]; exact digInv_step HI.out (.inr hm0), hbel.alloc hbel.size _⟩
          case measure => simp only [intOf, emp, size_cons]; simp; omega
        · have hd : decide (0 < (m : Int) % 10) = true := by simp; omega
          clear hconv0 h10
          go_wp2
          go_roundw
          case rel => exact ⟨m / 10, _, by omega, by go_num, rfl, by rw [size_cons]; omega, by rw [bytes_cons, HC.out]; exact digInv_step HI.out (.inr hm0), hbel.alloc hbel.size _⟩
          case measure => simp only [intOf, emp, size_cons]; simp; omega

theorem l1Int_any (n : Int) (w : World) (h0 : -1000000000 ≤ n) (h1 : n ≤ 1000000000) :
    Calls Tryd.prog 34 #[.int .i64 n] w fun e w' => e = .returned (.string ⟨(Lib.itoa n).toArray⟩) ∧ Below w.heap.size w w' := by
  by_cases hn : 0 ≤ n
  · obtain ⟨a, rfl⟩ := Int.eq_ofNat_of_zero_le hn
    rw [Lib.itoa_nonneg]
    exact l1Int_nonneg a w (by omega)
  · obtain ⟨a, ha⟩ : ∃ a : Nat, n = -(a : Int) := ⟨n.natAbs, by omega⟩
    subst ha
    rw [Lib.itoa_neg a (by omega)]
    exact l1Int_neg a w (by omega) (by omega)
end Go.Proofs.YtedbjjhkjkpnkaaDoor
