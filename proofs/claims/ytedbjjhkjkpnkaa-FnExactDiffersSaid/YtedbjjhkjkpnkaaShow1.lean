/- Contracts of ShowRow, the model's and the program's: both show a row by the same bytes. -/
import Derived.Test.YtedbjjhkjkpnkaaJA
import Derived.Lib.ItoaMem
namespace Go.Proofs.Ytedbjjhkjkpnkaa
open Go.RowKit

/-- What the rounds have written ahead of what is left of a. -/
def DigInv (a m : Nat) (l : List UInt8) : Prop := (l = [] ∧ m = a) ∨ (l ≠ [] ∧ if m = 0 then Lib.decDigits a = l else Lib.decDigits a = Lib.decDigits m ++ l)
def emp : Value → Nat | .string b => if b.size = 0 then 1 else 0 | _ => 0
theorem digInv_step {a m : Nat} {l : List UInt8} (h : DigInv a m l) (hgo : l = [] ∨ m ≠ 0) : DigInv a (m / 10) (UInt8.ofNat (48 + m % 10) :: l) := by
  refine .inr ⟨by simp, ?_⟩
  have key : Lib.decDigits m = if m / 10 = 0 then [UInt8.ofNat (48 + m % 10)] else Lib.decDigits (m / 10) ++ [UInt8.ofNat (48 + m % 10)] := by
    rw [Lib.decDigits]
    by_cases h10 : m < 10
    · rw [dif_pos h10, if_pos (by omega), Nat.mod_eq_of_lt h10]
    · rw [dif_neg h10, if_neg (by omega)]
  have hm : Lib.decDigits a = Lib.decDigits m ++ l := by
    rcases h with ⟨rfl, rfl⟩ | ⟨h1, h2⟩
    · simp
    · rcases hgo with h3 | h3
      · exact absurd h3 h1
      · rw [if_neg h3] at h2; exact h2
  by_cases h0 : m / 10 = 0
  · rw [if_pos h0, hm, key, if_pos h0]; rfl
  · rw [if_neg h0, hm, key, if_neg h0]; simp
theorem digInv_end {a m : Nat} {l : List UInt8} (h : DigInv a m l) (h1 : l ≠ []) (h2 : m = 0) : Lib.decDigits a = l := by
  rcases h with ⟨h3, _⟩ | ⟨_, h3⟩
  · exact absurd h3 h1
  · rw [if_pos h2] at h3; exact h3

theorem conv_byte' (w : World) (x : Int) (c : UInt8) (hc : (c.toNat : Int) = x) :
    (convert 43 9 (.slice (some ⟨w.heap.size, 0, none⟩) 1 1)).run Try.prog (w.alloc (.cells #[.int .u8 x] 5)) =
      .ok (.string ⟨[c].toArray⟩) (w.alloc (.cells #[.int .u8 x] 5)) := by
  refine run_convert_bytes_back _ 43 9 5 ⟨w.heap.size, 0, none⟩ 1 [c] Try.underlying43 Try.underlying5 Try.underlying9 ?_
  intro j hj
  have hj0 : j = 0 := by simp at hj; omega
  subst hj0
  simp only [List.getElem_cons_zero]
  rw [hc]
  simp [Addr.add]
theorem conv_byte (w : World) (m : Nat) (c : UInt8) (hc : c = UInt8.ofNat (48 + m % 10)) :
    (convert 43 9 (.slice (some ⟨w.heap.size, 0, none⟩) 1 1)).run Try.prog (w.alloc (.cells #[.int .u8 (48 + (m : Int) % 10)] 5)) =
      .ok (.string ⟨[c].toArray⟩) (w.alloc (.cells #[.int .u8 (48 + (m : Int) % 10)] 5)) := conv_byte' w _ c (by rw [hc, UInt8.toNat_ofNat']; omega)

theorem bytes_cons (c : UInt8) (sb : ByteArray) : ((⟨#[c]⟩ : ByteArray) ++ sb).data.toList = c :: sb.data.toList := by
  have : (⟨#[c]⟩ : ByteArray) ++ sb = ⟨([c] ++ sb.data.toList).toArray⟩ := by rw [← ByteArray.mk_append_mk]
  rw [this]; simp
theorem size_cons (c : UInt8) (sb : ByteArray) : ((⟨#[c]⟩ : ByteArray) ++ sb).size = sb.size + 1 := by
  have := congrArg List.length (bytes_cons c sb)
  rw [List.length_cons, Array.length_toList, Array.length_toList] at this
  exact this
theorem bytes_eta (sb : ByteArray) (l : List UInt8) (h : sb.data.toList = l) : sb = ⟨l.toArray⟩ := by subst h; rfl

end Go.Proofs.Ytedbjjhkjkpnkaa
