/- The laws' text of a mark: the letter m and the digits; nothing that lay has turned. -/
import Derived.Test.YtedbjjhkjkpnkaaText1
namespace Go.Proofs.Ytedbjjhkjkpnkaa
open Go.RowKit

/-- The letter m and the digits. -/
def mt (a : Nat) : ByteArray := ⟨(109 :: Lib.decDigits a).toArray⟩
theorem mt_eq (sb : ByteArray) (a : Nat) (h : sb = ⟨(Lib.decDigits a).toArray⟩) : (⟨#[109]⟩ : ByteArray) ++ sb = mt a := by
  refine bl_eta _ _ ?_
  rw [bl_append, h, bl_mk]; rfl
set_option maxRecDepth 100000 in
set_option maxHeartbeats 1000000 in
theorem markText_any (a : Nat) (w : World) (h1 : 1 ≤ a) (h : a ≤ 1000000000) :
    Calls Try.prog 54 #[.int .i64 a] w fun e w' => e = .returned (.string (mt a)) ∧ Below w.heap.size w w' := by
  have hneg : decide ((a : Int) ≤ 0) = false := by simp; omega
  go_enter Try.func54, Try.ntmps54
  go_wp2
  go_loopw [0, 3] (fun n s wr => ∃ (m : Nat) (sb : ByteArray), m ≤ a ∧ n = .int .i64 m ∧ s = .string sb ∧ sb.size + m ≤ a + 1 ∧ DigInv a m sb.data.toList ∧ Below w.heap.size w wr) (fun n s _ => (intOf n).toNat)
  case atStart => exact ⟨a, ⟨#[]⟩, Nat.le_refl _, rfl, rfl, by simp [ByteArray.size], .inl ⟨rfl, rfl⟩, Below.refl _ _⟩
  case round =>
    obtain ⟨m, sb, hm, rfl, rfl, hl, hinv, hbel⟩ := hrel
    have HI := Lib.hid hinv
    obtain ⟨cb, hcb⟩ : ∃ cb : UInt8, cb = UInt8.ofNat (48 + m % 10) := ⟨_, rfl⟩
    have hconv := conv_byte wr m cb hcb
    have HC := Lib.hid hcb
    clear hinv hcb
    by_cases hm0 : m = 0
    · have HE := Lib.hid (show sb = ⟨(Lib.decDigits a).toArray⟩ from bytes_eta sb _ (by
        rcases HI.out with ⟨_, e⟩ | ⟨h1, h2⟩
        · omega
        · rw [if_pos hm0] at h2; exact h2.symm))
      subst hm0
      clear hconv
      go_wp2
      go_ret
      exact ⟨congrArg (fun x => Ending.returned (.string x)) (mt_eq sb a HE.out), hbel⟩
    · have hb : decide ((0 : Int) < (m : Int)) = true := by simp; omega
      have hb2 : decide (0 < m) = true := by simp; omega
      go_wp2
      go_roundw
      case rel => exact ⟨m / 10, _, by omega, by go_num, rfl, by rw [size_cons]; omega, by rw [bytes_cons, HC.out]; exact digInv_step HI.out (.inr hm0), hbel.alloc hbel.size _⟩
      case measure => simp only [intOf]; omega

end Go.Proofs.Ytedbjjhkjkpnkaa
