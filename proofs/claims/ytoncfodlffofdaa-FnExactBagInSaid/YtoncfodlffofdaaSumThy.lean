/- Plain facts for stage 3: the sum of two bags, a bag turned round, a change from one to another. No program is spoken of. -/
import Derived.Test.YtoncfodlffofdaaWithThy
namespace Go.Proofs.Ytoncfodlffofdaa
open Go.RowKit

/-- Each count of b added to a, one after the other. -/
def plusL (a b : List (List Int × Int)) : List (List Int × Int) := b.foldl (fun acc p => withL acc p.1 p.2) a
def minusL (a : List (List Int × Int)) : List (List Int × Int) := a.map fun p => (p.1, -p.2)
def changeL (a b : List (List Int × Int)) : List (List Int × Int) := plusL b (minusL a)
/-- In order, no count of 0, every count within m. -/
def Fit (m : Int) (b : List (List Int × Int)) : Prop := SB b ∧ NZ b ∧ ∀ p ∈ b, -m ≤ p.2 ∧ p.2 ≤ m
theorem times_within {m : Int} (hm : 0 ≤ m) : ∀ {b : List (List Int × Int)}, (∀ p ∈ b, -m ≤ p.2 ∧ p.2 ≤ m) → ∀ s, -m ≤ timesL b s ∧ timesL b s ≤ m
  | [], _, s => by simp [timesL]; omega
  | (r, n) :: bs, h, s => by
    have h1 := h (r, n) (by simp)
    have h2 := times_within hm (b := bs) (fun p hp => h p (by simp [hp])) s
    simp only at h1
    rw [timesL]
    split
    · exact h1
    · exact h2
theorem times_mem : ∀ {b : List (List Int × Int)}, SB b → ∀ p ∈ b, timesL b p.1 = p.2
  | (r, n) :: bs, h, p, hp => by
    rcases List.mem_cons.1 hp with e | hp
    · rw [e]; simp [timesL]
    · have hlt := (List.pairwise_cons.1 h).1 p hp
      have hne : ¬ r = p.1 := less_ne hlt
      rw [timesL]
      simp only [hne, if_false]
      exact times_mem (List.pairwise_cons.1 h).2 p hp
theorem plus_facts : ∀ {b a : List (List Int × Int)} {m : Int}, 0 ≤ m → m + 1000000 * (b.length : Int) ≤ 1099511627776 → SB a → NZ a → (∀ s, -m ≤ timesL a s ∧ timesL a s ≤ m) → SB b → (∀ p ∈ b, -1000000 ≤ p.2 ∧ p.2 ≤ 1000000) →
    SB (plusL a b) ∧ NZ (plusL a b) ∧ ∀ s, timesL (plusL a b) s = timesL a s + timesL b s
  | [], a, m, _, _, h1, h2, _, _, _ => ⟨h1, h2, fun s => by simp [plusL, timesL]⟩
  | (r, n) :: bs, a, m, hm, hl, h1, h2, ht, hs, hb => by
    have hn := hb (r, n) (by simp)
    simp only at hn
    have e0 : addW 0 n = n := by rw [addW_small (by omega) (by omega) (by omega) (by omega)]; omega
    have hlen : (((r, n) :: bs).length : Int) = (bs.length : Int) + 1 := by simp
    rw [hlen] at hl
    have hin := ins_times (row := r) e0 h1
    have hr := ht r
    have ea : addW (timesL a r) n = timesL a r + n := addW_small (by omega) (by omega) (by omega) (by omega)
    obtain ⟨k1, k2, k3⟩ := plus_facts (b := bs) (a := insL r n a) (m := m + 1000000) (by omega) (by omega) (ins_sb h1) (ins_nz h2) (fun s => by
      rw [hin s]
      have := ht s
      split
      · rw [ea]; omega
      · omega) (List.pairwise_cons.1 hs).2 (fun p hp => hb p (by simp [hp]))
    have e1 : plusL a ((r, n) :: bs) = plusL (insL r n a) bs := by simp only [plusL, List.foldl_cons]; rw [withL_ins]
    rw [e1]
    refine ⟨k1, k2, fun s => ?_⟩
    rw [k3 s, hin s]
    by_cases e : s = r
    · subst e
      have h0 : timesL bs s = 0 := timesL_zero (sb_behind hs (.inr rfl))
      rw [if_pos rfl, ea, h0]
      simp [timesL]
    · rw [if_neg e, timesL]
      simp [Ne.symm e]
theorem minus_times : ∀ (a : List (List Int × Int)) (s : List Int), timesL (minusL a) s = -timesL a s
  | [], s => by simp [minusL, timesL]
  | (r, n) :: bs, s => by
    have ih := minus_times bs s
    unfold minusL at ih ⊢
    simp only [List.map_cons, timesL]
    split
    · rfl
    · exact ih
theorem minus_sb {a : List (List Int × Int)} (h : SB a) : SB (minusL a) := by
  unfold SB minusL at *
  exact List.pairwise_map.2 h
theorem minus_nz {a : List (List Int × Int)} (h : NZ a) : NZ (minusL a) := by
  intro p hp
  obtain ⟨q, hq, rfl⟩ := List.mem_map.1 hp
  have := h q hq
  simp only; omega
theorem minus_minus (a : List (List Int × Int)) : minusL (minusL a) = a := by
  unfold minusL
  rw [List.map_map]
  conv => rhs; rw [← List.map_id a]
  refine List.map_congr_left fun p _ => ?_
  simp
theorem Fit.minus {m : Int} {a : List (List Int × Int)} (h : Fit m a) : Fit m (minusL a) := by
  refine ⟨minus_sb h.1, minus_nz h.2.1, fun p hp => ?_⟩
  obtain ⟨q, hq, rfl⟩ := List.mem_map.1 hp
  have := h.2.2 q hq
  simp only; omega
theorem ok_bd : ∀ {b : List (List Int × Int)} {p : Option (List Int)}, okFrom p b = true → ∀ q ∈ b, -1000000 ≤ q.2 ∧ q.2 ≤ 1000000
  | (r, n) :: bs, p, h, q, hq => by
    simp only [okFrom, Bool.and_eq_true] at h
    rcases List.mem_cons.1 hq with e | hq
    · rw [e]
      have := h.1.1.2
      simp only [inB, Bool.and_eq_true, decide_eq_true_eq] at this
      exact this
    · exact ok_bd h.2 q hq
theorem bagOk_fit {b : List (List Int × Int)} (h : bagOkB b = true) : Fit 1000000 b ∧ b.length ≤ 300 := by
  obtain ⟨h1, h2⟩ := bagOk_sb h
  unfold bagOkB at h
  rw [Bool.and_eq_true, decide_eq_true_eq] at h
  exact ⟨⟨h1, h2, ok_bd h.1⟩, h.2⟩
theorem Fit.plus {a b : List (List Int × Int)} {m : Int} (h0 : 0 ≤ m) (hm : m ≤ 1000000000) (ha : Fit m a) (hb : Fit 1000000 b) (hl : b.length ≤ 1000) : SB (plusL a b) ∧ NZ (plusL a b) ∧ ∀ s, timesL (plusL a b) s = timesL a s + timesL b s :=
  plus_facts h0 (by omega) ha.1 ha.2.1 (times_within h0 ha.2.2) hb.1 hb.2.2
theorem plus_comm {a b : List (List Int × Int)} (ha : Fit 1000000 a) (hb : Fit 1000000 b) (hla : a.length ≤ 1000) (hlb : b.length ≤ 1000) : plusL a b = plusL b a := by
  obtain ⟨p1, p2, p3⟩ := Fit.plus (by omega) (by omega) ha hb hlb
  obtain ⟨q1, q2, q3⟩ := Fit.plus (by omega) (by omega) hb ha hla
  exact canon p1 q1 p2 q2 fun s => by rw [p3, q3]; omega
theorem plus_minus {a : List (List Int × Int)} (ha : Fit 1000000 a) (hla : a.length ≤ 1000) : plusL a (minusL a) = [] := by
  obtain ⟨p1, p2, p3⟩ := Fit.plus (by omega) (by omega) ha ha.minus (by simp [minusL]; omega)
  refine canon p1 List.Pairwise.nil p2 (fun p hp => by cases hp) fun s => ?_
  rw [p3, minus_times]; simp [timesL]; omega
theorem change_self {a : List (List Int × Int)} (ha : Fit 1000000 a) (hla : a.length ≤ 1000) : changeL a a = [] := plus_minus ha hla
theorem change_facts {a b : List (List Int × Int)} (ha : Fit 1000000 a) (hb : Fit 1000000 b) (hla : a.length ≤ 1000) : SB (changeL a b) ∧ NZ (changeL a b) ∧ ∀ s, timesL (changeL a b) s = timesL b s - timesL a s := by
  obtain ⟨p1, p2, p3⟩ := Fit.plus (by omega) (by omega) hb ha.minus (by simp [minusL]; omega)
  exact ⟨p1, p2, fun s => by show timesL (plusL b (minusL a)) s = _; rw [p3, minus_times]; omega⟩
theorem change_turn {a b : List (List Int × Int)} (ha : Fit 1000000 a) (hb : Fit 1000000 b) (hla : a.length ≤ 1000) (hlb : b.length ≤ 1000) : changeL b a = minusL (changeL a b) := by
  obtain ⟨p1, p2, p3⟩ := change_facts ha hb hla
  obtain ⟨q1, q2, q3⟩ := change_facts hb ha hlb
  exact canon q1 (minus_sb p1) q2 (minus_nz p2) fun s => by rw [q3, minus_times, p3]; omega
theorem plus_change {a b : List (List Int × Int)} (ha : Fit 1000000 a) (hb : Fit 1000000 b) (hla : a.length ≤ 1000) (hd : bagOkB (changeL a b) = true) : plusL a (changeL a b) = b := by
  obtain ⟨hf, hl⟩ := bagOk_fit hd
  obtain ⟨p1, p2, p3⟩ := change_facts ha hb hla
  obtain ⟨q1, q2, q3⟩ := Fit.plus (by omega) (by omega) ha hf (by omega)
  exact canon q1 hb.1 q2 hb.2.1 fun s => by rw [q3, p3]; omega
theorem plus_length : ∀ (b a : List (List Int × Int)), (plusL a b).length ≤ a.length + b.length
  | [], a => by simp [plusL]
  | p :: bs, a => by
    have h1 := plus_length bs (withL a p.1 p.2)
    have h2 := withL_length (bag := a) (row := p.1) (n := p.2)
    have e : plusL a (p :: bs) = plusL (withL a p.1 p.2) bs := rfl
    rw [e]; simp; omega
theorem plus_rows {m : Nat} : ∀ {b a : List (List Int × Int)}, (∀ p ∈ a, p.1.length ≤ m) → (∀ p ∈ b, p.1.length ≤ m) → ∀ p ∈ plusL a b, p.1.length ≤ m
  | [], a, h1, _, p, hp => h1 p hp
  | q :: bs, a, h1, h2, p, hp => by
    refine plus_rows (b := bs) (a := withL a q.1 q.2) (fun x hx => ?_) (fun x hx => h2 x (by simp [hx])) p hp
    rw [withL_ins] at hx
    rcases ins_mem hx with hx | hx
    · exact h1 x hx
    · rw [hx]; exact h2 q (by simp)
end Go.Proofs.Ytoncfodlffofdaa
