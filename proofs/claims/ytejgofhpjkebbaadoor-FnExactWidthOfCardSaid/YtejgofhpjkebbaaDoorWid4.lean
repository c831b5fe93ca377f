/- The program's tableWidth and WidthOf: what they return; nothing that lay has turned. The program's own variable lies as the text lays it. -/
import Derived.Test.YtejgofhpjkebbaaDoorWid3
import Derived.Test.YtejgofhpjkebbaaDoorWid1
import Derived.Test.YtejgofhpjkebbaaDoorBas2
import Derived.Test.YtejgofhpjkebbaaDoorBas4
namespace Go.Proofs.YtejgofhpjkebbaaDoor
open Go.RowKit

set_option maxRecDepth 100000 in
set_option maxHeartbeats 2000000 in
theorem tableWidth_any (A : Option Addr) (c : Nat) (ts : List TB) (n : ByteArray) (w : World) (hT : Tabs w w.heap.size A ts) (hf : fitT 1048576 ts) (hl : ts.length ≤ 1048576) :
    Calls Tryd.prog 24 #[.slice A ts.length c, .string n] w fun e w' => e = .returned (.int .i64 (tabWd ts n)) ∧ Below w.heap.size w w' := by
  go_enter Tryd.func24, Tryd.ntmps24
  go_wp2_with fail
  refine (implTableIn_any A c ts n w hT hf hl).mono ?_
  rintro e w1 ⟨v, rfl, ⟨u, es, rfl, hO, _⟩, hb1⟩
  obtain ⟨Au, cu, rfl⟩ := hO.form
  have hba := hb1.alloc hb1.size (.cells #[.string (inT ts n).n, .int .i64 (inT ts n).wd, .slice Au es.length cu] 46)
  clear hO
  by_cases hfd : fndN ts n < ts.length
  · have HB := Lib.hid (show tabWd ts n = (inT ts n).wd by unfold tabWd inT; rw [if_pos hfd, if_pos hfd])
    rw [show inB6 ts n = true from decide_eq_true hfd]
    generalize (inT ts n).wd = wd at *
    generalize (inT ts n).n = nm at *
    clear hfd
    go_wp2
    go_ret
    exact ⟨ret_int HB.out.symm, hba⟩
  · have HB := Lib.hid (show tabWd ts n = -1 by unfold tabWd; rw [if_neg hfd])
    rw [show inB6 ts n = false from decide_eq_false hfd]
    generalize (inT ts n).wd = wd at *
    generalize (inT ts n).n = nm at *
    clear hfd
    go_wp2
    go_ret
    exact ⟨ret_int HB.out.symm, hba⟩
theorem stepD_neg {d : Nd} {one two : Int} (h : nodeB d = true) (h1 : widthB one = true) (hs : stepD d one two < 0) : stepD d one two = -1 := by
  obtain ⟨m, rfl, m1, m6⟩ := width_nat h1
  by_cases hk4 : d.k = 4
  · rw [stepD_4 hk4] at hs ⊢
    split at hs
    · rename_i hc
      have hz := node_places h
      have hl := node_len4 h hk4
      have h1 : ix d.z 1 ≥ 0 := by
        unfold placesB at hz
        rw [ix_eq d.z 1 (by omega)]
        have := List.all_eq_true.1 hz _ (List.getElem_mem (show 1 < d.z.length by omega))
        unfold inB at this
        simp at this
        exact this.1
      omega
    · rename_i hc
      rw [if_neg hc]
  unfold stepD at hs ⊢
  split at hs
  · rename_i hk
    rw [if_pos hk]
    split at hs
    · omega
    · rename_i hc; rw [if_neg hc]
  rename_i k2
  rw [if_neg k2]
  split at hs
  · rename_i hk
    rw [if_pos hk]
    split at hs
    · omega
    · rename_i hc; rw [if_neg hc]
  rename_i k3
  rw [if_neg k3]
  rw [if_neg hk4]
  split at hs
  · rename_i hk
    rw [if_pos hk]
    split at hs
    · omega
    · rename_i hc; rw [if_neg hc]
  rename_i k5
  rw [if_neg k5]
  split at hs
  · omega
  rename_i k6
  rw [if_neg k6]
  split at hs
  · rename_i hk
    rw [if_pos hk]
    split at hs
    · split at hs <;> omega
    · rename_i hc; rw [if_neg hc]
  · rename_i k7
    rw [if_neg k7]
/-- What a node is shown of them. -/
def seen (d : Nd) (p : List Int) : List Int := p.drop (p.length - looksN d.k)
theorem seen_1 {d : Nd} {q : List Int} {a : Int} (h : looksN d.k = 1) : seen d (q ++ [a]) = [a] := by
  unfold seen
  rw [h, List.length_append, List.length_singleton, Nat.add_sub_cancel, List.drop_left']; rfl
theorem seen_2 {d : Nd} {q : List Int} {a b : Int} (h : looksN d.k = 2) : seen d (q ++ [a, b]) = [a, b] := by
  unfold seen
  rw [h, show (q ++ [a, b]).length = q.length + 2 by simp, Nat.add_sub_cancel, List.drop_left']; rfl
theorem seen_0 {d : Nd} {p : List Int} (h : looksN d.k = 0) : seen d p = [] := by
  unfold seen
  rw [h, Nat.sub_zero, List.drop_length]
theorem pileW_seen {ts : List TB} {d : Nd} {p : List Int} (hb : baseB ts = true) (hok : nodeB d = true) (hl : looksN d.k ≤ p.length) (hall : ∀ x ∈ p, widthB x = true) :
    (pileW ts d p < 0 → pileW ts d p = -1) ∧ (d.k = 1 → pileW ts d p = tabWd ts d.n) ∧ (d.k ≠ 1 → stepW d (ix (seen d p) 0) (ix (seen d p) 1) = pileW ts d p) := by
  have h3 : looksN d.k = 0 ∨ looksN d.k = 1 ∨ looksN d.k = 2 := by have := looksN_le d.k; omega
  rcases h3 with h | h | h
  · refine ⟨fun hw => ?_, fun _ => (pileW_0 h).1, fun hk => absurd (kind_one.1 h) hk⟩
    rw [(pileW_0 h).1] at hw ⊢
    unfold tabWd at hw ⊢
    split at hw
    · rename_i hf
      have := base_width hb hf
      unfold widthB inB at this
      rw [Bool.and_eq_true, decide_eq_true_eq] at this
      have h9 := this.1
      omega
    · rename_i hf; rw [if_neg hf]
  · obtain ⟨q, a, rfl⟩ := split1 (p := p) (by omega)
    have ha := hall a (by simp)
    rw [(pileW_1 h).1, seen_1 h]
    refine ⟨stepD_neg hok ha, fun hk => ?_, fun _ => stepW_is hok ha fun h2 => by omega⟩
    rw [kind_one.2 hk] at h; cases h
  · obtain ⟨q, a, b, rfl⟩ := split2 (p := p) (by omega)
    have ha := hall a (by simp)
    have hb2 := hall b (by simp)
    rw [(pileW_2 h).1, seen_2 h]
    refine ⟨stepD_neg hok ha, fun hk => ?_, fun _ => stepW_is hok ha fun _ => hb2⟩
    rw [kind_one.2 hk] at h; cases h
/-- Widths that none has looked at yet, in the program's way. -/
structure ISt (ts : List TB) (v : List Nd) (w : World) (k : Nat) (p : List Int) (g c : Nat) (wr : World) : Prop where
  pl : pile ts v k = some p
  own : wr.ownsRow w.heap.size 2 1 (.slice (some ⟨g, 0, none⟩) p.length c) p.length (p.map (Value.int .i64))
  bel : Below w.heap.size w wr
theorem own_some {w : World} {base n : Nat} {e : TypeId} {v : Value} {xs : List Value} (h : w.ownsRow base e 1 v (n + 1) xs) : ∃ g c, v = .slice (some ⟨g, 0, none⟩) (n + 1) c := by
  rcases h.2 with ⟨_, h0⟩ | ⟨g, cap, cur, hv, _⟩
  · cases h0
  · exact ⟨g, cap, hv⟩
end Go.Proofs.YtejgofhpjkebbaaDoor
