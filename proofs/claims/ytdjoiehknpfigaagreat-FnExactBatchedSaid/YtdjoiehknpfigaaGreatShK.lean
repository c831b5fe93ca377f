/- The names of a map of tables, sorted: contracts of maps.Keys and slices.Sorted at the program's own map; nothing that lay has turned. -/
import Derived.Test.YtdjoiehknpfigaaGreatSh0
import Derived.Test.YtdjoiehknpfigaaGreatShelfK
import Derived.Shelf.AbstractIn
namespace Go.Proofs.YtdjoiehknpfigaaGreat
open Go.RowKit Go.Maps Go.Sort Go.Shelf

theorem before_lt : ∀ (a b : List UInt8), bytesBefore a b = true → a < b
  | [], [], h => by simp [bytesBefore] at h
  | [], _ :: _, _ => List.Lex.nil
  | x :: a, [], h => by simp [bytesBefore] at h
  | x :: a, y :: b, h => by
    simp only [bytesBefore, Bool.or_eq_true, Bool.and_eq_true, decide_eq_true_eq, beq_iff_eq] at h
    rcases h with h | ⟨rfl, h⟩
    · exact List.Lex.rel h
    · exact List.Lex.cons (before_lt a b h)
theorem keys_sh {xs : List SE} {ts : List TB} (h : xs.map SE.t = ts) : strKeys (shD xs) = ts.map fun t => bl t.n := by
  subst h
  show (ents xs).map (fun p => strOf p.1) = _
  unfold ents
  rw [List.map_map, List.map_map]; rfl
theorem sorted_keys {ts : List TB} (h : SN ts) {ss : List (List UInt8)} (hp : ss.Perm (ts.map fun t => bl t.n)) : ss.mergeSort (fun x y => decide (x ≤ y)) = ts.map fun t => bl t.n := by
  rw [mergeSort_of_perm hp]
  refine List.mergeSort_of_pairwise ?_
  rw [List.pairwise_map]
  unfold SN at h
  exact h.imp fun {a b} hab => decide_eq_true (List.le_of_lt (before_lt _ _ hab))
theorem sortsA (k : Nat) : AnyZ.SortsIn Tryz.prog Tryz.sortedA_ren Fence.wide k :=
  ⟨fun blk off cap ss W hH hblk hsz => callsIn_wide.2 (AnyM.slices_Sort_string Tryz.sortA blk off cap ss W hH hblk hsz),
   fun p cap W => callsIn_wide.2 (AnyM.slices_Sort_string_none Tryz.sortA p cap W)⟩
theorem keysCall (mb : Option Nat) (W : World) : Calls Tryz.prog 55 #[.map mb] W fun e w' => e = .returned (.func (.func 74) #[] #[.pointer (some ⟨W.heap.size, 0, none⟩)]) ∧ w' = W.alloc (.cells #[.map mb] 63) :=
  (callsIn_wide (n := 5)).1 (AnyZ.keys_in Tryz.keysA Fence.wide 5 trivial rfl mb W)
set_option maxHeartbeats 1000000 in
theorem sortedCall (m : Nat) (ts : List TB) (w : World) (hS : Sh w m ts) (hs : SN ts) (hl : ts.length ≤ 1048576) :
    Calls Tryz.prog 54 #[.func (.func 74) #[] #[.pointer (some ⟨w.heap.size, 0, none⟩)]] (w.alloc (.cells #[.map (some m)] 63)) fun e w' =>
      ∃ A c, e = .returned (.slice A ts.length c) ∧ Strs w' w'.heap.size A (ts.map TB.n) ∧ (∀ b o, 0 < ts.length → A = some ⟨b, o, none⟩ → w.heap.size < b) ∧ Below (w.heap.size + 1) (w.alloc (.cells #[.map (some m)] 63)) w' := by
  obtain ⟨xs, hx, hown, _⟩ := hS
  have hlen : xs.length = ts.length := by rw [← hx, List.length_map]
  have hsz : Maps.size (shD xs) = ts.length := by rw [size_sh, hlen]
  have hbl := hown.lt
  have hseq : SeqGives Fence.wide 2 Tryz.prog 74 #[.pointer (some ⟨w.heap.size, 0, none⟩)] encStr (fun ss => ss.Perm (strKeys (shD xs))) (Maps.size (shD xs)) (w.alloc (.cells #[.map (some m)] 63)) :=
    AnyZ.keys_gives (ρ := Tryz.keysA_ren) { Tryz.keysA with } Fence.wide _ trivial rfl (by omega) w.heap.size m xs.length (shD xs) _ (by simp) (by simp) (by
      obtain ⟨es, clock, hb, Ft, hs, hD⟩ := hown
      exact ⟨es, clock, (Below.heap_alloc _ _ m hbl).trans hb, Ft, hs, hD⟩)
  have cS := AnyZ.sorted_in Tryz.sortedA Fence.wide 5 trivial trivial trivial trivial rfl (by omega) (sortsA _) (enters_of Tryz.func73 (by kernel_rfl) rfl) 74 #[.pointer (some ⟨w.heap.size, 0, none⟩)] trivial (enters_of Tryz.func74 (by kernel_rfl) rfl) _ _ (by rw [hsz]; unfold maxLen; omega) (by rw [hsz]; omega) _ hseq
  change CallsIn _ _ Tryz.prog 54 _ _ _ at cS
  refine ((callsIn_wide (n := 5)).1 cS).mono ?_
  rintro e w' ⟨v, ss, rfl, hS, hrow, hnil, hb⟩
  rw [keys_sh hx] at hS
  have hsl : ss.length = ts.length := by rw [hS.length_eq, List.length_map]
  rw [sorted_keys hs hS, hsl] at hrow
  obtain ⟨A, c, rfl⟩ := own_form hrow
  refine ⟨A, c, rfl, fun hn => ?_, fun b o hn hA => ?_, by simpa using hb⟩
  case refine_2 =>
    rcases hrow.2 with ⟨_, h0⟩ | ⟨g, cap', cur, hv, hg, _⟩
    · omega
    · injection hv with hv _ _
      rw [hv] at hA
      injection hA with hA
      injection hA with hA _ _
      have : (w.alloc (.cells #[.map (some m)] 63)).heap.size = w.heap.size + 1 := World.size_alloc _ _
      omega
  rw [List.length_map] at hn
  rcases hrow.2 with ⟨_, h0⟩ | ⟨g, cap', cur, hv, hg, hh, _, _, _, htk⟩
  · omega
  · injection hv with hv _ _
    subst hv
    refine ⟨g, 0, rfl, Blk.lt (t := 9) (cs := cur) hh, fun j hj => ?_⟩
    rw [List.length_map] at hj
    rw [Nat.zero_add, Blk.cell (t := 9) (cs := cur) hh j]
    have e : (cur.toList.take (ts.length * 1))[j]? = ((ts.map fun t => bl t.n).map encStr)[j]? := by rw [htk]
    rw [List.getElem?_take, if_pos (by omega), Array.getElem?_toList] at e
    rw [e]
    simp [sx, hj, encStr, bl]
end Go.Proofs.YtdjoiehknpfigaaGreat
