/- The words at the head of the dump: the first ones alone are read, the names of the roots behind them stay closed; with it two facts on the program that the frames of the laws ask. -/
import Derived.Test.YtcfnbpofbcendabChecked
import Derived.WalkKit
import Derived.ProofKit
namespace Go.Proofs.Ytcfnbpofbcendab
open Go.ChangeShapes Go.WideShapes Go.ChangeAt Go.RowKit

theorem words_ne : ∀ xs : List Char, ∃ w ws, wordsSigns xs = w :: ws
  | [] => ⟨_, _, rfl⟩
  | c :: r => by
    obtain ⟨w, ws, h⟩ := words_ne r
    unfold wordsSigns
    split
    · cases ‹_ = _›
    · exact ⟨_, _, rfl⟩
    · rename_i c' r' _ he
      injection he with h1 h2
      subst h1 h2
      rw [h]
      exact ⟨_, _, rfl⟩
theorem words_app (ys : List Char) : ∀ xs : List Char, wordsSigns (xs ++ Char.ofNat 32 :: ys) = wordsSigns xs ++ wordsSigns ys
  | [] => rfl
  | c :: r => by
    have ih := words_app ys r
    obtain ⟨w, ws, h⟩ := words_ne r
    by_cases hc : c = Char.ofNat 32
    · subst hc
      show [] :: wordsSigns (r ++ Char.ofNat 32 :: ys) = ([] :: wordsSigns r) ++ wordsSigns ys
      rw [ih]; rfl
    · have key : ∀ l : List Char, wordsSigns (c :: l) = match wordsSigns l with | w :: ws => (c :: w) :: ws | [] => [[c]] := by
        intro l
        conv => lhs; unfold wordsSigns
        split
        · cases ‹_ = _›
        · rename_i r' he
          injection he with h1 _
          exact absurd h1 hc
        · rename_i c' r' _ he
          injection he with h1 h2
          subst h1 h2
          rfl
      rw [List.cons_append, key, key, ih, h]; rfl
theorem words_cut (l : List Char) (n : Nat) (h : l[n]? = some (Char.ofNat 32)) : wordsSigns l = wordsSigns (l.take n) ++ wordsSigns (l.drop (n + 1)) := by
  obtain ⟨hn, hc⟩ := List.getElem?_eq_some_iff.1 h
  rw [← words_app, ← hc, ← List.drop_eq_getElem_cons hn, List.take_append_drop]
theorem words_lit (s : String) (l : List Char) (h : s = String.ofList l) : wordsSigns s.toList = wordsSigns l := by rw [h, String.toList_ofList]
theorem head_lit : Try.prog.initOrder = "harness 4aa26f96ab0596e51ea41b1bb69b36ba36b6da67a550fe2f29840e0a7524e722 cut at loop.example/g00604/laws.FnGroups" := by kernel_rfl
theorem words_first (l : List Char) (n : Nat) (ws : List (List Char)) (h : l[n]? = some (Char.ofNat 32)) (k : wordsSigns (l.take n) = ws) : ∃ t, wordsSigns l = ws ++ t := ⟨_, (words_cut l n h).trans (by rw [k])⟩
set_option maxRecDepth 100000 in
/-- The first words; behind them something. -/
theorem head_words : ∃ t, wordsSigns Try.prog.initOrder.toList = [("harness" : String).toList, ("4aa26f96ab0596e51ea41b1bb69b36ba36b6da67a550fe2f29840e0a7524e722" : String).toList, ("cut" : String).toList] ++ t := by
  rw [words_lit Try.prog.initOrder _ head_lit]
  exact words_first _ 76 _ (by kernel_rfl) (by kernel_rfl)
theorem behind_ (t : List (List Char)) : behindMainWord ([("harness" : String).toList, ("4aa26f96ab0596e51ea41b1bb69b36ba36b6da67a550fe2f29840e0a7524e722" : String).toList, ("cut" : String).toList] ++ t) = ("cut" : String).toList :: t := by kernel_rfl
theorem strip_ (t : List (List Char)) : stripLifts liftWords (("cut" : String).toList :: t) = ([], ("cut" : String).toList :: t) := by kernel_rfl
theorem lays_ : Try.prog.laysLater = false := by kernel_rfl
theorem bears_ : Try.prog.bearsReflect = false := by kernel_rfl
theorem door_ : Try.prog.doorFits [] = true := by kernel_rfl
theorem enter_of (P : Program) (ws t : List (List Char)) (h : wordsSigns P.initOrder.toList = ws ++ t) (hb : behindMainWord (ws ++ t) = ("cut" : String).toList :: t) (hl : P.laysLater = false) (hr : P.bearsReflect = false) (hd : P.doorFits [] = true) : P.mayEnter = true := by
  unfold Program.mayEnter
  rw [h, hb]
  simp only [strip_, hl, hr, hd]
  refine Eq.trans (b := true) ?_ rfl
  kernel_rfl
theorem lifts_of (P : Program) (ws t : List (List Char)) (h : wordsSigns P.initOrder.toList = ws ++ t) (hb : behindMainWord (ws ++ t) = ("cut" : String).toList :: t) : P.liftsFinal = false := by
  unfold Program.liftsFinal Program.headLifts
  rw [h, hb]
  simp only [strip_]
  refine Eq.trans (b := false) ?_ rfl
  kernel_rfl
theorem make_of (P : Program) (ws t : List (List Char)) (h : wordsSigns P.initOrder.toList = ws ++ t) (hb : behindMainWord (ws ++ t) = ("cut" : String).toList :: t) : P.make = some .cut := by
  unfold Program.make
  rw [h, hb]
  refine Eq.trans (b := some .cut) ?_ rfl
  kernel_rfl
theorem made_of {P : Program} {m : Make} (h : P.make = some .cut) (hc : m = .cut) : (P.make == some m) = true := by rw [h, hc]; rfl
theorem and_mk {a b : Bool} (h1 : a = true) (h2 : b = true) : (a && b) = true := by rw [h1, h2]; rfl
theorem lifted_of {P : Program} {b : Bool} (h : P.liftsFinal = false) (hc : b = false) : (b == P.liftsFinal) = true := by rw [h, hc]; rfl
theorem may_enter : Try.prog.mayEnter = true := head_words.elim fun t ht => enter_of Try.prog _ t ht (behind_ t) lays_ bears_ door_
theorem lifts_final : Try.prog.liftsFinal = false := head_words.elim fun t ht => lifts_of Try.prog _ t ht (behind_ t)
theorem make_cut : Try.prog.make = some .cut := head_words.elim fun t ht => make_of Try.prog _ t ht (behind_ t)
end Go.Proofs.Ytcfnbpofbcendab
