/- Texts joined: MarkD, SpW: contracts and plain facts; each says its own below. -/
import Derived.Test.YtdjoiehknpfigaaGreatJZC
import Derived.Test.YtdjoiehknpfigaaGreatJA
import Derived.Test.YtdjoiehknpfigaaGreatSp4
import Derived.Test.YtdjoiehknpfigaaGreatJZA
/- The laws' marking of a deed, and whether the marks are held. -/
namespace Go.Proofs.YtdjoiehknpfigaaGreat
open Go.RowKit

theorem grown_bel {w w' : World} (h : Below w.heap.size w w') (r : Option Nat) : w.grownBy w' r := ⟨h.os, h.tape, h.output, h.size, fun k hk _ => h.block k hk⟩
set_option maxRecDepth 100000 in
set_option maxHeartbeats 2000000 in
theorem markDeed_any (k : Int) (s : ByteArray) (A : Option Addr) (c g : Nat) (zs : List Int) (m : Int) (w : World) (hR : Row w 2 A zs g) (hl : zs.length ≤ 1073741824) (hk0 : 0 ≤ m) (hk1 : m ≤ 1125899906842624) :
    Calls Tryz.prog 14 #[.agg #[.int .i64 k, .string s, .slice A zs.length c], .int .i64 m] w fun e w' => e = .returned (.int .i64 (m + (zs.length : Int))) ∧ Row w' 2 A (marks m zs.length) g ∧ w.grownBy w' (some g) := by
  have bc := (Below.refl w.heap.size w).alloc (Nat.le_refl _) (.cells #[.int .i64 k, .string s, .slice A zs.length c] 32)
  have BD := Blk.new w 32 #[.int .i64 k, .string s, .slice A zs.length c]
  obtain ⟨D0, D1, D2⟩ := BD.c3
  have hR1 := hR.on bc
  go_enter Tryz.func14, Tryz.ntmps14
  go_wp2_with fail
  generalize w.alloc (.cells #[.int .i64 k, .string s, .slice A zs.length c] 32) = wb at *
  refine (markInt64S_any A c g zs m wb hR1 hl hk0 hk1).mono ?_
  rintro e w1 ⟨rfl, hR2, hg⟩
  clear D0 D1 D2 BD
  go_wp2
  go_ret
  exact ⟨rfl, hR2, grown_trans (grown_bel bc _) hg⟩
end Go.Proofs.YtdjoiehknpfigaaGreat

/- What the walks of Does and Batched want: the answers read out, an answer that lies below a border. No condition. -/
namespace Go.Proofs.YtdjoiehknpfigaaGreat
open Go.RowKit

/-- A base that lies below B. -/
def STabs (B : Nat) (A : Option Addr) (ts : List TB) (w : World) : Prop := Tabs w B A ts ∧ B ≤ w.heap.size
theorem STabs.on {B : Nat} {A : Option Addr} {ts : List TB} {w w' : World} (h : STabs B A ts w) (hb : Below w.heap.size w w') : STabs B A ts w' := ⟨h.1.below (hb.mono h.2), Nat.le_trans h.2 hb.size⟩
theorem STabs.tabs {B : Nat} {A : Option Addr} {ts : List TB} {w : World} (h : STabs B A ts w) : Tabs w w.heap.size A ts := h.1.more h.2
theorem STabs.within {B lo hi : Nat} {A : Option Addr} {ts : List TB} {w w' : World} (h : STabs B A ts w) (hw : Within lo hi w w') (hB : B ≤ lo) : STabs B A ts w' := ⟨h.1.below ((hw.wide (lo' := B) (hi' := hi) hB (Nat.le_refl _)).bel h.2), Nat.le_trans h.2 hw.size⟩
theorem specBase_got {P : List TB × Int} {Y : List TB} {C : Int} {u : World} {e : Ending} {w' : World} (h : P = (Y, C)) (hf : fitT 1048576 Y) (hq : SAns u.heap.size P u e w') :
    ∃ A c, e = .returned (.tuple #[.slice A Y.length c, .int .i64 C]) ∧ STabs w'.heap.size A Y w' ∧ Below u.heap.size u w' := by
  subst h
  obtain ⟨v, xs, rfl, hS, hd, hb⟩ := hq
  obtain ⟨A, c, rfl⟩ := own_len hS hd
  exact ⟨A, c, rfl, ⟨hS.tabs hd hf, Nat.le_refl _⟩, hb⟩
theorem implBase_got {P : List TB × Int} {Y : List TB} {C : Int} {u : World} {e : Ending} {w' : World} (h : P = (Y, C)) (hq : BaseAns P u e w') :
    ∃ A c es, e = .returned (.tuple #[.slice A Y.length c, .int .i64 C]) ∧ es.map TE.t = Y ∧ OwnT w' u.heap.size w'.heap.size A es ∧ Below u.heap.size u w' := by
  subst h
  exact hq
theorem toDeed_own (k : Int) (s : ByteArray) (A : Option Addr) (c : Nat) (zs : List Int) (w : World) (hR : Ints w w.heap.size A zs) (hl : zs.length ≤ 1099511627776) :
    Calls Tryz.prog 9 #[.agg #[.int .i64 k, .string s, .slice A zs.length c]] w fun e w' => ∃ A' c' g, e = .returned (.agg #[.int .i64 k, .string s, .slice A' zs.length c']) ∧ (w.heap.size ≤ g ∧ g < w'.heap.size) ∧ Row w' 2 A' zs g ∧ Below w.heap.size w w' := by
  refine (toDeed_any k s A c zs w hR hl).mono ?_
  rintro e w' ⟨g, rfl, h1, h2, h3⟩
  exact ⟨_, _, g, rfl, ⟨h1, h2.lt⟩, Row.of_blk h2, h3⟩
end Go.Proofs.YtdjoiehknpfigaaGreat
