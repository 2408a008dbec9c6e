/- Open. -/
import Derived.Test.YtkkjppdooaipiaaRG
namespace Go.Proofs.Ytkkjppdooaipiaa
open Go.RowKit
set_option linter.unusedVariables false

theorem Made.below {w W W' : World} {v : Value} {zs : List Int} (h : Made w v zs W) (hb : Below W.heap.size W W') : Made w v zs W' :=
  ⟨h.1.below hb, h.2.1, h.2.2.trans (hb.mono h.2.2.size)⟩
/-- what Open answers. -/
def OpOut (O : Option (Nat × List Int)) (w : World) (e : Ending) (w' : World) : Prop :=
  (∀ kind pl, O = some (kind, pl) → ∃ v, e = .returned (.tuple #[.int .u8 (kind : Int), v, .int .u16 0]) ∧ Made w v pl w') ∧ (O = none → e = .returned (.tuple #[.int .u8 0, .slice none 0 0, .int .u16 80]) ∧ Below w.heap.size w w')

set_option maxHeartbeats 1600000 in
set_option maxRecDepth 1000000 in
theorem open_any (number : Nat) (a : Option Addr) (n c : Nat) (zs : List Int) (w : World) (hn : number < 4294967296)
    (hl : zs.length = n) (hc : n ≤ c) (hm : c ≤ 9223372036854775807) (hb : a = none → n = 0 ∧ c = 0) (hr : Row w a zs) (h8 : Byts zs) :
    Calls Try.prog 25 #[.int .u32 (number : Int), .slice a n c] w fun e w' => OpOut (Pg.opn number zs) w e w' := by
  have hmf : ∀ (fn : Fn) (first cap : Array Value) (w : World), (Instr.makeFunc fn first cap).run Try.prog w = .ok (.func fn first cap) w := fun _ _ _ _ => rfl
  have HB0 := hide (below_alloc w (.cells #[.int .u32 (number : Int)] 33))
  have HC := hide (read_page w.heap.size number a n c zs (w.alloc (.cells #[.int .u32 (number : Int)] 33)) hn (cell_of_one (heap_alloc_new w _)) hl hc hm hb (hr.below HB0.out) h8)
  clear hl hc hm hb hr h8
  generalize Pg.opn number zs = O at *
  go_enter Try.func25, Try.ntmps25
  go_wp2_with fail
  refine HC.out.mono ?_
  rintro e w1 ⟨hy, hno⟩
  cases O with
  | none =>
    obtain ⟨rfl, hb1⟩ := hno rfl
    have HB1 := hide (HB0.out.trans (hb1.mono HB0.out.size))
    clear hy hno hb1
    go_wp2
    go_quiet (fail)
    go_wp2
    go_ret3
    exact ⟨fun k pl h => by (cases h), fun _ => ⟨rfl, below_drewN (HB1.out.trans ((below_alloc w1 _).mono HB1.out.size)) _⟩⟩
  | some x =>
    obtain ⟨K, pl⟩ := x
    obtain ⟨v, rfl, hm1⟩ := hy K pl rfl
    have HM1 : Hid (Made w v pl w1) := hide ⟨hm1.1, fun k hk => Nat.le_trans HB0.out.size (hm1.2.1 k hk), HB0.out.trans (hm1.2.2.mono HB0.out.size)⟩
    obtain ⟨a9, n9, c9, rfl, -⟩ := hm1.1.shape2
    clear hy hno hm1
    go_wp2
    go_quiet (fail)
    go_wp2
    go_ret3
    exact ⟨fun k pl h => by (cases h; exact ⟨_, rfl, HM1.out.below (below_drewN (below_alloc w1 _) _)⟩), fun h => by (cases h)⟩
end Go.Proofs.Ytkkjppdooaipiaa
