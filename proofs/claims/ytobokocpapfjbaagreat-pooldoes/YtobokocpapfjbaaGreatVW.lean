/- PoolDoes: the walk. -/
import Derived.Test.YtobokocpapfjbaaGreatVWa
import Derived.Test.YtobokocpapfjbaaGreatVWb
namespace Go.Proofs.YtobokocpapfjbaaGreat
open Go.RowKit Go.Maps
set_option linter.unusedVariables false
set_option maxHeartbeats 12800000 in
set_option maxRecDepth 1000000 in
theorem does_walk (w : World) (pgs M : Int) (hM : -9223372036854775808 ≤ M ∧ M ≤ 9223372036854775807) (ia : Option Addr) (il ic : Nat) (iz : List Int) (hi : Inn w ia il ic iz) (a : Option Addr) (n c : Nat) (xs : List Ac) (hx : Acs w a n c xs) (hs : Sza xs) :
    Calls Tryz.prog 3 #[.int .i64 pgs, .int .i64 M, .slice ia il ic, .slice a n c] w fun e w' => e = .returned (.bool true) ∧ Below w.heap.size w w' := by
  by_cases hp60 : 60 < pgs
  · go_enter Tryz.func3, Tryz.ntmps3
    go_wp2_with (go_at_call 4; refine (known_any _).mono ?_; rintro e w1 ⟨rfl, hb1⟩; have HB1 := hide hb1; clear hb1)
    go_ret
    exact ⟨rfl, HB1.out⟩
  by_cases hp1 : pgs < 1
  · go_enter Tryz.func3, Tryz.ntmps3
    go_wp2_with (go_at_call 4; refine (known_any _).mono ?_; rintro e w1 ⟨rfl, hb1⟩; have HB1 := hide hb1; clear hb1)
    go_ret
    exact ⟨rfl, HB1.out⟩
  by_cases hil : 200000 < il
  · have hil' : (200000 : Int) < (il : Int) := by omega
    go_enter Tryz.func3, Tryz.ntmps3
    go_wp2_with (go_at_call 4; refine (known_any _).mono ?_; rintro e w1 ⟨rfl, hb1⟩; have HB1 := hide hb1; clear hb1)
    go_ret
    exact ⟨rfl, HB1.out⟩
  obtain ⟨pages, rfl⟩ : ∃ k : Nat, pgs = (k : Int) := ⟨pgs.toNat, by omega⟩
  by_cases hcs : il < 1024 * pages + 1024
  · exact does_a w pages (by omega) (by omega) M hM ia il ic (by omega) hcs iz hi a n c xs hx hs
  · exact does_b w pages (by omega) (by omega) M hM ia il ic (by omega) (by omega) iz hi a n c xs hx hs
end Go.Proofs.YtobokocpapfjbaaGreat
