/- Trips and faults of the document's own disk. -/
import Derived.Test.YtkammfkknfflgaaQB
import Derived.Test.YtkammfkknfflgaaQT
namespace Go.Proofs.Ytkammfkknfflgaa
open Go.RowKit Go.Maps
set_option linter.unusedVariables false
variable {w w' : World} {p f : Nat} {vl vc : Value} {Ls Cs : List Value} {S S' : DS}

theorem ft_true (l : Int) : ft true l = l := rfl
set_option maxHeartbeats 800000 in
set_option maxRecDepth 1000000 in
theorem rtrip_any (h : RD w p vl Ls vc Cs f S) (n : Int) (h0 : 0 ≤ n) (h1 : n ≤ 9223372036854775807) (hdk : S.dk = false) :
    Calls Try.prog 53 #[.pointer (some ⟨p, 0, none⟩), .int .i64 n] w fun e w' => e = .returned (.int .u16 0) ∧ RD w' p vl Ls vc Cs f (S.trip n) ∧ Mv (fun k => k = p ∨ k = f) w w' := by
  have c2 := h.c 2 (.bool S.dk) rfl
  rw [hdk] at c2
  have c3 := h.c 3 (.int .i64 (ft S.ts S.tl)) rfl
  have z3 := h.fz 3
  have hn : decide (n < 0) = false := by simp; omega
  have HF := hide (h.turned (S' := S.trip n) [(3, .int .i64 n)] [] rfl rfl ⟨h.good.ls, h.good.ws, h.good.most, h.good.few, ⟨h0, h1⟩, h.good.f1, h.good.f2, h.good.f3, h.good.n1, h.good.n2, h.good.n3⟩ (by simp [rcells, DS.trip, ft]) (by simp [fcells, DS.trip]))
  clear h h0 h1
  go_enter Try.func53, Try.ntmps53
  go_wp2
  go_ret
  exact ⟨rfl, HF.out⟩
set_option maxHeartbeats 800000 in
set_option maxRecDepth 1000000 in
theorem rtrip_no (h : RD w p vl Ls vc Cs f S) (n : Int) (hbad : n < 0 ∨ S.dk = true) :
    Calls Try.prog 53 #[.pointer (some ⟨p, 0, none⟩), .int .i64 n] w fun e w' => e = .returned (.int .u16 (if n < 0 then 1 else 4)) ∧ w' = w := by
  have c3 := h.c 2 (.bool S.dk) rfl
  clear h
  by_cases h0 : n < 0
  · have hd0 : decide (n < 0) = true := by simp [h0]
    rw [if_pos h0]
    clear hbad h0
    go_enter Try.func53, Try.ntmps53
    go_wp2
    go_ret
    exact ⟨rfl, rfl⟩
  · have hd0 : decide (n < 0) = false := by simp [h0]
    rw [if_neg h0]
    rw [hbad.resolve_left h0] at c3
    clear hbad h0
    go_enter Try.func53, Try.ntmps53
    go_wp2
    go_ret
    exact ⟨rfl, rfl⟩
set_option maxHeartbeats 800000 in
set_option maxRecDepth 1000000 in
theorem rfl1_any (h : RD w p vl Ls vc Cs f S) (n : Int) (h0 : 0 ≤ n) (h1 : n ≤ 9223372036854775807) (hdk : S.dk = false) :
    Calls Try.prog 54 #[.pointer (some ⟨p, 0, none⟩), .int .i64 1, .int .i64 n] w fun e w' => e = .returned (.int .u16 0) ∧ RD w' p vl Ls vc Cs f (S.fl1 n) ∧ Mv (fun k => k = p ∨ k = f) w w' := by
  have c2 := h.c 2 (.bool S.dk) rfl
  rw [hdk] at c2
  have c4 := h.c 4 (.slice (some ⟨f, 0, none⟩) 4 4) rfl
  have g1 := h.fc 1 (.int .i64 (ft S.s1 S.l1)) rfl
  have y1 := h.ff 1
  have hn : decide (n < 0) = false := by simp; omega
  have HF := hide (h.turned (S' := S.fl1 n) [] [(1, .int .i64 n)] rfl rfl ⟨h.good.ls, h.good.ws, h.good.most, h.good.few, h.good.t, ⟨h0, h1⟩, h.good.f2, h.good.f3, h.good.n1, h.good.n2, h.good.n3⟩ (by simp [rcells, DS.fl1]) (by simp [fcells, DS.fl1, ft_true]))
  clear h h0 h1
  go_enter Try.func54, Try.ntmps54
  go_wp2
  go_ret
  exact ⟨rfl, HF.out⟩
set_option maxHeartbeats 800000 in
set_option maxRecDepth 1000000 in
theorem rfl2_any (h : RD w p vl Ls vc Cs f S) (n : Int) (h0 : 0 ≤ n) (h1 : n ≤ 9223372036854775807) (hdk : S.dk = false) :
    Calls Try.prog 54 #[.pointer (some ⟨p, 0, none⟩), .int .i64 2, .int .i64 n] w fun e w' => e = .returned (.int .u16 0) ∧ RD w' p vl Ls vc Cs f (S.fl2 n) ∧ Mv (fun k => k = p ∨ k = f) w w' := by
  have c2 := h.c 2 (.bool S.dk) rfl
  rw [hdk] at c2
  have c4 := h.c 4 (.slice (some ⟨f, 0, none⟩) 4 4) rfl
  have g1 := h.fc 2 (.int .i64 (ft S.s2 S.l2)) rfl
  have y1 := h.ff 2
  have hn : decide (n < 0) = false := by simp; omega
  have HF := hide (h.turned (S' := S.fl2 n) [] [(2, .int .i64 n)] rfl rfl ⟨h.good.ls, h.good.ws, h.good.most, h.good.few, h.good.t, h.good.f1, ⟨h0, h1⟩, h.good.f3, h.good.n1, h.good.n2, h.good.n3⟩ (by simp [rcells, DS.fl2]) (by simp [fcells, DS.fl2, ft_true]))
  clear h h0 h1
  go_enter Try.func54, Try.ntmps54
  go_wp2
  go_ret
  exact ⟨rfl, HF.out⟩
set_option maxHeartbeats 800000 in
set_option maxRecDepth 1000000 in
theorem rfl3_any (h : RD w p vl Ls vc Cs f S) (n : Int) (h0 : 0 ≤ n) (h1 : n ≤ 9223372036854775807) (hdk : S.dk = false) :
    Calls Try.prog 54 #[.pointer (some ⟨p, 0, none⟩), .int .i64 3, .int .i64 n] w fun e w' => e = .returned (.int .u16 0) ∧ RD w' p vl Ls vc Cs f (S.fl3 n) ∧ Mv (fun k => k = p ∨ k = f) w w' := by
  have c2 := h.c 2 (.bool S.dk) rfl
  rw [hdk] at c2
  have c4 := h.c 4 (.slice (some ⟨f, 0, none⟩) 4 4) rfl
  have g1 := h.fc 3 (.int .i64 (ft S.s3 S.l3)) rfl
  have y1 := h.ff 3
  have hn : decide (n < 0) = false := by simp; omega
  have HF := hide (h.turned (S' := S.fl3 n) [] [(3, .int .i64 n)] rfl rfl ⟨h.good.ls, h.good.ws, h.good.most, h.good.few, h.good.t, h.good.f1, h.good.f2, ⟨h0, h1⟩, h.good.n1, h.good.n2, h.good.n3⟩ (by simp [rcells, DS.fl3]) (by simp [fcells, DS.fl3, ft_true]))
  clear h h0 h1
  go_enter Try.func54, Try.ntmps54
  go_wp2
  go_ret
  exact ⟨rfl, HF.out⟩
set_option maxHeartbeats 800000 in
set_option maxRecDepth 1000000 in
theorem rfail_no (h : RD w p vl Ls vc Cs f S) (f n : Int) (hbad : (f < 1 ∨ 3 < f ∨ n < 0) ∨ S.dk = true) :
    Calls Try.prog 54 #[.pointer (some ⟨p, 0, none⟩), .int .i64 f, .int .i64 n] w fun e w' => e = .returned (.int .u16 (if f < 1 ∨ 3 < f ∨ n < 0 then 1 else 4)) ∧ w' = w := by
  have c3 := h.c 2 (.bool S.dk) rfl
  clear h
  by_cases h1 : f < 1
  · have d1 : decide (f < 1) = true := by simp [h1]
    rw [if_pos (.inl h1)]
    clear hbad h1
    go_enter Try.func54, Try.ntmps54
    go_wp2
    go_ret
    exact ⟨rfl, rfl⟩
  · have d1 : decide (f < 1) = false := by simp [h1]
    by_cases h2 : 3 < f
    · have d2 : decide ((3 : Int) < f) = true := by simp [h2]
      rw [if_pos (.inr (.inl h2))]
      clear hbad h1 h2
      go_enter Try.func54, Try.ntmps54
      go_wp2
      go_ret
      exact ⟨rfl, rfl⟩
    · have d2 : decide ((3 : Int) < f) = false := by simp [h2]
      by_cases h3 : n < 0
      · have d3 : decide (n < 0) = true := by simp [h3]
        rw [if_pos (.inr (.inr h3))]
        clear hbad h1 h2 h3
        go_enter Try.func54, Try.ntmps54
        go_wp2
        go_ret
        exact ⟨rfl, rfl⟩
      · have d3 : decide (n < 0) = false := by simp [h3]
        have hno : ¬ (f < 1 ∨ 3 < f ∨ n < 0) := fun h => h.elim h1 (fun h => h.elim h2 h3)
        rw [if_neg hno]
        rw [hbad.resolve_left hno] at c3
        clear hbad h1 h2 h3 hno
        go_enter Try.func54, Try.ntmps54
        go_wp2
        go_ret
        exact ⟨rfl, rfl⟩
end Go.Proofs.Ytkammfkknfflgaa
