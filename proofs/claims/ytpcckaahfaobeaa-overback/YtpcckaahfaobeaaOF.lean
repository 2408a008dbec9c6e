/- Encode refuses. -/
import Derived.Test.YtpcckaahfaobeaaOD
namespace Go.Proofs.Ytpcckaahfaobeaa
open Go.RowKit Go.Shelf Go.Maps
attribute [local go_sem] Oper.semAt_some wide_fn
set_option linter.unusedVariables false
variable {w w' : World}
set_option maxHeartbeats 6400000 in
set_option maxRecDepth 1000000 in
theorem encode_no (w : World) (a a' : Option Addr) (n c m c' : Nat) (hn : n ≤ 9223372036854775807) (ys : List Nat) (hl' : ys.length = m) (hm : m ≤ 1000000) (hr' : Rw w a' ys) (hz' : W32 ys) (hbad : m = 0 ∨ m ≠ need n ∨ ys.all okp = false) :
    Calls Try.prog 8 #[.slice a n c, .slice a' m c'] w fun e w' => e = .returned (.tuple #[.slice none 0 0, .int .u16 120]) ∧ Below w.heap.size w w' := by
  obtain ⟨p, hp⟩ : ∃ p, p = need n := ⟨_, rfl⟩
  have hp9 := need_le n
  rw [← hp] at hbad hp9
  have HN : Hid (∀ W, Calls Try.prog 5 #[.int .i64 (n : Int)] W fun e w' => e = .returned (.int .i64 (p : Int)) ∧ w' = W) := fun W => by rw [hp]; exact need_any W n hn
  have HCn : Hid (∀ W, Below w.heap.size w W → Calls Try.prog 14 #[.slice a' m c', .func (.func 15) #[] #[]] W fun e w' => e = .returned (.bool (!ys.all okp)) ∧ w' = W) := fun W hW =>
    contains_any W a' m c' ys hl' (by omega) (hr'.below hW) hz'
  have HB1 : Hid (∀ k, Below w.heap.size w ((w.alloc (.cells #[.slice a' m c'] 33)).drewN k)) := fun k => (below_alloc w _).trans (((Same.refl _).drewN k).below.mono (by simp))
  clear hl' hr' hz' hp
  refine (callsIn_wide (n := 9)).1 ?_
  refine callsIn_of_wp_marks Try.func8 rfl trivial ?_ rfl
  simp only [Try.ntmps8, List.size_toArray, List.length_cons, List.length_nil, Nat.reduceAdd, Nat.reduceSub, Array.replicate_succ, Array.replicate_zero, List.push_toArray, List.append_toArray, List.nil_append, List.cons_append]
  by_cases h0 : m = 0
  · have hq0 : ((m : Int) == 0) = true := by rw [beq_iff_eq]; omega
    clear hbad
    have H0 := hide h0
    clear h0
    gi_wp2
    gi_big_quiet_th (first | (gi_at_call 5; refine CallsIn.quiet_of_same (callsIn_wide.2 (HN.out _))) | (gi_at_call 14; refine CallsIn.quiet_of_same (callsIn_wide.2 (HCn.out _ (HB1.out _)))))
    gi_wp2
    refine ⟨.tuple #[.slice none 0 0, .int .u16 120], ?_, rfl, HB1.out nq⟩
    simp [results, Try.results8, go_sem]
  · have hq0 : ((m : Int) == 0) = false := by rw [beq_eq_false_iff_ne]; omega
    by_cases h1 : m = p
    · have hq1 : ((m : Int) != (p : Int)) = false := by rw [bne_eq_false_iff_eq]; omega
      have hal : ys.all okp = false := by rcases hbad with e | e | e; exact absurd e h0; exact absurd h1 e; exact e
      rw [hal] at HCn
      clear hbad hal h0 
      have H1 := hide h1
      clear h1
      gi_wp2
      gi_big_quiet_th (first | (gi_at_call 5; refine CallsIn.quiet_of_same (callsIn_wide.2 (HN.out _))) | (gi_at_call 14; refine CallsIn.quiet_of_same (callsIn_wide.2 (HCn.out _ (HB1.out _)))))
      gi_wp2
      refine ⟨.tuple #[.slice none 0 0, .int .u16 120], ?_, rfl, HB1.out nq⟩
      simp [results, Try.results8, go_sem]
    · have hq1 : ((m : Int) != (p : Int)) = true := by rw [bne_iff_ne]; omega
      clear hbad h0 h1
      gi_wp2
      gi_big_quiet_th (first | (gi_at_call 5; refine CallsIn.quiet_of_same (callsIn_wide.2 (HN.out _))) | (gi_at_call 14; refine CallsIn.quiet_of_same (callsIn_wide.2 (HCn.out _ (HB1.out _)))))
      gi_wp2
      refine ⟨.tuple #[.slice none 0 0, .int .u16 120], ?_, rfl, HB1.out nq⟩
      simp [results, Try.results8, go_sem]
end Go.Proofs.Ytpcckaahfaobeaa
