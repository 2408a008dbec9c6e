/- Words are put into a book. -/
import Derived.Test.YtlahkeapfcfbbaaDoorGW
import Derived.Test.YtlahkeapfcfbbaaDoorGN
namespace Go.Proofs.YtlahkeapfcfbbaaDoor.Bo
open Go.RowKit
set_option linter.unusedVariables false

set_option maxHeartbeats 1600000 in
set_option maxRecDepth 1000000 in
theorem bookWords_any (q : Nat) (f : Nat → Value) (v : Value) (hv : f 5 = v) (n : Nat) (A : Nat → Option Addr) (C : Nat → Nat) (Z : Nat → List Int) (a : Option Addr) (c : Nat) (zs : List Int) (m : Nat) (hm : zs.length = m) (w : World) (hb : Bk w q f) (h : Fam .u32 56 65 w v n A C Z) (ho : OwnK .u32 56 w (.slice a m c) zs) (hap : ∀ k, rft n A k → ¬ ∃ ad, a = some ad ∧ ad.block = k) (hn : n ≤ 1000000000) :
    Calls Tryd.prog 11 #[.pointer (some ⟨q, 0, none⟩), .slice a m c] w fun r w' => r = .returned (.tuple #[]) ∧ ∃ v', Bk w' q (putf f 5 v') ∧ Fam .u32 56 65 w' v' (n + 1) (putf A n a) (putf C n c) (putf Z n zs) ∧ Kp (fun k => k = q ∨ blks v k) w w' ∧ ∀ k, blks v' k → blks v k ∨ w.heap.size ≤ k := by
  subst hm
  obtain ⟨i0, hi, hz0, hz1, hz2⟩ := info_parts infoWords_l
  have HB := hide hb
  have H := hide h
  have HO := hide ho
  have HAp := hide hap
  have c0 := hb.c 5 (by omega)
  rw [hv] at c0
  have HULL := hide (show Tryd.prog.underlying 36 = some (.slice 65) by kernel_rfl)
  have HV := hide hv
  have hlen : ((List.range n).map fun i => rv (A i) (C i) (Z i)).length = n := by simp
  have HL : Hid (w.ownsRow 0 65 1 v ((List.range n).map fun i => rv (A i) (C i) (Z i)).length ((List.range n).map fun i => rv (A i) (C i) (Z i))) := by rw [hlen]; exact h.list
  have HSz : Hid ((((List.range n).map fun i => rv (A i) (C i) (Z i)).length + 1) * i0.bytes ≤ 140737488355328) := by rw [hlen, hz2]; show _ ≤ _; omega
  have HSz2 : Hid (((List.range n).map fun i => rv (A i) (C i) (Z i)).length + 1 ≤ 140737488355328) := by rw [hlen]; show _ ≤ _; omega
  have HL1 := hide (list_of_block HL.out (w' := w.alloc (.cells #[rv a c zs] 65)) (fun k hk => Below.heap_alloc w _ k (list_lt HL.out k hk)))
  have HS := hide (src_laid (P := Tryd.prog) w (rv a c zs) HULL.out rfl)
  clear hlen hb h ho hap hv
  go_enter Tryd.func11, Tryd.ntmps11
  go_wp2_with (at_builtin; refine wpList_append_one (by rfl) _ _ 36 36 65 (by rfl) i0 (.slice none 0 0) HULL.out hi hz0 hz1 rfl v _ (by rfl) HL1.out _ 1 [rv a c zs] (by rfl) HS.out HSz.out HSz2.out ?_; intro v' w1 hown1 hg1 hf1 hfull; obtain ⟨x3, n3, c3, rfl, HN3⟩ := list_shape hown1; have HO1 := hide hown1; have HG1 := hide hg1; have HF1 := hide hf1; have hb1 : Bk w1 q f := ((hg1.block q (by have := HB.out.lt; simp; omega) (fun e => book_ne HB.out HL.out (by decide) e.symm)).trans (Below.heap_alloc w _ q HB.out.lt)).trans HB.out; have c1 := hb1.c 5 (by omega); rw [HV.out] at c1; have f1 := hb1.f 5; have HB1 := hide hb1; clear hown1 hg1 hf1 hfull hb1)
  go_end0
  have hkp : Kp (fun k => k = q ∨ blks v k) w (w1.setCell ⟨q, 5, none⟩ (.slice x3 n3 c3)) :=
    ((Kp.of_below (below_alloc w _)).trans (Kp.grown HG1.out (fun k hk => .inr hk))).trans (Kp.grown (grown_setCell w1 q 5 (.slice x3 n3 c3)) (fun k hk => .inl (by cases hk; rfl)))
  refine ⟨rfl, .slice x3 n3 c3, HB1.out.set 5, H.out.more HO.out ?_ (list_of_block HO1.out ?_) (by decide) ?_, hkp, ?_⟩
  · intro k h1 h2
    exact HAp.out k h1 ((blks_rv _ _ _ k).1 h2)
  · intro k hk
    refine Below.heap_setCell _ _ _ _ (fun e => ?_)
    subst e
    exact book_ne HB1.out HO1.out (by decide) hk
  · intro k hk hv
    by_cases e : k = q
    · subst e; exact .inr ⟨k, rfl, f, HB.out⟩
    · exact .inl (hkp.block k hk (fun h => h.elim e hv))
  · intro k hk
    rcases HF1.out k hk with h1 | h1
    · exact .inl h1
    · have : w.heap.size ≤ (w.alloc (.cells #[rv a c zs] 65)).heap.size := (below_alloc w _).size
      exact .inr (Nat.le_trans this h1)
end Go.Proofs.YtlahkeapfcfbbaaDoor.Bo
