/- A write and a read that are refused: a page that is not there, bytes of another length. -/
import Derived.Test.YtkammfkknfflgaaDP
namespace Go.Proofs.Ytkammfkknfflgaa
open Go.RowKit Go.Maps
set_option linter.unusedVariables false

set_option maxHeartbeats 1600000 in
set_option maxRecDepth 1000000 in
theorem writes_range (p q : Nat) (vw : Value) (m : Option Nat) (S : DS) (k0 k1 : Nat) (x2 : Value) (pg : Int) (w : World) (h : Dk w p q vw m S)
    (c0 : w.cell? ⟨k0, 0, none⟩ = some (.pointer (some ⟨p, 0, none⟩))) (c1 : w.cell? ⟨k1, 0, none⟩ = some (.int .i64 pg)) (hpg : ¬ (0 ≤ pg ∧ pg < ((S.ls.length / 8 : Nat) : Int))) :
    Calls Try.prog 33 #[.pointer (some ⟨k0, 0, none⟩), .pointer (some ⟨k1, 0, none⟩), x2] w fun e w' => e = .returned (.int .u16 2) ∧ Below w.heap.size w w' := by
  have Hhas := hide (has_any p q S.ls.length pg w (h.c 0 (.slice (some ⟨q, 0, none⟩) S.ls.length S.ls.length) rfl) h.good.most)
  rw [decide_eq_false hpg] at Hhas
  clear h hpg
  go_enter Try.func33, Try.ntmps33
  go_wp2_with fail
  refine Hhas.out.mono ?_
  rintro e w1 ⟨rfl, hb⟩
  have HB := hide hb
  clear hb
  go_wp2
  go_ret
  exact ⟨rfl, HB.out⟩
set_option maxHeartbeats 1600000 in
set_option maxRecDepth 1000000 in
theorem reads_range (p q : Nat) (vw : Value) (m : Option Nat) (S : DS) (k0 k1 : Nat) (x2 : Value) (pg : Int) (w : World) (h : Dk w p q vw m S)
    (c0 : w.cell? ⟨k0, 0, none⟩ = some (.pointer (some ⟨p, 0, none⟩))) (c1 : w.cell? ⟨k1, 0, none⟩ = some (.int .i64 pg)) (hpg : ¬ (0 ≤ pg ∧ pg < ((S.ls.length / 8 : Nat) : Int))) :
    Calls Try.prog 38 #[.pointer (some ⟨k0, 0, none⟩), .pointer (some ⟨k1, 0, none⟩), x2] w fun e w' => e = .returned (.int .u16 2) ∧ Below w.heap.size w w' := by
  have Hhas := hide (has_any p q S.ls.length pg w (h.c 0 (.slice (some ⟨q, 0, none⟩) S.ls.length S.ls.length) rfl) h.good.most)
  rw [decide_eq_false hpg] at Hhas
  clear h hpg
  go_enter Try.func38, Try.ntmps38
  go_wp2_with fail
  refine Hhas.out.mono ?_
  rintro e w1 ⟨rfl, hb⟩
  have HB := hide hb
  clear hb
  go_wp2
  go_ret
  exact ⟨rfl, HB.out⟩
set_option maxHeartbeats 1600000 in
set_option maxRecDepth 1000000 in
theorem writes_arg (p q : Nat) (vw : Value) (m : Option Nat) (S : DS) (k0 k1 k2 : Nat) (pg : Int) (a : Option Addr) (len cap : Nat) (w : World) (h : Dk w p q vw m S)
    (c0 : w.cell? ⟨k0, 0, none⟩ = some (.pointer (some ⟨p, 0, none⟩))) (c1 : w.cell? ⟨k1, 0, none⟩ = some (.int .i64 pg)) (c2 : w.cell? ⟨k2, 0, none⟩ = some (.slice a len cap)) (hpg : 0 ≤ pg ∧ pg < ((S.ls.length / 8 : Nat) : Int)) (h1 : len ≠ 1024) (h2 : len ≠ 128) :
    Calls Try.prog 33 #[.pointer (some ⟨k0, 0, none⟩), .pointer (some ⟨k1, 0, none⟩), .pointer (some ⟨k2, 0, none⟩)] w fun e w' => e = .returned (.int .u16 1) ∧ Below w.heap.size w w' := by
  have Hhas := hide (has_any p q S.ls.length pg w (h.c 0 (.slice (some ⟨q, 0, none⟩) S.ls.length S.ls.length) rfl) h.good.most)
  rw [decide_eq_true hpg] at Hhas
  have n1 : ((len : Int) != 1024) = true := by rw [bne_iff_ne]; omega
  have n2 : ((len : Int) != 128) = true := by rw [bne_iff_ne]; omega
  have l2 := World.block_lt_of_cell? w _ c2
  clear h hpg h1 h2
  go_enter Try.func33, Try.ntmps33
  go_wp2_with fail
  refine Hhas.out.mono ?_
  rintro e w1 ⟨rfl, hb⟩
  have HB := hide hb
  have c2' : w1.cell? ⟨k2, 0, none⟩ = some (.slice a len cap) := (hb.cell (p := ⟨k2, 0, none⟩) l2).trans c2
  clear hb c2 c0 c1
  go_wp2
  go_ret
  exact ⟨rfl, HB.out⟩

/-- a write that is refused, for its page or for its bytes: it is counted, and uses up trip and fault. -/
def DS.wno (S : DS) (pg : Int) (len : Nat) : Nat := if S.er S.s2 S.l2 ≠ 0 then S.er S.s2 S.l2 else if ¬ (0 ≤ pg ∧ pg < ((S.ls.length / 8 : Nat) : Int)) then 2 else 1
set_option maxHeartbeats 1600000 in
set_option maxRecDepth 1000000 in
theorem write_no (p q : Nat) (O : Nat → Prop) (S : DS) (pg : Int) (a : Option Addr) (len cap : Nat) (w : World) (h : DkAt w p q S O) (hbad : ¬ (0 ≤ pg ∧ pg < ((S.ls.length / 8 : Nat) : Int)) ∨ len ≠ 1024 ∧ len ≠ 128) (hn : S.n2 + 1 ≤ 40000000) :
    Calls Try.prog 18 #[.pointer (some ⟨p, 0, none⟩), .int .i64 pg, .slice a len cap] w fun e w' => e = .returned (.int .u16 (S.wno pg len : Int)) ∧ DkAt w' p q (S.be S.op2) O ∧ Go1 O w O w' := by
  obtain ⟨vw, m, hd, ho⟩ := h
  have hlt : ∀ k, Ow p q vw m k → k < w.heap.size := hd.lt
  have nO : ∀ k, w.heap.size ≤ k → ¬ Ow p q vw m k := fun k hk h => by have := hlt k h; omega
  obtain ⟨W3, hW3⟩ : ∃ W3, W3 = ((w.alloc (.cells #[.pointer (some ⟨p, 0, none⟩)] 24)).alloc (.cells #[.int .i64 pg] 3)).alloc (.cells #[.slice a len cap] 63) := ⟨_, rfl⟩
  have s1 := size_al w (.cells #[.pointer (some ⟨p, 0, none⟩)] 24)
  have s2 := size_al (w.alloc (.cells #[.pointer (some ⟨p, 0, none⟩)] 24)) (.cells #[.int .i64 pg] 3)
  have hb3 : Below w.heap.size w W3 := by
    rw [hW3]
    exact (below_alloc w _).trans (((below_alloc _ _).mono (by omega)).trans ((below_alloc _ _).mono (by omega)))
  have c0 : W3.cell? ⟨w.heap.size, 0, none⟩ = some (.pointer (some ⟨p, 0, none⟩)) := by rw [hW3]; exact cell_old (cell_old (cell_new _ _ _) _) _
  have c1 : W3.cell? ⟨w.heap.size + 1, 0, none⟩ = some (.int .i64 pg) := by rw [hW3]; have := cell_old (cell_new (w.alloc (.cells #[.pointer (some ⟨p, 0, none⟩)] 24)) (.int .i64 pg) 3) (.cells #[.slice a len cap] 63); rwa [s1] at this
  have c2 : W3.cell? ⟨w.heap.size + 2, 0, none⟩ = some (.slice a len cap) := by rw [hW3]; have := cell_new ((w.alloc (.cells #[.pointer (some ⟨p, 0, none⟩)] 24)).alloc (.cells #[.int .i64 pg] 3)) (.slice a len cap) 63; rwa [s2, s1] at this
  have HOp := hide (operate2 p q vw m S W3 (.pointer (some ⟨w.heap.size, 0, none⟩)) (.pointer (some ⟨w.heap.size + 1, 0, none⟩)) (.pointer (some ⟨w.heap.size + 2, 0, none⟩))
    (fun x w' => x = (S.wno pg len : Int) ∧ DkAt w' p q (S.be S.op2) O ∧ Go1 O w O w') (hd.below hb3) hn
    (fun he W hdW hm hs => by
      have hg0 : Go1 (Ow p q vw m) w (Ow p q vw m) W := (Go1.of_below hb3).trans (Go1.of_mv hm (.inl rfl))
      have hm' : Mv (Ow p q vw m) W3 W := (Go1.of_mv hm (.inl rfl)).mv
      have k0 := hm'.cell c0 (nO _ (Nat.le_refl _))
      have k1 := hm'.cell c1 (nO _ (by omega))
      have k2 := hm'.cell c2 (nO _ (by omega))
      have fin : ∀ w', Below W.heap.size W w' → DkAt w' p q (S.be S.op2) O ∧ Go1 O w O w' := fun w' hb => by
        rw [be_zero he]
        exact ⟨⟨vw, m, hdW.below hb, ho⟩, Go1.ofO (hg0.trans (Go1.of_below hb)) ho ho⟩
      by_cases hpg : 0 ≤ pg ∧ pg < ((S.ls.length / 8 : Nat) : Int)
      · obtain ⟨n1, n2⟩ := hbad.resolve_left (fun h => h hpg)
        refine (writes_arg p q vw m S.op2 _ _ _ pg a len cap W hdW k0 k1 k2 hpg n1 n2).mono ?_
        rintro e w' ⟨rfl, hb⟩
        exact ⟨1, rfl, by rw [DS.wno, if_neg (by omega), if_neg (fun h => h hpg)]; rfl, fin w' hb⟩
      · refine (writes_range p q vw m S.op2 _ _ _ pg W hdW k0 k1 hpg).mono ?_
        rintro e w' ⟨rfl, hb⟩
        exact ⟨2, rfl, by rw [DS.wno, if_neg (by omega), if_pos hpg]; rfl, fin w' hb⟩)
    (fun he W hdW hm hs => by
      have hg0 : Go1 (Ow p q vw m) w (Ow p q vw m) W := (Go1.of_below hb3).trans (Go1.of_mv hm (.inl rfl))
      exact ⟨by rw [DS.wno, if_pos he], ⟨vw, m, hdW, ho⟩, Go1.ofO hg0 ho ho⟩))
  clear hd ho hlt nO hbad hn hb3 c1 c2 s1 s2
  have hmf' := hmf
  subst hW3
  go_enter Try.func18, Try.ntmps18
  go_wp2_with fail
  refine HOp.out.mono ?_
  rintro e w' ⟨x, rfl, rfl, hh⟩
  have HH := hide hh
  clear hh
  go_wp2
  go_ret
  exact ⟨rfl, HH.out⟩
end Go.Proofs.Ytkammfkknfflgaa
