/- A write and a read that are refused: a page that is not there, bytes of another length. -/
import Derived.Test.YtfifpgkmgbenlaaDP
import Derived.Test.YtfifpgkmgbenlaaDY
namespace Go.Proofs.Ytfifpgkmgbenlaa
open Go.RowKit Go.Maps
set_option linter.unusedVariables false

set_option maxHeartbeats 1600000 in
set_option maxRecDepth 1000000 in
theorem writes_range (p q : Nat) (vw : Value) (m : Option Nat) (S : DS) (k0 k1 : Nat) (x2 : Value) (pg : Int) (w : World) (h : Dk w p q vw m S)
    (c0 : w.cell? ⟨k0, 0, none⟩ = some (.pointer (some ⟨p, 0, none⟩))) (c1 : w.cell? ⟨k1, 0, none⟩ = some (.int .i64 pg)) (hpg : ¬ (0 ≤ pg ∧ pg < ((S.ls.length / 8 : Nat) : Int))) :
    Calls Try.prog 22 #[.pointer (some ⟨k0, 0, none⟩), .pointer (some ⟨k1, 0, none⟩), x2] w fun e w' => e = .returned (.int .u16 2) ∧ Below w.heap.size w w' := by
  have Hhas := hide (has_any p q S.ls.length pg w (h.c 0 (.slice (some ⟨q, 0, none⟩) S.ls.length S.ls.length) rfl) h.good.most)
  rw [decide_eq_false hpg] at Hhas
  clear h hpg
  go_enter Try.func22, Try.ntmps22
  go_wp2_with fail
  refine Hhas.out.mono ?_
  rintro e w1 ⟨rfl, hb⟩
  have HB := hide hb
  clear hb
  go_wp2
  go_ret
  exact ⟨rfl, HB.out⟩
set_option maxHeartbeats 1600000 in
set_option maxRecDepth 1000000 in
theorem reads_range (p q : Nat) (vw : Value) (m : Option Nat) (S : DS) (k0 k1 : Nat) (x2 : Value) (pg : Int) (w : World) (h : Dk w p q vw m S)
    (c0 : w.cell? ⟨k0, 0, none⟩ = some (.pointer (some ⟨p, 0, none⟩))) (c1 : w.cell? ⟨k1, 0, none⟩ = some (.int .i64 pg)) (hpg : ¬ (0 ≤ pg ∧ pg < ((S.ls.length / 8 : Nat) : Int))) :
    Calls Try.prog 29 #[.pointer (some ⟨k0, 0, none⟩), .pointer (some ⟨k1, 0, none⟩), x2] w fun e w' => e = .returned (.int .u16 2) ∧ Below w.heap.size w w' := by
  have Hhas := hide (has_any p q S.ls.length pg w (h.c 0 (.slice (some ⟨q, 0, none⟩) S.ls.length S.ls.length) rfl) h.good.most)
  rw [decide_eq_false hpg] at Hhas
  clear h hpg
  go_enter Try.func29, Try.ntmps29
  go_wp2_with fail
  refine Hhas.out.mono ?_
  rintro e w1 ⟨rfl, hb⟩
  have HB := hide hb
  clear hb
  go_wp2
  go_ret
  exact ⟨rfl, HB.out⟩
set_option maxHeartbeats 1600000 in
set_option maxRecDepth 1000000 in
theorem writes_arg (p q : Nat) (vw : Value) (m : Option Nat) (S : DS) (k0 k1 k2 : Nat) (pg : Int) (a : Option Addr) (len cap : Nat) (w : World) (h : Dk w p q vw m S)
    (c0 : w.cell? ⟨k0, 0, none⟩ = some (.pointer (some ⟨p, 0, none⟩))) (c1 : w.cell? ⟨k1, 0, none⟩ = some (.int .i64 pg)) (c2 : w.cell? ⟨k2, 0, none⟩ = some (.slice a len cap)) (hpg : 0 ≤ pg ∧ pg < ((S.ls.length / 8 : Nat) : Int)) (h1 : len ≠ 1024) (h2 : len ≠ 128) :
    Calls Try.prog 22 #[.pointer (some ⟨k0, 0, none⟩), .pointer (some ⟨k1, 0, none⟩), .pointer (some ⟨k2, 0, none⟩)] w fun e w' => e = .returned (.int .u16 1) ∧ Below w.heap.size w w' := by
  have Hhas := hide (has_any p q S.ls.length pg w (h.c 0 (.slice (some ⟨q, 0, none⟩) S.ls.length S.ls.length) rfl) h.good.most)
  rw [decide_eq_true hpg] at Hhas
  have n1 : ((len : Int) != 1024) = true := by rw [bne_iff_ne]; omega
  have n2 : ((len : Int) != 128) = true := by rw [bne_iff_ne]; omega
  have l2 := World.block_lt_of_cell? w _ c2
  clear h hpg h1 h2
  go_enter Try.func22, Try.ntmps22
  go_wp2_with fail
  refine Hhas.out.mono ?_
  rintro e w1 ⟨rfl, hb⟩
  have HB := hide hb
  have c2' : w1.cell? ⟨k2, 0, none⟩ = some (.slice a len cap) := (hb.cell (p := ⟨k2, 0, none⟩) l2).trans c2
  clear hb c2 c0 c1
  go_wp2
  go_ret
  exact ⟨rfl, HB.out⟩

/-- a write that is refused, for its page or for its bytes: it is counted, and uses up trip and fault. -/
def DS.wno (S : DS) (pg : Int) (len : Nat) : Nat := if S.er S.s2 S.l2 ≠ 0 then S.er S.s2 S.l2 else if ¬ (0 ≤ pg ∧ pg < ((S.ls.length / 8 : Nat) : Int)) then 2 else 1
set_option maxHeartbeats 1600000 in
set_option maxRecDepth 1000000 in
theorem write_no (p q : Nat) (O : Nat → Prop) (S : DS) (pg : Int) (a : Option Addr) (len cap : Nat) (w : World) (h : DkAt w p q S O) (hbad : ¬ (0 ≤ pg ∧ pg < ((S.ls.length / 8 : Nat) : Int)) ∨ len ≠ 1024 ∧ len ≠ 128) (hn : S.n2 + 1 ≤ 1000000) :
    Calls Try.prog 8 #[.pointer (some ⟨p, 0, none⟩), .int .i64 pg, .slice a len cap] w fun e w' => e = .returned (.int .u16 (S.wno pg len : Int)) ∧ DkAt w' p q (S.be S.op2) O ∧ Go1 O w O w' := by
  obtain ⟨vw, m, hd, ho⟩ := h
  have hlt : ∀ k, Ow p q vw m k → k < w.heap.size := hd.lt
  have nO : ∀ k, w.heap.size ≤ k → ¬ Ow p q vw m k := fun k hk h => by have := hlt k h; omega
  obtain ⟨W3, hW3⟩ : ∃ W3, W3 = ((w.alloc (.cells #[.pointer (some ⟨p, 0, none⟩)] 26)).alloc (.cells #[.int .i64 pg] 3)).alloc (.cells #[.slice a len cap] 22) := ⟨_, rfl⟩
  have s1 := size_al w (.cells #[.pointer (some ⟨p, 0, none⟩)] 26)
  have s2 := size_al (w.alloc (.cells #[.pointer (some ⟨p, 0, none⟩)] 26)) (.cells #[.int .i64 pg] 3)
  have hb3 : Below w.heap.size w W3 := by
    rw [hW3]
    exact (below_alloc w _).trans (((below_alloc _ _).mono (by omega)).trans ((below_alloc _ _).mono (by omega)))
  have c0 : W3.cell? ⟨w.heap.size, 0, none⟩ = some (.pointer (some ⟨p, 0, none⟩)) := by rw [hW3]; exact cell_old (cell_old (cell_new _ _ _) _) _
  have c1 : W3.cell? ⟨w.heap.size + 1, 0, none⟩ = some (.int .i64 pg) := by rw [hW3]; have := cell_old (cell_new (w.alloc (.cells #[.pointer (some ⟨p, 0, none⟩)] 26)) (.int .i64 pg) 3) (.cells #[.slice a len cap] 22); rwa [s1] at this
  have c2 : W3.cell? ⟨w.heap.size + 2, 0, none⟩ = some (.slice a len cap) := by rw [hW3]; have := cell_new ((w.alloc (.cells #[.pointer (some ⟨p, 0, none⟩)] 26)).alloc (.cells #[.int .i64 pg] 3)) (.slice a len cap) 22; rwa [s2, s1] at this
  have HOp := hide (operate2 p q vw m S W3 (.pointer (some ⟨w.heap.size, 0, none⟩)) (.pointer (some ⟨w.heap.size + 1, 0, none⟩)) (.pointer (some ⟨w.heap.size + 2, 0, none⟩))
    (fun x w' => x = (S.wno pg len : Int) ∧ DkAt w' p q (S.be S.op2) O ∧ Go1 O w O w') (hd.below hb3) hn
    (fun he W hdW hm hs => by
      have hg0 : Go1 (Ow p q vw m) w (Ow p q vw m) W := (Go1.of_below hb3).trans (Go1.of_mv hm (.inl rfl))
      have hm' : Mv (Ow p q vw m) W3 W := (Go1.of_mv hm (.inl rfl)).mv
      have k0 := hm'.cell c0 (nO _ (Nat.le_refl _))
      have k1 := hm'.cell c1 (nO _ (by omega))
      have k2 := hm'.cell c2 (nO _ (by omega))
      have fin : ∀ w', Below W.heap.size W w' → DkAt w' p q (S.be S.op2) O ∧ Go1 O w O w' := fun w' hb => by
        rw [be_zero he]
        exact ⟨⟨vw, m, hdW.below hb, ho⟩, Go1.ofO (hg0.trans (Go1.of_below hb)) ho ho⟩
      by_cases hpg : 0 ≤ pg ∧ pg < ((S.ls.length / 8 : Nat) : Int)
      · obtain ⟨n1, n2⟩ := hbad.resolve_left (fun h => h hpg)
        refine (writes_arg p q vw m S.op2 _ _ _ pg a len cap W hdW k0 k1 k2 hpg n1 n2).mono ?_
        rintro e w' ⟨rfl, hb⟩
        exact ⟨1, rfl, by rw [DS.wno, if_neg (by omega), if_neg (fun h => h hpg)]; rfl, fin w' hb⟩
      · refine (writes_range p q vw m S.op2 _ _ _ pg W hdW k0 k1 hpg).mono ?_
        rintro e w' ⟨rfl, hb⟩
        exact ⟨2, rfl, by rw [DS.wno, if_neg (by omega), if_pos hpg]; rfl, fin w' hb⟩)
    (fun he W hdW hm hs => by
      have hg0 : Go1 (Ow p q vw m) w (Ow p q vw m) W := (Go1.of_below hb3).trans (Go1.of_mv hm (.inl rfl))
      exact ⟨by rw [DS.wno, if_pos he], ⟨vw, m, hdW, ho⟩, Go1.ofO hg0 ho ho⟩))
  clear hd ho hlt nO hbad hn hb3 c1 c2 s1 s2
  have hmf' := hmf
  subst hW3
  go_enter Try.func8, Try.ntmps8
  go_wp2_with fail
  refine HOp.out.mono ?_
  rintro e w' ⟨x, rfl, rfl, hh⟩
  have HH := hide hh
  clear hh
  go_wp2
  go_ret
  exact ⟨rfl, HH.out⟩
end Go.Proofs.Ytfifpgkmgbenlaa
/- A read that is refused; trips and faults that are refused. -/
namespace Go.Proofs.Ytfifpgkmgbenlaa
open Go.RowKit Go.Maps
set_option linter.unusedVariables false

/-- a read of a page that is not there. -/
def DS.rno (S : DS) : Nat := if S.er S.s1 S.l1 ≠ 0 then S.er S.s1 S.l1 else 2
set_option maxHeartbeats 1600000 in
set_option maxRecDepth 1000000 in
theorem read_no (p q : Nat) (O : Nat → Prop) (S : DS) (pg : Int) (w : World) (h : DkAt w p q S O) (hbad : ¬ (0 ≤ pg ∧ pg < ((S.ls.length / 8 : Nat) : Int))) (hn : S.n1 + 1 ≤ 1000000) :
    Calls Try.prog 19 #[.pointer (some ⟨p, 0, none⟩), .int .i64 pg] w fun e w' => e = .returned (.tuple #[.slice none 0 0, .int .u16 (S.rno : Int)]) ∧ DkAt w' p q (S.be S.op1) O ∧ Go1 O w O w' := by
  obtain ⟨vw, m, hd, ho⟩ := h
  have hlt : ∀ k, Ow p q vw m k → k < w.heap.size := hd.lt
  have nO : ∀ k, w.heap.size ≤ k → ¬ Ow p q vw m k := fun k hk h => by have := hlt k h; omega
  obtain ⟨W3, hW3⟩ : ∃ W3, W3 = ((w.alloc (.cells #[.pointer (some ⟨p, 0, none⟩)] 26)).alloc (.cells #[.int .i64 pg] 3)).alloc (.cells #[.slice none 0 0] 22) := ⟨_, rfl⟩
  have s1 := size_al w (.cells #[.pointer (some ⟨p, 0, none⟩)] 26)
  have s2 := size_al (w.alloc (.cells #[.pointer (some ⟨p, 0, none⟩)] 26)) (.cells #[.int .i64 pg] 3)
  have s3 : W3.heap.size = w.heap.size + 3 := by rw [hW3, size_al, s2, s1]
  have hb3 : Below w.heap.size w W3 := by
    rw [hW3]
    exact (below_alloc w _).trans (((below_alloc _ _).mono (by omega)).trans ((below_alloc _ _).mono (by omega)))
  have c0 : W3.cell? ⟨w.heap.size, 0, none⟩ = some (.pointer (some ⟨p, 0, none⟩)) := by rw [hW3]; exact cell_old (cell_old (cell_new _ _ _) _) _
  have c1 : W3.cell? ⟨w.heap.size + 1, 0, none⟩ = some (.int .i64 pg) := by rw [hW3]; have := cell_old (cell_new (w.alloc (.cells #[.pointer (some ⟨p, 0, none⟩)] 26)) (.int .i64 pg) 3) (.cells #[.slice none 0 0] 22); rwa [s1] at this
  have c2 : W3.cell? ⟨w.heap.size + 2, 0, none⟩ = some (.slice none 0 0) := by rw [hW3]; have := cell_new ((w.alloc (.cells #[.pointer (some ⟨p, 0, none⟩)] 26)).alloc (.cells #[.int .i64 pg] 3)) (.slice none 0 0) 22; rwa [s2, s1] at this
  have HOp := hide (operate1 p q vw m S W3 (.pointer (some ⟨w.heap.size, 0, none⟩)) (.pointer (some ⟨w.heap.size + 1, 0, none⟩)) (.pointer (some ⟨w.heap.size + 2, 0, none⟩))
    (fun x w' => x = (S.rno : Int) ∧ w'.cell? ⟨w.heap.size + 2, 0, none⟩ = some (.slice none 0 0) ∧ DkAt w' p q (S.be S.op1) O ∧ Go1 O w O w') (hd.below hb3) hn
    (fun he W hdW hm hs => by
      have hg0 : Go1 (Ow p q vw m) w (Ow p q vw m) W := (Go1.of_below hb3).trans (Go1.of_mv hm (.inl rfl))
      have hm' : Mv (Ow p q vw m) W3 W := (Go1.of_mv hm (.inl rfl)).mv
      have k2 := hm'.cell c2 (nO _ (by omega))
      refine (reads_range p q vw m S.op1 _ _ _ pg W hdW (hm'.cell c0 (nO _ (Nat.le_refl _))) (hm'.cell c1 (nO _ (by omega))) hbad).mono ?_
      rintro e w' ⟨rfl, hb⟩
      refine ⟨2, rfl, by rw [DS.rno, if_neg (by omega)]; rfl, (hb.cell (p := ⟨w.heap.size + 2, 0, none⟩) (World.block_lt_of_cell? W _ k2)).trans k2, ?_⟩
      rw [be_zero he]
      exact ⟨⟨vw, m, hdW.below hb, ho⟩, Go1.ofO (hg0.trans (Go1.of_below hb)) ho ho⟩)
    (fun he W hdW hm hs => by
      have hg0 : Go1 (Ow p q vw m) w (Ow p q vw m) W := (Go1.of_below hb3).trans (Go1.of_mv hm (.inl rfl))
      have hm' : Mv (Ow p q vw m) W3 W := (Go1.of_mv hm (.inl rfl)).mv
      exact ⟨by rw [DS.rno, if_pos he], hm'.cell c2 (nO _ (by omega)), ⟨vw, m, hdW, ho⟩, Go1.ofO hg0 ho ho⟩))
  clear hd ho hlt nO hbad hn hb3 c1 c2 s1 s2 s3
  have hmf' := hmf
  have hz := zero63
  subst hW3
  go_enter Try.func19, Try.ntmps19
  go_wp2_with fail
  refine HOp.out.mono ?_
  rintro e w' ⟨x, rfl, rfl, hc, hh⟩
  have HH := hide hh
  clear hh
  go_wp2
  go_ret2
  exact ⟨rfl, HH.out⟩
set_option maxHeartbeats 800000 in
set_option maxRecDepth 1000000 in
theorem trip_no (p q : Nat) (O : Nat → Prop) (S : DS) (n : Int) (w : World) (h : DkAt w p q S O) (hbad : n < 0 ∨ S.dk = true) :
    Calls Try.prog 11 #[.pointer (some ⟨p, 0, none⟩), .int .i64 n] w fun e w' => e = .returned (.int .u16 (if n < 0 then 1 else 4)) ∧ Below w.heap.size w w' := by
  obtain ⟨vw, m, hd, ho⟩ := h
  have c3 := hd.c 3 (.bool S.dk) rfl
  clear hd ho
  by_cases h0 : n < 0
  · have hd0 : decide (n < 0) = true := by simp [h0]
    rw [if_pos h0]
    clear hbad h0
    go_enter Try.func11, Try.ntmps11
    go_wp2
    go_ret
    exact ⟨rfl, Below.refl _ _⟩
  · have hd0 : decide (n < 0) = false := by simp [h0]
    rw [if_neg h0]
    rw [hbad.resolve_left h0] at c3
    clear hbad h0
    go_enter Try.func11, Try.ntmps11
    go_wp2
    go_ret
    exact ⟨rfl, Below.refl _ _⟩
set_option maxHeartbeats 800000 in
set_option maxRecDepth 1000000 in
theorem fail_no (p q : Nat) (O : Nat → Prop) (S : DS) (f n : Int) (w : World) (h : DkAt w p q S O) (hbad : (f < 1 ∨ 3 < f ∨ n < 0) ∨ S.dk = true) :
    Calls Try.prog 12 #[.pointer (some ⟨p, 0, none⟩), .int .i64 f, .int .i64 n] w fun e w' => e = .returned (.int .u16 (if f < 1 ∨ 3 < f ∨ n < 0 then 1 else 4)) ∧ Below w.heap.size w w' := by
  obtain ⟨vw, m, hd, ho⟩ := h
  have c3 := hd.c 3 (.bool S.dk) rfl
  clear hd ho
  by_cases h1 : f < 1
  · have d1 : decide (f < 1) = true := by simp [h1]
    rw [if_pos (.inl h1)]
    clear hbad h1
    go_enter Try.func12, Try.ntmps12
    go_wp2
    go_ret
    exact ⟨rfl, Below.refl _ _⟩
  · have d1 : decide (f < 1) = false := by simp [h1]
    by_cases h2 : 3 < f
    · have d2 : decide ((3 : Int) < f) = true := by simp [h2]
      rw [if_pos (.inr (.inl h2))]
      clear hbad h1 h2
      go_enter Try.func12, Try.ntmps12
      go_wp2
      go_ret
      exact ⟨rfl, Below.refl _ _⟩
    · have d2 : decide ((3 : Int) < f) = false := by simp [h2]
      by_cases h3 : n < 0
      · have d3 : decide (n < 0) = true := by simp [h3]
        rw [if_pos (.inr (.inr h3))]
        clear hbad h1 h2 h3
        go_enter Try.func12, Try.ntmps12
        go_wp2
        go_ret
        exact ⟨rfl, Below.refl _ _⟩
      · have d3 : decide (n < 0) = false := by simp [h3]
        have hno : ¬ (f < 1 ∨ 3 < f ∨ n < 0) := fun h => h.elim h1 (fun h => h.elim h2 h3)
        rw [if_neg hno]
        rw [hbad.resolve_left hno] at c3
        clear hbad h1 h2 h3 hno
        go_enter Try.func12, Try.ntmps12
        go_wp2
        go_ret
        exact ⟨rfl, Below.refl _ _⟩
end Go.Proofs.Ytfifpgkmgbenlaa
