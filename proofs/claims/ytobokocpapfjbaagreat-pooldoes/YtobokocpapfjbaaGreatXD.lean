/- A write and a read that are refused: a page that is not there, bytes of another length. -/
import Derived.Test.YtobokocpapfjbaaGreatDT
import Derived.Test.YtobokocpapfjbaaGreatXB
namespace Go.Proofs.YtobokocpapfjbaaGreat
open Go.RowKit Go.Maps
set_option linter.unusedVariables false

set_option maxHeartbeats 1600000 in
set_option maxRecDepth 1000000 in
theorem writes_range (p q : Nat) (vw : Value) (m : Option Nat) (S : DS) (k0 k1 : Nat) (x2 : Value) (pg : Int) (w : World) (h : Dk w p q vw m S)
    (c0 : w.cell? ⟨k0, 0, none⟩ = some (.pointer (some ⟨p, 0, none⟩))) (c1 : w.cell? ⟨k1, 0, none⟩ = some (.int .i64 pg)) (hpg : ¬ (0 ≤ pg ∧ pg < ((S.ls.length / 8 : Nat) : Int))) :
    Calls Tryz.prog 38 #[.pointer (some ⟨k0, 0, none⟩), .pointer (some ⟨k1, 0, none⟩), x2] w fun e w' => e = .returned (.int .u16 2) ∧ Below w.heap.size w w' := by
  have Hhas := hide (has_any p q S.ls.length pg w (h.c 0 (.slice (some ⟨q, 0, none⟩) S.ls.length S.ls.length) rfl) h.good.most)
  rw [decide_eq_false hpg] at Hhas
  clear h hpg
  go_enter Tryz.func38, Tryz.ntmps38
  go_wp2_with fail
  refine Hhas.out.mono ?_
  rintro e w1 ⟨rfl, hb⟩
  have HB := hide hb
  clear hb
  go_wp2
  go_ret
  exact ⟨rfl, HB.out⟩
set_option maxHeartbeats 1600000 in
set_option maxRecDepth 1000000 in
theorem reads_range (p q : Nat) (vw : Value) (m : Option Nat) (S : DS) (k0 k1 : Nat) (x2 : Value) (pg : Int) (w : World) (h : Dk w p q vw m S)
    (c0 : w.cell? ⟨k0, 0, none⟩ = some (.pointer (some ⟨p, 0, none⟩))) (c1 : w.cell? ⟨k1, 0, none⟩ = some (.int .i64 pg)) (hpg : ¬ (0 ≤ pg ∧ pg < ((S.ls.length / 8 : Nat) : Int))) :
    Calls Tryz.prog 88 #[.pointer (some ⟨k0, 0, none⟩), .pointer (some ⟨k1, 0, none⟩), x2] w fun e w' => e = .returned (.int .u16 2) ∧ Below w.heap.size w w' := by
  have Hhas := hide (has_any p q S.ls.length pg w (h.c 0 (.slice (some ⟨q, 0, none⟩) S.ls.length S.ls.length) rfl) h.good.most)
  rw [decide_eq_false hpg] at Hhas
  clear h hpg
  go_enter Tryz.func88, Tryz.ntmps88
  go_wp2_with fail
  refine Hhas.out.mono ?_
  rintro e w1 ⟨rfl, hb⟩
  have HB := hide hb
  clear hb
  go_wp2
  go_ret
  exact ⟨rfl, HB.out⟩
set_option maxHeartbeats 1600000 in
set_option maxRecDepth 1000000 in
theorem writes_arg (p q : Nat) (vw : Value) (m : Option Nat) (S : DS) (k0 k1 k2 : Nat) (pg : Int) (a : Option Addr) (len cap : Nat) (w : World) (h : Dk w p q vw m S)
    (c0 : w.cell? ⟨k0, 0, none⟩ = some (.pointer (some ⟨p, 0, none⟩))) (c1 : w.cell? ⟨k1, 0, none⟩ = some (.int .i64 pg)) (c2 : w.cell? ⟨k2, 0, none⟩ = some (.slice a len cap)) (hpg : 0 ≤ pg ∧ pg < ((S.ls.length / 8 : Nat) : Int)) (h1 : len ≠ 1024) (h2 : len ≠ 128) :
    Calls Tryz.prog 38 #[.pointer (some ⟨k0, 0, none⟩), .pointer (some ⟨k1, 0, none⟩), .pointer (some ⟨k2, 0, none⟩)] w fun e w' => e = .returned (.int .u16 1) ∧ Below w.heap.size w w' := by
  have Hhas := hide (has_any p q S.ls.length pg w (h.c 0 (.slice (some ⟨q, 0, none⟩) S.ls.length S.ls.length) rfl) h.good.most)
  rw [decide_eq_true hpg] at Hhas
  have n1 : ((len : Int) != 1024) = true := by rw [bne_iff_ne]; omega
  have n2 : ((len : Int) != 128) = true := by rw [bne_iff_ne]; omega
  have l2 := World.block_lt_of_cell? w _ c2
  clear h hpg h1 h2
  go_enter Tryz.func38, Tryz.ntmps38
  go_wp2_with fail
  refine Hhas.out.mono ?_
  rintro e w1 ⟨rfl, hb⟩
  have HB := hide hb
  have c2' : w1.cell? ⟨k2, 0, none⟩ = some (.slice a len cap) := (hb.cell (p := ⟨k2, 0, none⟩) l2).trans c2
  clear hb c2 c0 c1
  go_wp2
  go_ret
  exact ⟨rfl, HB.out⟩

/-- a write that is refused, for its page or for its bytes: it is counted, and uses up trip and fault. -/
def DS.wno (S : DS) (pg : Int) (len : Nat) : Nat := if S.er S.s2 S.l2 ≠ 0 then S.er S.s2 S.l2 else if ¬ (0 ≤ pg ∧ pg < ((S.ls.length / 8 : Nat) : Int)) then 2 else 1
set_option maxHeartbeats 1600000 in
set_option maxRecDepth 1000000 in
theorem write_no (p q : Nat) (O : Nat → Prop) (S : DS) (pg : Int) (a : Option Addr) (len cap : Nat) (w : World) (h : DkAt w p q S O) (hbad : ¬ (0 ≤ pg ∧ pg < ((S.ls.length / 8 : Nat) : Int)) ∨ len ≠ 1024 ∧ len ≠ 128) (hn : S.n2 + 1 ≤ 1000000) :
    Calls Tryz.prog 8 #[.pointer (some ⟨p, 0, none⟩), .int .i64 pg, .slice a len cap] w fun e w' => e = .returned (.int .u16 (S.wno pg len : Int)) ∧ DkAt w' p q (S.be S.op2) O ∧ Go1 O w O w' := by
  obtain ⟨vw, m, hd, ho⟩ := h
  have hlt : ∀ k, Ow p q vw m k → k < w.heap.size := hd.lt
  have nO : ∀ k, w.heap.size ≤ k → ¬ Ow p q vw m k := fun k hk h => by have := hlt k h; omega
  obtain ⟨W3, hW3⟩ : ∃ W3, W3 = ((w.alloc (.cells #[.pointer (some ⟨p, 0, none⟩)] 26)).alloc (.cells #[.int .i64 pg] 3)).alloc (.cells #[.slice a len cap] 22) := ⟨_, rfl⟩
  have s1 := size_al w (.cells #[.pointer (some ⟨p, 0, none⟩)] 26)
  have s2 := size_al (w.alloc (.cells #[.pointer (some ⟨p, 0, none⟩)] 26)) (.cells #[.int .i64 pg] 3)
  have hb3 : Below w.heap.size w W3 := by
    rw [hW3]
    exact (below_alloc w _).trans (((below_alloc _ _).mono (by omega)).trans ((below_alloc _ _).mono (by omega)))
  have c0 : W3.cell? ⟨w.heap.size, 0, none⟩ = some (.pointer (some ⟨p, 0, none⟩)) := by rw [hW3]; exact cell_old (cell_old (cell_new _ _ _) _) _
  have c1 : W3.cell? ⟨w.heap.size + 1, 0, none⟩ = some (.int .i64 pg) := by rw [hW3]; have := cell_old (cell_new (w.alloc (.cells #[.pointer (some ⟨p, 0, none⟩)] 26)) (.int .i64 pg) 3) (.cells #[.slice a len cap] 22); rwa [s1] at this
  have c2 : W3.cell? ⟨w.heap.size + 2, 0, none⟩ = some (.slice a len cap) := by rw [hW3]; have := cell_new ((w.alloc (.cells #[.pointer (some ⟨p, 0, none⟩)] 26)).alloc (.cells #[.int .i64 pg] 3)) (.slice a len cap) 22; rwa [s2, s1] at this
  have HOp := hide (operate2 p q vw m S W3 (.pointer (some ⟨w.heap.size, 0, none⟩)) (.pointer (some ⟨w.heap.size + 1, 0, none⟩)) (.pointer (some ⟨w.heap.size + 2, 0, none⟩))
    (fun x w' => x = (S.wno pg len : Int) ∧ DkAt w' p q (S.be S.op2) O ∧ Go1 O w O w') (hd.below hb3) hn
    (fun he W hdW hm hs => by
      have hg0 : Go1 (Ow p q vw m) w (Ow p q vw m) W := (Go1.of_below hb3).trans (Go1.of_mv hm (.inl rfl))
      have hm' : Mv (Ow p q vw m) W3 W := (Go1.of_mv hm (.inl rfl)).mv
      have k0 := hm'.cell c0 (nO _ (Nat.le_refl _))
      have k1 := hm'.cell c1 (nO _ (by omega))
      have k2 := hm'.cell c2 (nO _ (by omega))
      have fin : ∀ w', Below W.heap.size W w' → DkAt w' p q (S.be S.op2) O ∧ Go1 O w O w' := fun w' hb => by
        rw [be_zero he]
        exact ⟨⟨vw, m, hdW.below hb, ho⟩, Go1.ofO (hg0.trans (Go1.of_below hb)) ho ho⟩
      by_cases hpg : 0 ≤ pg ∧ pg < ((S.ls.length / 8 : Nat) : Int)
      · obtain ⟨n1, n2⟩ := hbad.resolve_left (fun h => h hpg)
        refine (writes_arg p q vw m S.op2 _ _ _ pg a len cap W hdW k0 k1 k2 hpg n1 n2).mono ?_
        rintro e w' ⟨rfl, hb⟩
        exact ⟨1, rfl, by rw [DS.wno, if_neg (by omega), if_neg (fun h => h hpg)]; rfl, fin w' hb⟩
      · refine (writes_range p q vw m S.op2 _ _ _ pg W hdW k0 k1 hpg).mono ?_
        rintro e w' ⟨rfl, hb⟩
        exact ⟨2, rfl, by rw [DS.wno, if_neg (by omega), if_pos hpg]; rfl, fin w' hb⟩)
    (fun he W hdW hm hs => by
      have hg0 : Go1 (Ow p q vw m) w (Ow p q vw m) W := (Go1.of_below hb3).trans (Go1.of_mv hm (.inl rfl))
      exact ⟨by rw [DS.wno, if_pos he], ⟨vw, m, hdW, ho⟩, Go1.ofO hg0 ho ho⟩))
  clear hd ho hlt nO hbad hn hb3 c1 c2 s1 s2
  have hmf' := hmf
  subst hW3
  go_enter Tryz.func8, Tryz.ntmps8
  go_wp2_with fail
  refine HOp.out.mono ?_
  rintro e w' ⟨x, rfl, rfl, hh⟩
  have HH := hide hh
  clear hh
  go_wp2
  go_ret
  exact ⟨rfl, HH.out⟩
end Go.Proofs.YtobokocpapfjbaaGreat
/- Trips and faults of the disk; a read that is refused. -/
namespace Go.Proofs.YtobokocpapfjbaaGreat
open Go.RowKit Go.Maps
set_option linter.unusedVariables false

/-- a disk with a trip. -/
def DS.trip (S : DS) (n : Int) : DS := { S with ts := true, tl := n }
def DS.fl1 (S : DS) (n : Int) : DS := { S with s1 := true, l1 := n }
set_option maxHeartbeats 800000 in
set_option maxRecDepth 1000000 in
theorem fl1_any (p q : Nat) (O : Nat → Prop) (S : DS) (n : Int) (w : World) (h : DkAt w p q S O) (h0 : 0 ≤ n) (h1 : n ≤ 9223372036854775807) (hdk : S.dk = false) :
    Calls Tryz.prog 25 #[.pointer (some ⟨p, 0, none⟩), .int .i64 1, .int .i64 n] w fun e w' => e = .returned (.int .u16 0) ∧ DkAt w' p q (S.fl1 n) O ∧ Go1 O w O w' := by
  obtain ⟨vw, m, hd, ho⟩ := h
  have c3 := hd.c 3 (.bool S.dk) rfl
  rw [hdk] at c3
  have c10 := hd.c 8 _ rfl
  have c11 := hd.c 9 _ rfl
  have f10 := hd.f 8
  have f11 := hd.f 9
  have hbd := build96 n
  have hn : decide (n < 0) = false := by simp; omega
  have HF : Hid (DkAt (sets w p [(8, .bool true), (9, .int .i64 n)]) p q (S.fl1 n) O ∧ Go1 O w O (sets w p [(8, .bool true), (9, .int .i64 n)])) := by
    refine ⟨⟨vw, m, hd.fields (S' := S.fl1 n) rfl rfl ⟨hd.good.ls, hd.good.ws, hd.good.most, hd.good.few, hd.good.t, ⟨h0, h1⟩, hd.good.f2, hd.good.f3, hd.good.n1, hd.good.n2, hd.good.n3⟩ ?_ (fun k hk => sets_other p k hk _ w), ho⟩, Go1.of_mv (sets_mv p _ w) ((ho p).2 (.inl rfl))⟩
    rw [sets_blk p 108 _ w _ hd.blk]
    simp only [List.foldl_cons, List.foldl_nil, cells, List.setIfInBounds_toArray, List.set_cons_succ, List.set_cons_zero, DS.fl1]
  clear hd ho h0 h1
  go_enter Tryz.func25, Tryz.ntmps25
  go_wp2
  go_ret
  exact ⟨rfl, HF.out⟩
def DS.fl2 (S : DS) (n : Int) : DS := { S with s2 := true, l2 := n }
set_option maxHeartbeats 800000 in
set_option maxRecDepth 1000000 in
theorem fl2_any (p q : Nat) (O : Nat → Prop) (S : DS) (n : Int) (w : World) (h : DkAt w p q S O) (h0 : 0 ≤ n) (h1 : n ≤ 9223372036854775807) (hdk : S.dk = false) :
    Calls Tryz.prog 25 #[.pointer (some ⟨p, 0, none⟩), .int .i64 2, .int .i64 n] w fun e w' => e = .returned (.int .u16 0) ∧ DkAt w' p q (S.fl2 n) O ∧ Go1 O w O w' := by
  obtain ⟨vw, m, hd, ho⟩ := h
  have c3 := hd.c 3 (.bool S.dk) rfl
  rw [hdk] at c3
  have c10 := hd.c 10 _ rfl
  have c11 := hd.c 11 _ rfl
  have f10 := hd.f 10
  have f11 := hd.f 11
  have hbd := build96 n
  have hn : decide (n < 0) = false := by simp; omega
  have HF : Hid (DkAt (sets w p [(10, .bool true), (11, .int .i64 n)]) p q (S.fl2 n) O ∧ Go1 O w O (sets w p [(10, .bool true), (11, .int .i64 n)])) := by
    refine ⟨⟨vw, m, hd.fields (S' := S.fl2 n) rfl rfl ⟨hd.good.ls, hd.good.ws, hd.good.most, hd.good.few, hd.good.t, hd.good.f1, ⟨h0, h1⟩, hd.good.f3, hd.good.n1, hd.good.n2, hd.good.n3⟩ ?_ (fun k hk => sets_other p k hk _ w), ho⟩, Go1.of_mv (sets_mv p _ w) ((ho p).2 (.inl rfl))⟩
    rw [sets_blk p 108 _ w _ hd.blk]
    simp only [List.foldl_cons, List.foldl_nil, cells, List.setIfInBounds_toArray, List.set_cons_succ, List.set_cons_zero, DS.fl2]
  clear hd ho h0 h1
  go_enter Tryz.func25, Tryz.ntmps25
  go_wp2
  go_ret
  exact ⟨rfl, HF.out⟩
def DS.fl3 (S : DS) (n : Int) : DS := { S with s3 := true, l3 := n }
set_option maxHeartbeats 800000 in
set_option maxRecDepth 1000000 in
theorem fl3_any (p q : Nat) (O : Nat → Prop) (S : DS) (n : Int) (w : World) (h : DkAt w p q S O) (h0 : 0 ≤ n) (h1 : n ≤ 9223372036854775807) (hdk : S.dk = false) :
    Calls Tryz.prog 25 #[.pointer (some ⟨p, 0, none⟩), .int .i64 3, .int .i64 n] w fun e w' => e = .returned (.int .u16 0) ∧ DkAt w' p q (S.fl3 n) O ∧ Go1 O w O w' := by
  obtain ⟨vw, m, hd, ho⟩ := h
  have c3 := hd.c 3 (.bool S.dk) rfl
  rw [hdk] at c3
  have c10 := hd.c 12 _ rfl
  have c11 := hd.c 13 _ rfl
  have f10 := hd.f 12
  have f11 := hd.f 13
  have hbd := build96 n
  have hn : decide (n < 0) = false := by simp; omega
  have HF : Hid (DkAt (sets w p [(12, .bool true), (13, .int .i64 n)]) p q (S.fl3 n) O ∧ Go1 O w O (sets w p [(12, .bool true), (13, .int .i64 n)])) := by
    refine ⟨⟨vw, m, hd.fields (S' := S.fl3 n) rfl rfl ⟨hd.good.ls, hd.good.ws, hd.good.most, hd.good.few, hd.good.t, hd.good.f1, hd.good.f2, ⟨h0, h1⟩, hd.good.n1, hd.good.n2, hd.good.n3⟩ ?_ (fun k hk => sets_other p k hk _ w), ho⟩, Go1.of_mv (sets_mv p _ w) ((ho p).2 (.inl rfl))⟩
    rw [sets_blk p 108 _ w _ hd.blk]
    simp only [List.foldl_cons, List.foldl_nil, cells, List.setIfInBounds_toArray, List.set_cons_succ, List.set_cons_zero, DS.fl3]
  clear hd ho h0 h1
  go_enter Tryz.func25, Tryz.ntmps25
  go_wp2
  go_ret
  exact ⟨rfl, HF.out⟩
/-- a read of a page that is not there. -/
def DS.rno (S : DS) : Nat := if S.er S.s1 S.l1 ≠ 0 then S.er S.s1 S.l1 else 2
set_option maxHeartbeats 1600000 in
set_option maxRecDepth 1000000 in
theorem read_no (p q : Nat) (O : Nat → Prop) (S : DS) (pg : Int) (w : World) (h : DkAt w p q S O) (hbad : ¬ (0 ≤ pg ∧ pg < ((S.ls.length / 8 : Nat) : Int))) (hn : S.n1 + 1 ≤ 1000000) :
    Calls Tryz.prog 48 #[.pointer (some ⟨p, 0, none⟩), .int .i64 pg] w fun e w' => e = .returned (.tuple #[.slice none 0 0, .int .u16 (S.rno : Int)]) ∧ DkAt w' p q (S.be S.op1) O ∧ Go1 O w O w' := by
  obtain ⟨vw, m, hd, ho⟩ := h
  have hlt : ∀ k, Ow p q vw m k → k < w.heap.size := hd.lt
  have nO : ∀ k, w.heap.size ≤ k → ¬ Ow p q vw m k := fun k hk h => by have := hlt k h; omega
  obtain ⟨W3, hW3⟩ : ∃ W3, W3 = ((w.alloc (.cells #[.pointer (some ⟨p, 0, none⟩)] 26)).alloc (.cells #[.int .i64 pg] 3)).alloc (.cells #[.slice none 0 0] 22) := ⟨_, rfl⟩
  have s1 := size_al w (.cells #[.pointer (some ⟨p, 0, none⟩)] 26)
  have s2 := size_al (w.alloc (.cells #[.pointer (some ⟨p, 0, none⟩)] 26)) (.cells #[.int .i64 pg] 3)
  have s3 : W3.heap.size = w.heap.size + 3 := by rw [hW3, size_al, s2, s1]
  have hb3 : Below w.heap.size w W3 := by
    rw [hW3]
    exact (below_alloc w _).trans (((below_alloc _ _).mono (by omega)).trans ((below_alloc _ _).mono (by omega)))
  have c0 : W3.cell? ⟨w.heap.size, 0, none⟩ = some (.pointer (some ⟨p, 0, none⟩)) := by rw [hW3]; exact cell_old (cell_old (cell_new _ _ _) _) _
  have c1 : W3.cell? ⟨w.heap.size + 1, 0, none⟩ = some (.int .i64 pg) := by rw [hW3]; have := cell_old (cell_new (w.alloc (.cells #[.pointer (some ⟨p, 0, none⟩)] 26)) (.int .i64 pg) 3) (.cells #[.slice none 0 0] 22); rwa [s1] at this
  have c2 : W3.cell? ⟨w.heap.size + 2, 0, none⟩ = some (.slice none 0 0) := by rw [hW3]; have := cell_new ((w.alloc (.cells #[.pointer (some ⟨p, 0, none⟩)] 26)).alloc (.cells #[.int .i64 pg] 3)) (.slice none 0 0) 22; rwa [s2, s1] at this
  have HOp := hide (operate1 p q vw m S W3 (.pointer (some ⟨w.heap.size, 0, none⟩)) (.pointer (some ⟨w.heap.size + 1, 0, none⟩)) (.pointer (some ⟨w.heap.size + 2, 0, none⟩))
    (fun x w' => x = (S.rno : Int) ∧ w'.cell? ⟨w.heap.size + 2, 0, none⟩ = some (.slice none 0 0) ∧ DkAt w' p q (S.be S.op1) O ∧ Go1 O w O w') (hd.below hb3) hn
    (fun he W hdW hm hs => by
      have hg0 : Go1 (Ow p q vw m) w (Ow p q vw m) W := (Go1.of_below hb3).trans (Go1.of_mv hm (.inl rfl))
      have hm' : Mv (Ow p q vw m) W3 W := (Go1.of_mv hm (.inl rfl)).mv
      have k2 := hm'.cell c2 (nO _ (by omega))
      refine (reads_range p q vw m S.op1 _ _ _ pg W hdW (hm'.cell c0 (nO _ (Nat.le_refl _))) (hm'.cell c1 (nO _ (by omega))) hbad).mono ?_
      rintro e w' ⟨rfl, hb⟩
      refine ⟨2, rfl, by rw [DS.rno, if_neg (by omega)]; rfl, (hb.cell (p := ⟨w.heap.size + 2, 0, none⟩) (World.block_lt_of_cell? W _ k2)).trans k2, ?_⟩
      rw [be_zero he]
      exact ⟨⟨vw, m, hdW.below hb, ho⟩, Go1.ofO (hg0.trans (Go1.of_below hb)) ho ho⟩)
    (fun he W hdW hm hs => by
      have hg0 : Go1 (Ow p q vw m) w (Ow p q vw m) W := (Go1.of_below hb3).trans (Go1.of_mv hm (.inl rfl))
      have hm' : Mv (Ow p q vw m) W3 W := (Go1.of_mv hm (.inl rfl)).mv
      exact ⟨by rw [DS.rno, if_pos he], hm'.cell c2 (nO _ (by omega)), ⟨vw, m, hdW, ho⟩, Go1.ofO hg0 ho ho⟩))
  clear hd ho hlt nO hbad hn hb3 c1 c2 s1 s2 s3
  have hmf' := hmf
  have hz := zero63
  subst hW3
  go_enter Tryz.func48, Tryz.ntmps48
  go_wp2_with fail
  refine HOp.out.mono ?_
  rintro e w' ⟨x, rfl, rfl, hc, hh⟩
  have HH := hide hh
  clear hh
  go_wp2
  go_ret2
  exact ⟨rfl, HH.out⟩
set_option maxHeartbeats 800000 in
set_option maxRecDepth 1000000 in
theorem fail_no (p q : Nat) (O : Nat → Prop) (S : DS) (f n : Int) (w : World) (h : DkAt w p q S O) (hbad : (f < 1 ∨ 3 < f ∨ n < 0) ∨ S.dk = true) :
    Calls Tryz.prog 25 #[.pointer (some ⟨p, 0, none⟩), .int .i64 f, .int .i64 n] w fun e w' => e = .returned (.int .u16 (if f < 1 ∨ 3 < f ∨ n < 0 then 1 else 4)) ∧ Below w.heap.size w w' := by
  obtain ⟨vw, m, hd, ho⟩ := h
  have c3 := hd.c 3 (.bool S.dk) rfl
  clear hd ho
  by_cases h1 : f < 1
  · have d1 : decide (f < 1) = true := by simp [h1]
    rw [if_pos (.inl h1)]
    clear hbad h1
    go_enter Tryz.func25, Tryz.ntmps25
    go_wp2
    go_ret
    exact ⟨rfl, Below.refl _ _⟩
  · have d1 : decide (f < 1) = false := by simp [h1]
    by_cases h2 : 3 < f
    · have d2 : decide ((3 : Int) < f) = true := by simp [h2]
      rw [if_pos (.inr (.inl h2))]
      clear hbad h1 h2
      go_enter Tryz.func25, Tryz.ntmps25
      go_wp2
      go_ret
      exact ⟨rfl, Below.refl _ _⟩
    · have d2 : decide ((3 : Int) < f) = false := by simp [h2]
      by_cases h3 : n < 0
      · have d3 : decide (n < 0) = true := by simp [h3]
        rw [if_pos (.inr (.inr h3))]
        clear hbad h1 h2 h3
        go_enter Tryz.func25, Tryz.ntmps25
        go_wp2
        go_ret
        exact ⟨rfl, Below.refl _ _⟩
      · have d3 : decide (n < 0) = false := by simp [h3]
        have hno : ¬ (f < 1 ∨ 3 < f ∨ n < 0) := fun h => h.elim h1 (fun h => h.elim h2 h3)
        rw [if_neg hno]
        rw [hbad.resolve_left hno] at c3
        clear hbad h1 h2 h3 hno
        go_enter Tryz.func25, Tryz.ntmps25
        go_wp2
        go_ret
        exact ⟨rfl, Below.refl _ _⟩
end Go.Proofs.YtobokocpapfjbaaGreat
/- Trips and faults of the document's own disk. -/
namespace Go.Proofs.YtobokocpapfjbaaGreat
open Go.RowKit Go.Maps
set_option linter.unusedVariables false
variable {w w' : World} {p f : Nat} {vl vc : Value} {Ls Cs : List Value} {S S' : DS}

theorem ft_true (l : Int) : ft true l = l := rfl
set_option maxHeartbeats 800000 in
set_option maxRecDepth 1000000 in
theorem rfl1_any (h : RD w p vl Ls vc Cs f S) (n : Int) (h0 : 0 ≤ n) (h1 : n ≤ 9223372036854775807) (hdk : S.dk = false) :
    Calls Tryz.prog 26 #[.pointer (some ⟨p, 0, none⟩), .int .i64 1, .int .i64 n] w fun e w' => e = .returned (.int .u16 0) ∧ RD w' p vl Ls vc Cs f (S.fl1 n) ∧ Mv (fun k => k = p ∨ k = f) w w' := by
  have c2 := h.c 2 (.bool S.dk) rfl
  rw [hdk] at c2
  have c4 := h.c 4 (.slice (some ⟨f, 0, none⟩) 4 4) rfl
  have g1 := h.fc 1 (.int .i64 (ft S.s1 S.l1)) rfl
  have y1 := h.ff 1
  have hn : decide (n < 0) = false := by simp; omega
  have HF := hide (h.turned (S' := S.fl1 n) [] [(1, .int .i64 n)] rfl rfl ⟨h.good.ls, h.good.ws, h.good.most, h.good.few, h.good.t, ⟨h0, h1⟩, h.good.f2, h.good.f3, h.good.n1, h.good.n2, h.good.n3⟩ (by simp [rcells, DS.fl1]) (by simp [fcells, DS.fl1, ft_true]))
  clear h h0 h1
  go_enter Tryz.func26, Tryz.ntmps26
  go_wp2
  go_ret
  exact ⟨rfl, HF.out⟩
set_option maxHeartbeats 800000 in
set_option maxRecDepth 1000000 in
theorem rfl2_any (h : RD w p vl Ls vc Cs f S) (n : Int) (h0 : 0 ≤ n) (h1 : n ≤ 9223372036854775807) (hdk : S.dk = false) :
    Calls Tryz.prog 26 #[.pointer (some ⟨p, 0, none⟩), .int .i64 2, .int .i64 n] w fun e w' => e = .returned (.int .u16 0) ∧ RD w' p vl Ls vc Cs f (S.fl2 n) ∧ Mv (fun k => k = p ∨ k = f) w w' := by
  have c2 := h.c 2 (.bool S.dk) rfl
  rw [hdk] at c2
  have c4 := h.c 4 (.slice (some ⟨f, 0, none⟩) 4 4) rfl
  have g1 := h.fc 2 (.int .i64 (ft S.s2 S.l2)) rfl
  have y1 := h.ff 2
  have hn : decide (n < 0) = false := by simp; omega
  have HF := hide (h.turned (S' := S.fl2 n) [] [(2, .int .i64 n)] rfl rfl ⟨h.good.ls, h.good.ws, h.good.most, h.good.few, h.good.t, h.good.f1, ⟨h0, h1⟩, h.good.f3, h.good.n1, h.good.n2, h.good.n3⟩ (by simp [rcells, DS.fl2]) (by simp [fcells, DS.fl2, ft_true]))
  clear h h0 h1
  go_enter Tryz.func26, Tryz.ntmps26
  go_wp2
  go_ret
  exact ⟨rfl, HF.out⟩
set_option maxHeartbeats 800000 in
set_option maxRecDepth 1000000 in
theorem rfl3_any (h : RD w p vl Ls vc Cs f S) (n : Int) (h0 : 0 ≤ n) (h1 : n ≤ 9223372036854775807) (hdk : S.dk = false) :
    Calls Tryz.prog 26 #[.pointer (some ⟨p, 0, none⟩), .int .i64 3, .int .i64 n] w fun e w' => e = .returned (.int .u16 0) ∧ RD w' p vl Ls vc Cs f (S.fl3 n) ∧ Mv (fun k => k = p ∨ k = f) w w' := by
  have c2 := h.c 2 (.bool S.dk) rfl
  rw [hdk] at c2
  have c4 := h.c 4 (.slice (some ⟨f, 0, none⟩) 4 4) rfl
  have g1 := h.fc 3 (.int .i64 (ft S.s3 S.l3)) rfl
  have y1 := h.ff 3
  have hn : decide (n < 0) = false := by simp; omega
  have HF := hide (h.turned (S' := S.fl3 n) [] [(3, .int .i64 n)] rfl rfl ⟨h.good.ls, h.good.ws, h.good.most, h.good.few, h.good.t, h.good.f1, h.good.f2, ⟨h0, h1⟩, h.good.n1, h.good.n2, h.good.n3⟩ (by simp [rcells, DS.fl3]) (by simp [fcells, DS.fl3, ft_true]))
  clear h h0 h1
  go_enter Tryz.func26, Tryz.ntmps26
  go_wp2
  go_ret
  exact ⟨rfl, HF.out⟩
set_option maxHeartbeats 800000 in
set_option maxRecDepth 1000000 in
theorem rfail_no (h : RD w p vl Ls vc Cs f S) (f n : Int) (hbad : (f < 1 ∨ 3 < f ∨ n < 0) ∨ S.dk = true) :
    Calls Tryz.prog 26 #[.pointer (some ⟨p, 0, none⟩), .int .i64 f, .int .i64 n] w fun e w' => e = .returned (.int .u16 (if f < 1 ∨ 3 < f ∨ n < 0 then 1 else 4)) ∧ w' = w := by
  have c3 := h.c 2 (.bool S.dk) rfl
  clear h
  by_cases h1 : f < 1
  · have d1 : decide (f < 1) = true := by simp [h1]
    rw [if_pos (.inl h1)]
    clear hbad h1
    go_enter Tryz.func26, Tryz.ntmps26
    go_wp2
    go_ret
    exact ⟨rfl, rfl⟩
  · have d1 : decide (f < 1) = false := by simp [h1]
    by_cases h2 : 3 < f
    · have d2 : decide ((3 : Int) < f) = true := by simp [h2]
      rw [if_pos (.inr (.inl h2))]
      clear hbad h1 h2
      go_enter Tryz.func26, Tryz.ntmps26
      go_wp2
      go_ret
      exact ⟨rfl, rfl⟩
    · have d2 : decide ((3 : Int) < f) = false := by simp [h2]
      by_cases h3 : n < 0
      · have d3 : decide (n < 0) = true := by simp [h3]
        rw [if_pos (.inr (.inr h3))]
        clear hbad h1 h2 h3
        go_enter Tryz.func26, Tryz.ntmps26
        go_wp2
        go_ret
        exact ⟨rfl, rfl⟩
      · have d3 : decide (n < 0) = false := by simp [h3]
        have hno : ¬ (f < 1 ∨ 3 < f ∨ n < 0) := fun h => h.elim h1 (fun h => h.elim h2 h3)
        rw [if_neg hno]
        rw [hbad.resolve_left hno] at c3
        clear hbad h1 h2 h3 hno
        go_enter Tryz.func26, Tryz.ntmps26
        go_wp2
        go_ret
        exact ⟨rfl, rfl⟩
end Go.Proofs.YtobokocpapfjbaaGreat
/- A sector as it was written last, of the document's own disk. -/
namespace Go.Proofs.YtobokocpapfjbaaGreat
open Go.RowKit Go.Maps
set_option linter.unusedVariables false
variable {w w' : World} {p f : Nat} {vl vc : Value} {Ls Cs : List Value} {S S' : DS}

theorem row_at {t sz : Nat} {v : Value} {n : Nat} {xs : List Value} (h : w.ownsRow 0 t sz v n xs) (hn : 0 < n) : ∃ g cap, v = .slice (some ⟨g, 0, none⟩) n cap ∧ n ≤ cap ∧ cap ≤ maxLen ∧ g < w.heap.size ∧ Hid (∀ i x, xs[i]? = some x → w.cell? ⟨g, i, none⟩ = some x) ∧ Hid (∀ i, w.frozen? ⟨g, i, none⟩ = false) := by
  rcases h.2 with ⟨rfl, h0⟩ | ⟨g, cap, cur, rfl, _, hh, h1, h2, h3, h4⟩
  · omega
  · refine ⟨g, cap, rfl, h1, h2, lt_of_block hh, fun i x hx => ?_, fun i => by simp [World.frozen?, hh]⟩
    rw [← h4, List.getElem?_take] at hx
    split at hx
    · simp [World.cell?, hh]
      simpa using hx
    · simp at hx
/-- the slice of the cache, also where it is empty. -/
theorem row_len {t sz : Nat} {v : Value} {n : Nat} {xs : List Value} (h : w.ownsRow 0 t sz v n xs) : ∃ a cap, v = .slice a n cap := by
  rcases h.2 with ⟨rfl, rfl⟩ | ⟨g, cap, cur, rfl, _⟩
  · exact ⟨_, _, rfl⟩
  · exact ⟨_, _, rfl⟩
/-- what the first writes of the cache make of a sector. -/
def nw (S : DS) (n k : Nat) : List Int := newest { S with ws := S.ws.take k } n
theorem nw_zero (S : DS) (n : Nat) : nw S n 0 = S.ls.getD n [] := by simp [nw, newest, lastAt]
theorem nw_all (S : DS) (n : Nat) : nw S n S.ws.length = newest S n := by rw [nw, List.take_length]
theorem getD_take {α : Type} (L : List α) (k i : Nat) (d : α) (h : i < k) : (L.take k).getD i d = L.getD i d := by simp [List.getD_eq_getElem?_getD, h]
theorem nw_succ (S : DS) (n k : Nat) (x : Nat × List Int) (hx : S.ws[k]? = some x) : nw S n (k + 1) = if x.1 = n then x.2 else nw S n k := by
  have hk := (List.getElem?_eq_some_iff.1 hx).1
  have e : S.ws.take (k + 1) = S.ws.take k ++ [x] := by rw [List.take_add_one, hx]; rfl
  unfold nw newest
  simp only
  rw [e, lastAt_snoc, List.length_take, Nat.min_eq_left (by omega)]
  by_cases hn : x.1 = n
  · rw [if_pos hn, if_pos hn]
    simp only
    rw [← e, getD_take _ _ _ _ (by omega), List.getD_eq_getElem?_getD, hx]; rfl
  · rw [if_neg hn, if_neg hn]
    cases hl : lastAt (S.ws.take k) n with
    | none => rfl
    | some i =>
      have hi := (lastAt_some hl).1
      simp only
      rw [List.getD_eq_getElem?_getD, List.getD_eq_getElem?_getD, List.getElem?_append_left hi]
set_option maxHeartbeats 1600000 in
set_option maxRecDepth 1000000 in
theorem rsector_any (h : RD w p vl Ls vc Cs f S) (n : Nat) (hn : n < S.ls.length) :
    Calls Tryz.prog 93 #[.pointer (some ⟨p, 0, none⟩), .int .i64 (n : Int)] w fun e w' => ∃ v, e = .returned v ∧ Sl w v (newest S n) ∧ w' = w := by
  obtain ⟨N, HN, hNm⟩ : ∃ N, Hid (N = S.ls.length) ∧ N ≤ 131072 := ⟨_, rfl, h.good.most⟩
  obtain ⟨M, HM, hMm⟩ : ∃ M, Hid (M = S.ws.length) ∧ M ≤ 1000000 := ⟨_, rfl, h.good.few⟩
  have hnN : n < N := by rw [HN.out]; exact hn
  have HH := hide h
  have HX := hide h.good.ws
  obtain ⟨g, cap, hvl, hc1, hc2, -, HL, -⟩ := row_at h.las (by omega)
  obtain ⟨ca, cc, hvc⟩ := row_len h.cac
  rw [← HN.out] at hvl
  rw [← HM.out] at hvc
  have c0 := h.c 0 vl rfl
  have c1 := h.c 1 vc rfl
  rw [hvl] at c0
  rw [hvc] at c1
  have hLn : n < Ls.length := by rw [h.lle]; exact hn
  obtain ⟨v0, hv0⟩ : ∃ v, Ls[n]? = some v := ⟨_, List.getElem?_eq_getElem hLn⟩
  have l0 := HL.out n v0 hv0
  have HS0 : Hid (Sl w v0 (nw S n 0)) := by
    rw [nw_zero, List.getD_eq_getElem?_getD, List.getElem?_eq_getElem hn]
    exact h.lsl n _ v0 (List.getElem?_eq_getElem hn) hv0
  have HC : Hid (∀ k, k < M → ∃ b x v, ca = some ⟨b, 0, none⟩ ∧ w.cell? ⟨b, k * 2, none⟩ = some (.int .i64 (x.1 : Int)) ∧ w.cell? ⟨b, k * 2 + 1, none⟩ = some v ∧ S.ws[k]? = some x ∧ Sl w v x.2) := by
    intro k hk
    have hk' : k < S.ws.length := by rw [← HM.out]; exact hk
    obtain ⟨b, cap', e1, -, -, -, HR, -⟩ := row_at h.cac (by omega)
    have hC : k < Cs.length := by rw [h.cle]; exact hk'
    have hx := List.getElem?_eq_getElem hk'
    have hv := List.getElem?_eq_getElem hC
    have ha := rwc_at S.ws Cs k _ _ hx hv
    rw [hvc] at e1
    injection e1 with e1
    exact ⟨b, _, _, e1, HR.out _ _ ha.1, HR.out _ _ ha.2, hx, h.csl k _ _ hx hv⟩
  clear h hvl hvc HL hLn hv0 HX
  go_enter Tryz.func93, Tryz.ntmps93
  go_wp2
  clear c0 l0
  go_loopw [6, 5] (fun i b wr' => ∃ k : Nat, k ≤ M ∧ i = .int .i64 (k : Int) ∧ Sl w b (nw S n k) ∧ wr' = w) (fun i _ _ => M - (intOf i).toNat)
  case atStart => exact ⟨0, Nat.zero_le _, rfl, HS0.out, rfl⟩
  case round =>
    obtain ⟨k, hk, rfl, hsl, rfl⟩ := hrel
    have HSl := hide hsl
    clear hsl
    by_cases hlt : k < M
    · obtain ⟨b, x, v, rfl, d0, d1, hx, hv⟩ := HC.out k hlt
      have HX := hide hx
      have HV := hide hv
      have hnb : decide (k < M) = true := by simp [hlt]
      clear hx hv
      by_cases hat : x.1 = n
      · have he : (((x.1 : Nat) : Int) == (n : Int)) = true := by simp [hat]
        have HE : Hid (Sl wr v (nw S n (k + 1))) := by rw [nw_succ S n k x HX.out, if_pos hat]; exact HV.out
        clear hat
        go_wp2
        exact ⟨⟨k + 1, by omega, by simp, HE.out, trivial⟩, by simp [intOf]; omega⟩
      · have he : (((x.1 : Nat) : Int) == (n : Int)) = false := by simp; omega
        have HE : Hid (Sl wr u5 (nw S n (k + 1))) := by rw [nw_succ S n k x HX.out, if_neg hat]; exact HSl.out
        clear hat
        go_wp2
        exact ⟨⟨k + 1, by omega, by simp, HE.out, trivial⟩, by simp [intOf]; omega⟩
    · have hnb : decide (k < M) = false := by simp [hlt]
      have HE : Hid (Sl wr u5 (newest S n)) := by rw [← nw_all, ← HM.out, show M = k by omega]; exact HSl.out
      go_wp2
      go_ret
      exact ⟨_, rfl, HE.out, rfl⟩
end Go.Proofs.YtobokocpapfjbaaGreat
