/- Trips and faults of the disk; a read that is refused. -/
import Derived.Test.YtkammfkknfflgaaEB
import Derived.Test.YtkammfkknfflgaaDT
namespace Go.Proofs.Ytkammfkknfflgaa
open Go.RowKit Go.Maps
set_option linter.unusedVariables false

/-- a disk with a trip. -/
def DS.trip (S : DS) (n : Int) : DS := { S with ts := true, tl := n }
set_option maxHeartbeats 800000 in
set_option maxRecDepth 1000000 in
theorem trip_any (p q : Nat) (O : Nat → Prop) (S : DS) (n : Int) (w : World) (h : DkAt w p q S O) (h0 : 0 ≤ n) (h1 : n ≤ 9223372036854775807) (hdk : S.dk = false) :
    Calls Try.prog 52 #[.pointer (some ⟨p, 0, none⟩), .int .i64 n] w fun e w' => e = .returned (.int .u16 0) ∧ DkAt w' p q (S.trip n) O ∧ Go1 O w O w' := by
  obtain ⟨vw, m, hd, ho⟩ := h
  have c3 := hd.c 3 (.bool S.dk) rfl
  rw [hdk] at c3
  have c4 := hd.c 4 _ rfl
  have c5 := hd.c 5 _ rfl
  have f4 := hd.f 4
  have f5 := hd.f 5
  have hbd := build96 n
  have hn : decide (n < 0) = false := by simp; omega
  have HF : Hid (DkAt (sets w p [(4, .bool true), (5, .int .i64 n)]) p q (S.trip n) O ∧ Go1 O w O (sets w p [(4, .bool true), (5, .int .i64 n)])) := by
    refine ⟨⟨vw, m, hd.fields (S' := S.trip n) rfl rfl ⟨hd.good.ls, hd.good.ws, hd.good.most, hd.good.few, ⟨h0, h1⟩, hd.good.f1, hd.good.f2, hd.good.f3, hd.good.n1, hd.good.n2, hd.good.n3⟩ ?_ (fun k hk => sets_other p k hk _ w), ho⟩, Go1.of_mv (sets_mv p _ w) ((ho p).2 (.inl rfl))⟩
    rw [sets_blk p 92 _ w _ hd.blk]
    simp only [List.foldl_cons, List.foldl_nil, cells, List.setIfInBounds_toArray, List.set_cons_succ, List.set_cons_zero, DS.trip]
  clear hd ho h0 h1
  go_enter Try.func52, Try.ntmps52
  go_wp2
  go_ret
  exact ⟨rfl, HF.out⟩
def DS.fl1 (S : DS) (n : Int) : DS := { S with s1 := true, l1 := n }
set_option maxHeartbeats 800000 in
set_option maxRecDepth 1000000 in
theorem fl1_any (p q : Nat) (O : Nat → Prop) (S : DS) (n : Int) (w : World) (h : DkAt w p q S O) (h0 : 0 ≤ n) (h1 : n ≤ 9223372036854775807) (hdk : S.dk = false) :
    Calls Try.prog 23 #[.pointer (some ⟨p, 0, none⟩), .int .i64 1, .int .i64 n] w fun e w' => e = .returned (.int .u16 0) ∧ DkAt w' p q (S.fl1 n) O ∧ Go1 O w O w' := by
  obtain ⟨vw, m, hd, ho⟩ := h
  have c3 := hd.c 3 (.bool S.dk) rfl
  rw [hdk] at c3
  have c10 := hd.c 8 _ rfl
  have c11 := hd.c 9 _ rfl
  have f10 := hd.f 8
  have f11 := hd.f 9
  have hbd := build96 n
  have hn : decide (n < 0) = false := by simp; omega
  have HF : Hid (DkAt (sets w p [(8, .bool true), (9, .int .i64 n)]) p q (S.fl1 n) O ∧ Go1 O w O (sets w p [(8, .bool true), (9, .int .i64 n)])) := by
    refine ⟨⟨vw, m, hd.fields (S' := S.fl1 n) rfl rfl ⟨hd.good.ls, hd.good.ws, hd.good.most, hd.good.few, hd.good.t, ⟨h0, h1⟩, hd.good.f2, hd.good.f3, hd.good.n1, hd.good.n2, hd.good.n3⟩ ?_ (fun k hk => sets_other p k hk _ w), ho⟩, Go1.of_mv (sets_mv p _ w) ((ho p).2 (.inl rfl))⟩
    rw [sets_blk p 92 _ w _ hd.blk]
    simp only [List.foldl_cons, List.foldl_nil, cells, List.setIfInBounds_toArray, List.set_cons_succ, List.set_cons_zero, DS.fl1]
  clear hd ho h0 h1
  go_enter Try.func23, Try.ntmps23
  go_wp2
  go_ret
  exact ⟨rfl, HF.out⟩
def DS.fl2 (S : DS) (n : Int) : DS := { S with s2 := true, l2 := n }
set_option maxHeartbeats 800000 in
set_option maxRecDepth 1000000 in
theorem fl2_any (p q : Nat) (O : Nat → Prop) (S : DS) (n : Int) (w : World) (h : DkAt w p q S O) (h0 : 0 ≤ n) (h1 : n ≤ 9223372036854775807) (hdk : S.dk = false) :
    Calls Try.prog 23 #[.pointer (some ⟨p, 0, none⟩), .int .i64 2, .int .i64 n] w fun e w' => e = .returned (.int .u16 0) ∧ DkAt w' p q (S.fl2 n) O ∧ Go1 O w O w' := by
  obtain ⟨vw, m, hd, ho⟩ := h
  have c3 := hd.c 3 (.bool S.dk) rfl
  rw [hdk] at c3
  have c10 := hd.c 10 _ rfl
  have c11 := hd.c 11 _ rfl
  have f10 := hd.f 10
  have f11 := hd.f 11
  have hbd := build96 n
  have hn : decide (n < 0) = false := by simp; omega
  have HF : Hid (DkAt (sets w p [(10, .bool true), (11, .int .i64 n)]) p q (S.fl2 n) O ∧ Go1 O w O (sets w p [(10, .bool true), (11, .int .i64 n)])) := by
    refine ⟨⟨vw, m, hd.fields (S' := S.fl2 n) rfl rfl ⟨hd.good.ls, hd.good.ws, hd.good.most, hd.good.few, hd.good.t, hd.good.f1, ⟨h0, h1⟩, hd.good.f3, hd.good.n1, hd.good.n2, hd.good.n3⟩ ?_ (fun k hk => sets_other p k hk _ w), ho⟩, Go1.of_mv (sets_mv p _ w) ((ho p).2 (.inl rfl))⟩
    rw [sets_blk p 92 _ w _ hd.blk]
    simp only [List.foldl_cons, List.foldl_nil, cells, List.setIfInBounds_toArray, List.set_cons_succ, List.set_cons_zero, DS.fl2]
  clear hd ho h0 h1
  go_enter Try.func23, Try.ntmps23
  go_wp2
  go_ret
  exact ⟨rfl, HF.out⟩
def DS.fl3 (S : DS) (n : Int) : DS := { S with s3 := true, l3 := n }
set_option maxHeartbeats 800000 in
set_option maxRecDepth 1000000 in
theorem fl3_any (p q : Nat) (O : Nat → Prop) (S : DS) (n : Int) (w : World) (h : DkAt w p q S O) (h0 : 0 ≤ n) (h1 : n ≤ 9223372036854775807) (hdk : S.dk = false) :
    Calls Try.prog 23 #[.pointer (some ⟨p, 0, none⟩), .int .i64 3, .int .i64 n] w fun e w' => e = .returned (.int .u16 0) ∧ DkAt w' p q (S.fl3 n) O ∧ Go1 O w O w' := by
  obtain ⟨vw, m, hd, ho⟩ := h
  have c3 := hd.c 3 (.bool S.dk) rfl
  rw [hdk] at c3
  have c10 := hd.c 12 _ rfl
  have c11 := hd.c 13 _ rfl
  have f10 := hd.f 12
  have f11 := hd.f 13
  have hbd := build96 n
  have hn : decide (n < 0) = false := by simp; omega
  have HF : Hid (DkAt (sets w p [(12, .bool true), (13, .int .i64 n)]) p q (S.fl3 n) O ∧ Go1 O w O (sets w p [(12, .bool true), (13, .int .i64 n)])) := by
    refine ⟨⟨vw, m, hd.fields (S' := S.fl3 n) rfl rfl ⟨hd.good.ls, hd.good.ws, hd.good.most, hd.good.few, hd.good.t, hd.good.f1, hd.good.f2, ⟨h0, h1⟩, hd.good.n1, hd.good.n2, hd.good.n3⟩ ?_ (fun k hk => sets_other p k hk _ w), ho⟩, Go1.of_mv (sets_mv p _ w) ((ho p).2 (.inl rfl))⟩
    rw [sets_blk p 92 _ w _ hd.blk]
    simp only [List.foldl_cons, List.foldl_nil, cells, List.setIfInBounds_toArray, List.set_cons_succ, List.set_cons_zero, DS.fl3]
  clear hd ho h0 h1
  go_enter Try.func23, Try.ntmps23
  go_wp2
  go_ret
  exact ⟨rfl, HF.out⟩
/-- a read of a page that is not there. -/
def DS.rno (S : DS) : Nat := if S.er S.s1 S.l1 ≠ 0 then S.er S.s1 S.l1 else 2
set_option maxHeartbeats 1600000 in
set_option maxRecDepth 1000000 in
theorem read_no (p q : Nat) (O : Nat → Prop) (S : DS) (pg : Int) (w : World) (h : DkAt w p q S O) (hbad : ¬ (0 ≤ pg ∧ pg < ((S.ls.length / 8 : Nat) : Int))) (hn : S.n1 + 1 ≤ 40000000) :
    Calls Try.prog 22 #[.pointer (some ⟨p, 0, none⟩), .int .i64 pg] w fun e w' => e = .returned (.tuple #[.slice none 0 0, .int .u16 (S.rno : Int)]) ∧ DkAt w' p q (S.be S.op1) O ∧ Go1 O w O w' := by
  obtain ⟨vw, m, hd, ho⟩ := h
  have hlt : ∀ k, Ow p q vw m k → k < w.heap.size := hd.lt
  have nO : ∀ k, w.heap.size ≤ k → ¬ Ow p q vw m k := fun k hk h => by have := hlt k h; omega
  obtain ⟨W3, hW3⟩ : ∃ W3, W3 = ((w.alloc (.cells #[.pointer (some ⟨p, 0, none⟩)] 24)).alloc (.cells #[.int .i64 pg] 3)).alloc (.cells #[.slice none 0 0] 63) := ⟨_, rfl⟩
  have s1 := size_al w (.cells #[.pointer (some ⟨p, 0, none⟩)] 24)
  have s2 := size_al (w.alloc (.cells #[.pointer (some ⟨p, 0, none⟩)] 24)) (.cells #[.int .i64 pg] 3)
  have s3 : W3.heap.size = w.heap.size + 3 := by rw [hW3, size_al, s2, s1]
  have hb3 : Below w.heap.size w W3 := by
    rw [hW3]
    exact (below_alloc w _).trans (((below_alloc _ _).mono (by omega)).trans ((below_alloc _ _).mono (by omega)))
  have c0 : W3.cell? ⟨w.heap.size, 0, none⟩ = some (.pointer (some ⟨p, 0, none⟩)) := by rw [hW3]; exact cell_old (cell_old (cell_new _ _ _) _) _
  have c1 : W3.cell? ⟨w.heap.size + 1, 0, none⟩ = some (.int .i64 pg) := by rw [hW3]; have := cell_old (cell_new (w.alloc (.cells #[.pointer (some ⟨p, 0, none⟩)] 24)) (.int .i64 pg) 3) (.cells #[.slice none 0 0] 63); rwa [s1] at this
  have c2 : W3.cell? ⟨w.heap.size + 2, 0, none⟩ = some (.slice none 0 0) := by rw [hW3]; have := cell_new ((w.alloc (.cells #[.pointer (some ⟨p, 0, none⟩)] 24)).alloc (.cells #[.int .i64 pg] 3)) (.slice none 0 0) 63; rwa [s2, s1] at this
  have HOp := hide (operate1 p q vw m S W3 (.pointer (some ⟨w.heap.size, 0, none⟩)) (.pointer (some ⟨w.heap.size + 1, 0, none⟩)) (.pointer (some ⟨w.heap.size + 2, 0, none⟩))
    (fun x w' => x = (S.rno : Int) ∧ w'.cell? ⟨w.heap.size + 2, 0, none⟩ = some (.slice none 0 0) ∧ DkAt w' p q (S.be S.op1) O ∧ Go1 O w O w') (hd.below hb3) hn
    (fun he W hdW hm hs => by
      have hg0 : Go1 (Ow p q vw m) w (Ow p q vw m) W := (Go1.of_below hb3).trans (Go1.of_mv hm (.inl rfl))
      have hm' : Mv (Ow p q vw m) W3 W := (Go1.of_mv hm (.inl rfl)).mv
      have k2 := hm'.cell c2 (nO _ (by omega))
      refine (reads_range p q vw m S.op1 _ _ _ pg W hdW (hm'.cell c0 (nO _ (Nat.le_refl _))) (hm'.cell c1 (nO _ (by omega))) hbad).mono ?_
      rintro e w' ⟨rfl, hb⟩
      refine ⟨2, rfl, by rw [DS.rno, if_neg (by omega)]; rfl, (hb.cell (p := ⟨w.heap.size + 2, 0, none⟩) (World.block_lt_of_cell? W _ k2)).trans k2, ?_⟩
      rw [be_zero he]
      exact ⟨⟨vw, m, hdW.below hb, ho⟩, Go1.ofO (hg0.trans (Go1.of_below hb)) ho ho⟩)
    (fun he W hdW hm hs => by
      have hg0 : Go1 (Ow p q vw m) w (Ow p q vw m) W := (Go1.of_below hb3).trans (Go1.of_mv hm (.inl rfl))
      have hm' : Mv (Ow p q vw m) W3 W := (Go1.of_mv hm (.inl rfl)).mv
      exact ⟨by rw [DS.rno, if_pos he], hm'.cell c2 (nO _ (by omega)), ⟨vw, m, hdW, ho⟩, Go1.ofO hg0 ho ho⟩))
  clear hd ho hlt nO hbad hn hb3 c1 c2 s1 s2 s3
  have hmf' := hmf
  have hz := zero63
  subst hW3
  go_enter Try.func22, Try.ntmps22
  go_wp2_with fail
  refine HOp.out.mono ?_
  rintro e w' ⟨x, rfl, rfl, hc, hh⟩
  have HH := hide hh
  clear hh
  go_wp2
  go_ret2
  exact ⟨rfl, HH.out⟩
set_option maxHeartbeats 800000 in
set_option maxRecDepth 1000000 in
theorem trip_no (p q : Nat) (O : Nat → Prop) (S : DS) (n : Int) (w : World) (h : DkAt w p q S O) (hbad : n < 0 ∨ S.dk = true) :
    Calls Try.prog 52 #[.pointer (some ⟨p, 0, none⟩), .int .i64 n] w fun e w' => e = .returned (.int .u16 (if n < 0 then 1 else 4)) ∧ Below w.heap.size w w' := by
  obtain ⟨vw, m, hd, ho⟩ := h
  have c3 := hd.c 3 (.bool S.dk) rfl
  clear hd ho
  by_cases h0 : n < 0
  · have hd0 : decide (n < 0) = true := by simp [h0]
    rw [if_pos h0]
    clear hbad h0
    go_enter Try.func52, Try.ntmps52
    go_wp2
    go_ret
    exact ⟨rfl, Below.refl _ _⟩
  · have hd0 : decide (n < 0) = false := by simp [h0]
    rw [if_neg h0]
    rw [hbad.resolve_left h0] at c3
    clear hbad h0
    go_enter Try.func52, Try.ntmps52
    go_wp2
    go_ret
    exact ⟨rfl, Below.refl _ _⟩
set_option maxHeartbeats 800000 in
set_option maxRecDepth 1000000 in
theorem fail_no (p q : Nat) (O : Nat → Prop) (S : DS) (f n : Int) (w : World) (h : DkAt w p q S O) (hbad : (f < 1 ∨ 3 < f ∨ n < 0) ∨ S.dk = true) :
    Calls Try.prog 23 #[.pointer (some ⟨p, 0, none⟩), .int .i64 f, .int .i64 n] w fun e w' => e = .returned (.int .u16 (if f < 1 ∨ 3 < f ∨ n < 0 then 1 else 4)) ∧ Below w.heap.size w w' := by
  obtain ⟨vw, m, hd, ho⟩ := h
  have c3 := hd.c 3 (.bool S.dk) rfl
  clear hd ho
  by_cases h1 : f < 1
  · have d1 : decide (f < 1) = true := by simp [h1]
    rw [if_pos (.inl h1)]
    clear hbad h1
    go_enter Try.func23, Try.ntmps23
    go_wp2
    go_ret
    exact ⟨rfl, Below.refl _ _⟩
  · have d1 : decide (f < 1) = false := by simp [h1]
    by_cases h2 : 3 < f
    · have d2 : decide ((3 : Int) < f) = true := by simp [h2]
      rw [if_pos (.inr (.inl h2))]
      clear hbad h1 h2
      go_enter Try.func23, Try.ntmps23
      go_wp2
      go_ret
      exact ⟨rfl, Below.refl _ _⟩
    · have d2 : decide ((3 : Int) < f) = false := by simp [h2]
      by_cases h3 : n < 0
      · have d3 : decide (n < 0) = true := by simp [h3]
        rw [if_pos (.inr (.inr h3))]
        clear hbad h1 h2 h3
        go_enter Try.func23, Try.ntmps23
        go_wp2
        go_ret
        exact ⟨rfl, Below.refl _ _⟩
      · have d3 : decide (n < 0) = false := by simp [h3]
        have hno : ¬ (f < 1 ∨ 3 < f ∨ n < 0) := fun h => h.elim h1 (fun h => h.elim h2 h3)
        rw [if_neg hno]
        rw [hbad.resolve_left hno] at c3
        clear hbad h1 h2 h3 hno
        go_enter Try.func23, Try.ntmps23
        go_wp2
        go_ret
        exact ⟨rfl, Below.refl _ _⟩
end Go.Proofs.Ytkammfkknfflgaa
