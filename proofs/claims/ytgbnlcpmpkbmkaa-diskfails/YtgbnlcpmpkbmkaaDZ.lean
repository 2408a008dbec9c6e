/- Two disks side by side; a fault of any kind; what a fault does over the calls. -/
import Derived.Test.YtgbnlcpmpkbmkaaDX
import Derived.Test.YtgbnlcpmpkbmkaaDY
namespace Go.Proofs.Ytgbnlcpmpkbmkaa
open Go.RowKit Go.Maps
set_option linter.unusedVariables false

/-- two disks side by side. -/
structure Two (B : Nat) (w0 w : World) (p q : Nat) (O : Nat → Prop) (S : DS) (p2 q2 : Nat) (O2 : Nat → Prop) (S2 : DS) : Prop where
  d : DkAt w p q S O
  c : DkAt w p2 q2 S2 O2
  dj : ∀ k, O2 k → ¬ O k
  below : Below B w0 w
  size : B ≤ w.heap.size
  own : ∀ k, O k → B ≤ k
  own2 : ∀ k, O2 k → B ≤ k
section
variable {B : Nat} {w0 w w' : World} {p q : Nat} {O : Nat → Prop} {S S' : DS} {p2 q2 : Nat} {O2 O' : Nat → Prop} {S2 S2' : DS}
theorem Two.on (h : Two B w0 w p q O S p2 q2 O2 S2) (hb : Below w.heap.size w w') : Two B w0 w' p q O S p2 q2 O2 S2 :=
  ⟨h.d.below hb, h.c.below hb, h.dj, h.below.trans (hb.mono h.size), Nat.le_trans h.size hb.size, h.own, h.own2⟩
theorem Two.go (h : Two B w0 w p q O S p2 q2 O2 S2) (hd : DkAt w' p q S' O') (hg : Go1 O w O' w') : Two B w0 w' p q O' S' p2 q2 O2 S2 :=
  ⟨hd, h.c.other hg.mv h.dj, fun k h2 h1 => (hg.own k h1).elim (h.dj k h2) (fun hl => by have := h.c.lt k h2; omega), h.below.trans (hg.mv.below h.size h.own), Nat.le_trans h.size hg.mv.size, fun k hk => (hg.own k hk).elim (h.own k) (fun hl => Nat.le_trans h.size hl), h.own2⟩
theorem Two.go2 (h : Two B w0 w p q O S p2 q2 O2 S2) (hd : DkAt w' p2 q2 S2' O') (hg : Go1 O2 w O' w') : Two B w0 w' p q O S p2 q2 O' S2' :=
  ⟨h.d.other hg.mv (fun k h1 h2 => h.dj k h2 h1), hd, fun k h2 h1 => (hg.own k h2).elim (fun h3 => h.dj k h3 h1) (fun hl => by have := h.d.lt k h1; omega), h.below.trans (hg.mv.below h.size h.own2), Nat.le_trans h.size hg.mv.size, h.own, fun k hk => (hg.own k hk).elim (h.own2 k) (fun hl => Nat.le_trans h.size hl)⟩
theorem Two.no (h : Two B w0 w p q O S p2 q2 O2 S2) : ¬ O w.heap.size ∧ ¬ O2 w.heap.size := ⟨fun e => by have := h.d.lt _ e; omega, fun e => by have := h.c.lt _ e; omega⟩
end
def DS.fl1 (S : DS) (n : Int) : DS := { S with s1 := true, l1 := n }
set_option maxHeartbeats 800000 in
set_option maxRecDepth 1000000 in
theorem fl1_any (p q : Nat) (O : Nat → Prop) (S : DS) (n : Int) (w : World) (h : DkAt w p q S O) (h0 : 0 ≤ n) (h1 : n ≤ 9223372036854775807) (hdk : S.dk = false) :
    Calls Try.prog 31 #[.pointer (some ⟨p, 0, none⟩), .int .i64 1, .int .i64 n] w fun e w' => e = .returned (.int .u16 0) ∧ DkAt w' p q (S.fl1 n) O ∧ Go1 O w O w' := by
  obtain ⟨vw, m, hd, ho⟩ := h
  have c3 := hd.c 3 (.bool S.dk) rfl
  rw [hdk] at c3
  have c10 := hd.c 8 _ rfl
  have c11 := hd.c 9 _ rfl
  have f10 := hd.f 8
  have f11 := hd.f 9
  have hbd := build96 n
  have hn : decide (n < 0) = false := by simp; omega
  have HF : Hid (DkAt (sets w p [(8, .bool true), (9, .int .i64 n)]) p q (S.fl1 n) O ∧ Go1 O w O (sets w p [(8, .bool true), (9, .int .i64 n)])) := by
    refine ⟨⟨vw, m, hd.fields (S' := S.fl1 n) rfl rfl ⟨hd.good.ls, hd.good.ws, hd.good.most, hd.good.few, hd.good.t, ⟨h0, h1⟩, hd.good.f2, hd.good.f3, hd.good.n1, hd.good.n2, hd.good.n3⟩ ?_ (fun k hk => sets_other p k hk _ w), ho⟩, Go1.of_mv (sets_mv p _ w) ((ho p).2 (.inl rfl))⟩
    rw [sets_blk p 100 _ w _ hd.blk]
    simp only [List.foldl_cons, List.foldl_nil, cells, List.setIfInBounds_toArray, List.set_cons_succ, List.set_cons_zero, DS.fl1]
  clear hd ho h0 h1
  go_enter Try.func31, Try.ntmps31
  go_wp2
  go_ret
  exact ⟨rfl, HF.out⟩
def DS.fl2 (S : DS) (n : Int) : DS := { S with s2 := true, l2 := n }
set_option maxHeartbeats 800000 in
set_option maxRecDepth 1000000 in
theorem fl2_any (p q : Nat) (O : Nat → Prop) (S : DS) (n : Int) (w : World) (h : DkAt w p q S O) (h0 : 0 ≤ n) (h1 : n ≤ 9223372036854775807) (hdk : S.dk = false) :
    Calls Try.prog 31 #[.pointer (some ⟨p, 0, none⟩), .int .i64 2, .int .i64 n] w fun e w' => e = .returned (.int .u16 0) ∧ DkAt w' p q (S.fl2 n) O ∧ Go1 O w O w' := by
  obtain ⟨vw, m, hd, ho⟩ := h
  have c3 := hd.c 3 (.bool S.dk) rfl
  rw [hdk] at c3
  have c10 := hd.c 10 _ rfl
  have c11 := hd.c 11 _ rfl
  have f10 := hd.f 10
  have f11 := hd.f 11
  have hbd := build96 n
  have hn : decide (n < 0) = false := by simp; omega
  have HF : Hid (DkAt (sets w p [(10, .bool true), (11, .int .i64 n)]) p q (S.fl2 n) O ∧ Go1 O w O (sets w p [(10, .bool true), (11, .int .i64 n)])) := by
    refine ⟨⟨vw, m, hd.fields (S' := S.fl2 n) rfl rfl ⟨hd.good.ls, hd.good.ws, hd.good.most, hd.good.few, hd.good.t, hd.good.f1, ⟨h0, h1⟩, hd.good.f3, hd.good.n1, hd.good.n2, hd.good.n3⟩ ?_ (fun k hk => sets_other p k hk _ w), ho⟩, Go1.of_mv (sets_mv p _ w) ((ho p).2 (.inl rfl))⟩
    rw [sets_blk p 100 _ w _ hd.blk]
    simp only [List.foldl_cons, List.foldl_nil, cells, List.setIfInBounds_toArray, List.set_cons_succ, List.set_cons_zero, DS.fl2]
  clear hd ho h0 h1
  go_enter Try.func31, Try.ntmps31
  go_wp2
  go_ret
  exact ⟨rfl, HF.out⟩
def DS.fl3 (S : DS) (n : Int) : DS := { S with s3 := true, l3 := n }
set_option maxHeartbeats 800000 in
set_option maxRecDepth 1000000 in
theorem fl3_any (p q : Nat) (O : Nat → Prop) (S : DS) (n : Int) (w : World) (h : DkAt w p q S O) (h0 : 0 ≤ n) (h1 : n ≤ 9223372036854775807) (hdk : S.dk = false) :
    Calls Try.prog 31 #[.pointer (some ⟨p, 0, none⟩), .int .i64 3, .int .i64 n] w fun e w' => e = .returned (.int .u16 0) ∧ DkAt w' p q (S.fl3 n) O ∧ Go1 O w O w' := by
  obtain ⟨vw, m, hd, ho⟩ := h
  have c3 := hd.c 3 (.bool S.dk) rfl
  rw [hdk] at c3
  have c10 := hd.c 12 _ rfl
  have c11 := hd.c 13 _ rfl
  have f10 := hd.f 12
  have f11 := hd.f 13
  have hbd := build96 n
  have hn : decide (n < 0) = false := by simp; omega
  have HF : Hid (DkAt (sets w p [(12, .bool true), (13, .int .i64 n)]) p q (S.fl3 n) O ∧ Go1 O w O (sets w p [(12, .bool true), (13, .int .i64 n)])) := by
    refine ⟨⟨vw, m, hd.fields (S' := S.fl3 n) rfl rfl ⟨hd.good.ls, hd.good.ws, hd.good.most, hd.good.few, hd.good.t, hd.good.f1, hd.good.f2, ⟨h0, h1⟩, hd.good.n1, hd.good.n2, hd.good.n3⟩ ?_ (fun k hk => sets_other p k hk _ w), ho⟩, Go1.of_mv (sets_mv p _ w) ((ho p).2 (.inl rfl))⟩
    rw [sets_blk p 100 _ w _ hd.blk]
    simp only [List.foldl_cons, List.foldl_nil, cells, List.setIfInBounds_toArray, List.set_cons_succ, List.set_cons_zero, DS.fl3]
  clear hd ho h0 h1
  go_enter Try.func31, Try.ntmps31
  go_wp2
  go_ret
  exact ⟨rfl, HF.out⟩

/-- the fault of kind j, where f is the kind that has one, of bh, and met of that kind were met. -/
def Ft (f j bh met : Nat) (s : Bool) (l : Int) : Prop := if f = j ∧ met ≤ bh then s = true ∧ l = ((bh - met : Nat) : Int) else s = false
theorem Ft.tick {f j bh met : Nat} {s : Bool} {l : Int} (h : Ft f j bh met s l) : (tick s l).1 = decide (f = j ∧ met = bh) ∧ Ft f j bh (if f = j then met + 1 else met) (tick s l).2.1 (tick s l).2.2 := by
  unfold Ft at h ⊢
  unfold Go.Proofs.Ytgbnlcpmpkbmkaa.tick
  by_cases hf : f = j
  · subst hf
    by_cases h1 : met ≤ bh
    · rw [if_pos ⟨rfl, h1⟩] at h
      obtain ⟨rfl, rfl⟩ := h
      by_cases h2 : met = bh
      · subst h2
        simp
      · have h3 : ¬ (((bh - met : Nat) : Int) = 0) := by omega
        rw [if_pos rfl, if_neg h3]
        simp only [if_true]
        refine ⟨by simp [h2], ?_⟩
        rw [if_pos ⟨trivial, by omega⟩]
        exact ⟨trivial, by omega⟩
    · rw [if_neg (fun h => h1 h.2)] at h
      subst h
      simp only [Bool.false_eq_true, if_false, if_true]
      refine ⟨by simp; omega, ?_⟩
      rw [if_neg (fun h => h1 (by omega))]
      trivial
  · rw [if_neg (fun h => hf h.1)] at h
    subst h
    simp only [Bool.false_eq_true, if_false]
    exact ⟨by simp [hf], by rw [if_neg (fun h => hf h.1)]; trivial⟩
theorem Ft.other {f j i bh met : Nat} {s : Bool} {l : Int} (h : Ft f j bh met s l) (hij : i ≠ j) : Ft f j bh (if f = i then met + 1 else met) s l := by
  by_cases hf : f = i
  · unfold Ft at h ⊢
    rw [if_neg (fun e => hij (hf.symm.trans e.1))] at h
    rw [if_neg (fun e => hij (hf.symm.trans e.1))]
    exact h
  · rw [if_neg hf]; exact h
/-- a disk with the fault, and one without. -/
structure Fl (f bh met i : Nat) (S C : DS) : Prop where
  ls : S.ls = C.ls
  ws : S.ws = C.ws
  n : C.ls.length = 32
  w : C.ws.length ≤ 8 * i
  off : S.dk = false ∧ S.ts = false ∧ C.dk = false ∧ C.ts = false ∧ C.s2 = false ∧ C.s3 = false
  cnt : S.n1 ≤ i ∧ S.n2 ≤ i ∧ S.n3 ≤ i ∧ C.n2 ≤ i ∧ C.n3 ≤ i
  f1 : Ft f 1 bh met S.s1 S.l1
  f2 : Ft f 2 bh met S.s2 S.l2
  f3 : Ft f 3 bh met S.s3 S.l3
theorem tick_off (l : Int) : tick false l = (false, false, l) := rfl
theorem Fl.er1 {f bh met i : Nat} {S C : DS} (h : Fl f bh met i S C) : S.er S.s1 S.l1 = if f = 1 ∧ met = bh then 6 else 0 := by
  obtain ⟨h1, h2, _⟩ := h.off
  simp only [DS.er, h1, h2, tick_off, h.f1.tick.1, Bool.false_eq_true, if_false, decide_eq_true_eq]
theorem Fl.be1 {f bh met i : Nat} {S C : DS} (h : Fl f bh met i S C) : S.be S.op1 = S.op1 := by
  obtain ⟨h1, h2, _⟩ := h.off
  simp only [DS.be, h1, h2, tick_off, Bool.false_eq_true, if_false]
theorem Fl.tr1 {f bh met i : Nat} {S C : DS} (h : Fl f bh met i S C) : S.op1.dk = false ∧ S.op1.ts = false := by
  obtain ⟨h1, h2, _⟩ := h.off
  exact ⟨h1, by show (tick S.ts S.tl).2.1 = false; rw [h2]; rfl⟩
theorem Fl.one1 {f bh met i : Nat} {S C : DS} (h : Fl f bh met i S C) : Fl f bh (if f = 1 then met + 1 else met) (i + 1) S.op1 C := by
  obtain ⟨h1, h2, h3, h4, h5, h6⟩ := h.off
  obtain ⟨n1, n2, n3, n4, n5⟩ := h.cnt
  refine ⟨h.ls, h.ws, h.n, by have := h.w; omega, ⟨h.tr1.1, h.tr1.2, h3, h4, h5, h6⟩, ⟨?_, ?_, ?_, by omega, by omega⟩, h.f1.tick.2, h.f2.other (by decide), h.f3.other (by decide)⟩
  · show S.n1 + 1 ≤ _; omega
  · show S.n2 ≤ _; omega
  · show S.n3 ≤ _; omega
theorem Fl.er2 {f bh met i : Nat} {S C : DS} (h : Fl f bh met i S C) : S.er S.s2 S.l2 = if f = 2 ∧ met = bh then 6 else 0 := by
  obtain ⟨h1, h2, _⟩ := h.off
  simp only [DS.er, h1, h2, tick_off, h.f2.tick.1, Bool.false_eq_true, if_false, decide_eq_true_eq]
theorem Fl.be2 {f bh met i : Nat} {S C : DS} (h : Fl f bh met i S C) : S.be S.op2 = S.op2 := by
  obtain ⟨h1, h2, _⟩ := h.off
  simp only [DS.be, h1, h2, tick_off, Bool.false_eq_true, if_false]
theorem Fl.tr2 {f bh met i : Nat} {S C : DS} (h : Fl f bh met i S C) : S.op2.dk = false ∧ S.op2.ts = false := by
  obtain ⟨h1, h2, _⟩ := h.off
  exact ⟨h1, by show (tick S.ts S.tl).2.1 = false; rw [h2]; rfl⟩
theorem Fl.one2 {f bh met i : Nat} {S C : DS} (h : Fl f bh met i S C) : Fl f bh (if f = 2 then met + 1 else met) (i + 1) S.op2 C := by
  obtain ⟨h1, h2, h3, h4, h5, h6⟩ := h.off
  obtain ⟨n1, n2, n3, n4, n5⟩ := h.cnt
  refine ⟨h.ls, h.ws, h.n, by have := h.w; omega, ⟨h.tr2.1, h.tr2.2, h3, h4, h5, h6⟩, ⟨?_, ?_, ?_, by omega, by omega⟩, h.f1.other (by decide), h.f2.tick.2, h.f3.other (by decide)⟩
  · show S.n1 ≤ _; omega
  · show S.n2 + 1 ≤ _; omega
  · show S.n3 ≤ _; omega
theorem Fl.er3 {f bh met i : Nat} {S C : DS} (h : Fl f bh met i S C) : S.er S.s3 S.l3 = if f = 3 ∧ met = bh then 6 else 0 := by
  obtain ⟨h1, h2, _⟩ := h.off
  simp only [DS.er, h1, h2, tick_off, h.f3.tick.1, Bool.false_eq_true, if_false, decide_eq_true_eq]
theorem Fl.be3 {f bh met i : Nat} {S C : DS} (h : Fl f bh met i S C) : S.be S.op3 = S.op3 := by
  obtain ⟨h1, h2, _⟩ := h.off
  simp only [DS.be, h1, h2, tick_off, Bool.false_eq_true, if_false]
theorem Fl.tr3 {f bh met i : Nat} {S C : DS} (h : Fl f bh met i S C) : S.op3.dk = false ∧ S.op3.ts = false := by
  obtain ⟨h1, h2, _⟩ := h.off
  exact ⟨h1, by show (tick S.ts S.tl).2.1 = false; rw [h2]; rfl⟩
theorem Fl.one3 {f bh met i : Nat} {S C : DS} (h : Fl f bh met i S C) : Fl f bh (if f = 3 then met + 1 else met) (i + 1) S.op3 C := by
  obtain ⟨h1, h2, h3, h4, h5, h6⟩ := h.off
  obtain ⟨n1, n2, n3, n4, n5⟩ := h.cnt
  refine ⟨h.ls, h.ws, h.n, by have := h.w; omega, ⟨h.tr3.1, h.tr3.2, h3, h4, h5, h6⟩, ⟨?_, ?_, ?_, by omega, by omega⟩, h.f1.other (by decide), h.f2.other (by decide), h.f3.tick.2⟩
  · show S.n1 ≤ _; omega
  · show S.n2 ≤ _; omega
  · show S.n3 + 1 ≤ _; omega
theorem Fl.erC {f bh met i : Nat} {S C : DS} (h : Fl f bh met i S C) : C.er C.s2 C.l2 = 0 ∧ C.er C.s3 C.l3 = 0 := by
  obtain ⟨h1, h2, h3, h4, h5, h6⟩ := h.off
  simp [DS.er, h3, h4, h5, h6, tick_off]
theorem Fl.write {f bh met i : Nat} {S C : DS} (h : Fl f bh met i S C) (b : Nat) (zs : List Int) : Fl f bh (if f = 2 then met + 1 else met) (i + 1) (S.op2.adds b zs 8) (C.op2.adds b zs 8) := by
  obtain ⟨h1, h2, h3, h4, h5, h6⟩ := h.off
  obtain ⟨n1, n2, n3, n4, n5⟩ := h.cnt
  have g := h.one2
  refine ⟨g.ls, ?_, g.n, ?_, ⟨g.off.1, g.off.2.1, h3, ?_, ?_, h6⟩, ⟨g.cnt.1, g.cnt.2.1, g.cnt.2.2.1, ?_, ?_⟩, g.f1, g.f2, g.f3⟩
  · show S.ws ++ _ = C.ws ++ _; rw [h.ws]
  · rw [DS.adds_len]; show C.ws.length + 8 ≤ _; have := h.w; omega
  · show (tick C.ts C.tl).2.1 = false; rw [h4]; rfl
  · show (tick C.s2 C.l2).2.1 = false; rw [h5]; rfl
  · show C.n2 + 1 ≤ _; omega
  · show C.n3 ≤ _; omega
theorem Fl.sync {f bh met i : Nat} {S C : DS} (h : Fl f bh met i S C) : Fl f bh (if f = 3 then met + 1 else met) (i + 1) (S.op3.set yes) (C.op3.set yes) := by
  obtain ⟨h1, h2, h3, h4, h5, h6⟩ := h.off
  obtain ⟨n1, n2, n3, n4, n5⟩ := h.cnt
  have g := h.one3
  refine ⟨?_, rfl, ?_, Nat.zero_le _, ⟨g.off.1, g.off.2.1, h3, ?_, h5, ?_⟩, ⟨g.cnt.1, g.cnt.2.1, g.cnt.2.2.1, ?_, ?_⟩, g.f1, g.f2, g.f3⟩
  · show settled S.ls S.ws yes S.ws.length = settled C.ls C.ws yes C.ws.length; rw [h.ls, h.ws]
  · show (settled C.ls C.ws yes C.ws.length).length = 32; rw [settled_len]; exact h.n
  · show (tick C.ts C.tl).2.1 = false; rw [h4]; rfl
  · show (tick C.s3 C.l3).2.1 = false; rw [h6]; rfl
  · show C.n2 ≤ _; omega
  · show C.n3 + 1 ≤ _; omega
theorem Fl.start (bh : Nat) : Fl 1 bh 0 0 ((DS.new 32).fl1 (bh : Int)) (DS.new 32) ∧ Fl 2 bh 0 0 ((DS.new 32).fl2 (bh : Int)) (DS.new 32) ∧ Fl 3 bh 0 0 ((DS.new 32).fl3 (bh : Int)) (DS.new 32) := by
  refine ⟨⟨rfl, rfl, by simp [DS.new], by simp [DS.new], ⟨rfl, rfl, rfl, rfl, rfl, rfl⟩, ⟨Int.le_refl _, Int.le_refl _, Int.le_refl _, Int.le_refl _, Int.le_refl _⟩, ?_, ?_, ?_⟩, ⟨rfl, rfl, by simp [DS.new], by simp [DS.new], ⟨rfl, rfl, rfl, rfl, rfl, rfl⟩, ⟨Int.le_refl _, Int.le_refl _, Int.le_refl _, Int.le_refl _, Int.le_refl _⟩, ?_, ?_, ?_⟩, ⟨rfl, rfl, by simp [DS.new], by simp [DS.new], ⟨rfl, rfl, rfl, rfl, rfl, rfl⟩, ⟨Int.le_refl _, Int.le_refl _, Int.le_refl _, Int.le_refl _, Int.le_refl _⟩, ?_, ?_, ?_⟩⟩
  all_goals simp [Ft, DS.new, DS.fl1, DS.fl2, DS.fl3]
end Go.Proofs.Ytgbnlcpmpkbmkaa
