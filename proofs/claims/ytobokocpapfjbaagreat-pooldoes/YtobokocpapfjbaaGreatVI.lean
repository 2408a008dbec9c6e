/- Things side by side: the program's pool and the document's, a book, something more. -/
import Derived.Test.YtobokocpapfjbaaGreatVF
import Derived.Test.YtobokocpapfjbaaGreatVU
import Derived.Test.YtobokocpapfjbaaGreatPM1
import Derived.Test.YtobokocpapfjbaaGreatLE
import Derived.Test.YtobokocpapfjbaaGreatXF
namespace Go.Proofs.YtobokocpapfjbaaGreat
open Go.RowKit Go.Maps
set_option linter.unusedVariables false

/-- something that owns blocks. -/
abbrev Th := World → (Nat → Prop) → Prop
structure Good (P : Th) : Prop where
  lt : ∀ {w : World} {O : Nat → Prop} {k : Nat}, P w O → O k → k < w.heap.size
  other : ∀ {w w' : World} {O P' : Nat → Prop}, P w O → Mv P' w w' → (∀ k, O k → ¬ P' k) → P w' O
def Bes (P Q : Th) : Th := fun w O => ∃ O1 O2, P w O1 ∧ Q w O2 ∧ (∀ k, O1 k → ¬ O2 k) ∧ ∀ k, O k ↔ O1 k ∨ O2 k
variable {P Q P' Q' X Y : Th} {w0 w w' w1 w2 : World} {O O' O1 : Nat → Prop}
theorem Bes.good (hp : Good P) (hq : Good Q) : Good (Bes P Q) where
  lt := fun ⟨O1, O2, h1, h2, h3, h4⟩ hk => ((h4 _).1 hk).elim (hp.lt h1) (hq.lt h2)
  other := fun ⟨O1, O2, h1, h2, h3, h4⟩ hm ha => ⟨O1, O2, hp.other h1 hm fun k hk => ha k ((h4 k).2 (.inl hk)), hq.other h2 hm fun k hk => ha k ((h4 k).2 (.inr hk)), h3, h4⟩
theorem Bes.swap (h : Bes P Q w O) : Bes Q P w O := by
  obtain ⟨O1, O2, h1, h2, h3, h4⟩ := h
  exact ⟨O2, O1, h2, h1, fun k hk hk2 => h3 k hk2 hk, fun k => (h4 k).trans Or.comm⟩
theorem Bes.left (hq : Good Q) (h : Bes P Q w O) : ∃ O1, P w O1 ∧ (∀ k, O1 k → O k) ∧ ∀ {P' : Th} {w' : World} {O1' : Nat → Prop}, P' w' O1' → Go1 O1 w O1' w' → ∃ O', Bes P' Q w' O' ∧ Go1 O w O' w' := by
  obtain ⟨O1, O2, h1, h2, h3, h4⟩ := h
  refine ⟨O1, h1, fun k hk => (h4 k).2 (.inl hk), fun {P' w' O1'} hp' hg => ⟨fun k => O1' k ∨ O2 k, ⟨O1', O2, hp', hq.other h2 hg.mv fun k hk ho => h3 k ho hk, fun k hk hk2 => ?_, fun k => Iff.rfl⟩, ⟨hg.mv.mono fun k hk => (h4 k).2 (.inl hk), fun k hk => ?_⟩⟩⟩
  · rcases hg.own k hk with h | h
    · exact h3 k h hk2
    · have := hq.lt h2 hk2; omega
  · rcases hk with hk | hk
    · exact (hg.own k hk).imp (fun h => (h4 k).2 (.inl h)) id
    · exact .inl ((h4 k).2 (.inr hk))
theorem Bes.right (hp : Good P) (h : Bes P Q w O) : ∃ O1, Q w O1 ∧ (∀ k, O1 k → O k) ∧ ∀ {Q' : Th} {w' : World} {O1' : Nat → Prop}, Q' w' O1' → Go1 O1 w O1' w' → ∃ O', Bes P Q' w' O' ∧ Go1 O w O' w' := by
  obtain ⟨O1, h1, h2, h3⟩ := h.swap.left hp
  refine ⟨O1, h1, h2, fun {Q' w' O1'} hq hg => ?_⟩
  obtain ⟨O', h4, h5⟩ := h3 hq hg
  exact ⟨O', h4.swap, h5⟩
def Emp : Th := fun _ O => ∀ k, ¬ O k
theorem goodEmp : Good Emp := ⟨fun h hk => absurd hk (h _), fun h _ _ => h⟩
/-- a box. -/
def Bx (b : Nat) (o : Obj) : Th := fun w O => w.heap[b]? = some o ∧ ∀ k, O k ↔ k = b
theorem goodBx {b : Nat} {o : Obj} : Good (Bx b o) := ⟨fun h hk => by rw [(h.2 _).1 hk]; exact lt_of_block h.1, fun h hm ha => ⟨(hm.block _ (lt_of_block h.1) (ha _ ((h.2 _).2 rfl))).trans h.1, h.2⟩⟩
/-- bytes of the call's own. -/
def Fb (v : Value) (zs : List Int) : Th := fun w O => Own w v zs ∧ ∀ k, O k ↔ v.ownBlock = some k
theorem goodFb {v : Value} {zs : List Int} : Good (Fb v zs) := ⟨fun h hk => h.1.lt ((h.2 _).1 hk), fun h hm ha => ⟨h.1.of_block fun k hk => hm.block k (h.1.lt hk) (ha k ((h.2 k).2 hk)), h.2⟩⟩
variable {p d q p2 r bq most n : Nat} {S S' S2 : DS} {A A' A2 : List Pge}
def Dp (d q : Nat) (S : DS) : Th := fun w O => DkAt w d q S O
def Rdp (r : Nat) (S : DS) : Th := fun w O => RdAt w r S O
def Xp (p d q : Nat) (S : DS) (most : Nat) (A : List Pge) : Th := fun w O => Pl w p d q S most A O
def Rp (p2 r : Nat) (S : DS) (most : Nat) (A : List Pge) : Th := fun w O => Qp w p2 r S most A O
theorem goodD : Good (Dp d q S) := ⟨fun h hk => DkAt.lt h _ hk, fun h hm ha => DkAt.other h hm ha⟩
theorem goodRd : Good (Rdp r S) := ⟨fun h hk => RdAt.lt h _ hk, fun h hm ha => RdAt.other h hm ha⟩
theorem goodX : Good (Xp p d q S most A) := ⟨fun h hk => Pl.lt h _ hk, fun h hm ha => Pl.other h hm ha⟩
theorem goodR : Good (Rp p2 r S most A) := ⟨fun h hk => Qp.lt h hk, fun h hm ha => Qp.stays h hm.size fun k hk => hm.block k (Qp.lt h hk) (ha k hk)⟩
/-- a book with so many rows of bytes. -/
def Kb (q n : Nat) : Th := fun w O => ∃ f v A C Z, Bo.Bk w q f ∧ f 0 = v ∧ (∀ j, j ≠ 0 → f j = .slice none 0 0) ∧ Bo.Fam .u8 5 22 w v n A C Z ∧ (∀ i, i < n → (Z i).length ≤ 100000) ∧ ∀ k, O k ↔ k = q ∨ (Bo.blks v k ∨ Bo.rft n A k)
theorem goodK : Good (Kb q n) where
  lt := fun ⟨f, v, A, C, Z, h1, h2, h3, h4, h5, h6⟩ hk => by
    rcases (h6 _).1 hk with rfl | h
    · exact h1.lt
    · exact h4.lt _ h
  other := fun ⟨f, v, A, C, Z, h1, h2, h3, h4, h5, h6⟩ hm ha => ⟨f, v, A, C, Z, h1.of_block (hm.block _ h1.lt (ha _ ((h6 _).2 (.inl rfl)))), h2, h3, h4.of_block (fun k hk => hm.block k (h4.lt _ hk) (ha k ((h6 k).2 (.inr hk)))), h5, h6⟩
theorem Pl.dk {OO : Nat → Prop} (h : Pl w p d q S most A OO) : ∃ O, DkAt w d q S O ∧ (∀ k, O k → OO k) ∧ ∀ {w' : World} {S' : DS} {O' : Nat → Prop}, DkAt w' d q S' O' → Go1 O w O' w' → ∃ OO', Pl w' p d q S' most A OO' ∧ Go1 OO w OO' w' := by
  obtain ⟨O, e, m, L, el, yo, h1, h2, h3⟩ := h
  refine ⟨O, h1.dk, fun k hk => (h3 k).2 (.inl hk), fun {w' S' O'} hd hg => ⟨fun k => O' k ∨ OwP p e m L k, ⟨O', e, m, L, el, yo, h1.disk hd hg, h2, fun k => Iff.rfl⟩, ?_⟩⟩
  exact ⟨hg.mv.mono fun k hk => (h3 k).2 (.inl hk), fun k hk => hk.elim (fun hk => (hg.own k hk).imp (fun h => (h3 k).2 (.inl h)) id) (fun hk => .inl ((h3 k).2 (.inr hk)))⟩
theorem Qp.rd (h : Qp w p2 r S most A O) : ∃ O1, RdAt w r S O1 ∧ (∀ k, O1 k → O k) ∧ ∀ {w' : World} {S' : DS} {O1' : Nat → Prop}, RdAt w' r S' O1' → Go1 O1 w O1' w' → ∃ O', Qp w' p2 r S' most A O' ∧ Go1 O w O' w' := by
  obtain ⟨O1, v, H, h1, h2, h3, h4, h5⟩ := h
  refine ⟨O1, h1, fun k hk => (h5 k).2 (.inl hk), fun {w' S' O1'} hd hg => ?_⟩
  obtain ⟨q1, q2, q3⟩ := qp_disk (O := O) h5 h2 h4 hd hg
  exact ⟨_, ⟨O1', v, H, hd, q1, h3, q2, fun k => Iff.rfl⟩, q3⟩
/-- where all lies. -/
structure Ix where
  p : Nat
  d : Nat
  q : Nat
  p2 : Nat
  r : Nat
  bq : Nat
  most : Nat
/-- all of it. -/
def Sw (i : Ix) (w0 w : World) (S : DS) (A : List Pge) (S2 : DS) (A2 : List Pge) (n : Nat) (X : Th) : Prop :=
  Good X ∧ ∃ O, Bes (Bes (Xp i.p i.d i.q S i.most A) (Rp i.p2 i.r S2 i.most A2)) (Bes (Kb i.bq n) X) w O ∧ (∀ k, O k → w0.heap.size ≤ k) ∧ Below w0.heap.size w0 w
variable {i : Ix}
theorem Sw.bel (h : Sw i w0 w S A S2 A2 n X) : Below w0.heap.size w0 w := by obtain ⟨_, O, _, _, h⟩ := h; exact h
theorem goodS (hX : Good X) : Good (Bes (Bes (Xp i.p i.d i.q S i.most A) (Rp i.p2 i.r S2 i.most A2)) (Bes (Kb i.bq n) X)) := Bes.good (Bes.good goodX goodR) (Bes.good goodK hX)
theorem Sw.on (h : Sw i w0 w S A S2 A2 n X) (hb : Below w.heap.size w w') : Sw i w0 w' S A S2 A2 n X := by
  obtain ⟨hX, O, h1, h2, h3⟩ := h
  exact ⟨hX, O, (goodS hX).other (P' := fun _ => False) h1 (Mv.of_below hb) (fun _ _ h => h), h2, h3.trans (hb.mono h3.size)⟩
theorem go_sw (h2 : ∀ k, O k → w0.heap.size ≤ k) (h3 : Below w0.heap.size w0 w) (hg : Go1 O w O' w') : (∀ k, O' k → w0.heap.size ≤ k) ∧ Below w0.heap.size w0 w' :=
  ⟨fun k hk => (hg.own k hk).elim (h2 k) (fun h => Nat.le_trans h3.size h), h3.trans (hg.mv.below h3.size h2)⟩
/-- the program's pool. -/
theorem Sw.xx (h : Sw i w0 w S A S2 A2 n X) : ∃ O1, Pl w i.p i.d i.q S i.most A O1 ∧ (∀ k, O1 k → w0.heap.size ≤ k) ∧ ∀ {w' : World} {S' : DS} {A' : List Pge} {O1' : Nat → Prop}, Pl w' i.p i.d i.q S' i.most A' O1' → Go1 O1 w O1' w' → Sw i w0 w' S' A' S2 A2 n X := by
  obtain ⟨hX, O, h1, h2, h3⟩ := h
  obtain ⟨Oa, a1, a2, a3⟩ := h1.left (Bes.good goodK hX)
  obtain ⟨Ob, b1, b2, b3⟩ := a1.left goodR
  refine ⟨Ob, b1, fun k hk => h2 k (a2 k (b2 k hk)), fun {w' S' A' O1'} hx hg => ?_⟩
  obtain ⟨Oc, c1, c2⟩ := b3 (P' := Xp i.p i.d i.q S' i.most A') hx hg
  obtain ⟨Od, d1, d2⟩ := a3 c1 c2
  exact ⟨hX, Od, d1, go_sw h2 h3 d2⟩
/-- the document's. -/
theorem Sw.rr (h : Sw i w0 w S A S2 A2 n X) : ∃ O1, Qp w i.p2 i.r S2 i.most A2 O1 ∧ (∀ k, O1 k → w0.heap.size ≤ k) ∧ ∀ {w' : World} {S' : DS} {A' : List Pge} {O1' : Nat → Prop}, Qp w' i.p2 i.r S' i.most A' O1' → Go1 O1 w O1' w' → Sw i w0 w' S A S' A' n X := by
  obtain ⟨hX, O, h1, h2, h3⟩ := h
  obtain ⟨Oa, a1, a2, a3⟩ := h1.left (Bes.good goodK hX)
  obtain ⟨Ob, b1, b2, b3⟩ := a1.right goodX
  refine ⟨Ob, b1, fun k hk => h2 k (a2 k (b2 k hk)), fun {w' S' A' O1'} hx hg => ?_⟩
  obtain ⟨Oc, c1, c2⟩ := b3 (Q' := Rp i.p2 i.r S' i.most A') hx hg
  obtain ⟨Od, d1, d2⟩ := a3 c1 c2
  exact ⟨hX, Od, d1, go_sw h2 h3 d2⟩
/-- the book and the rest. -/
theorem Sw.kk (h : Sw i w0 w S A S2 A2 n X) : Good X ∧ ∃ O1, Bes (Kb i.bq n) X w O1 ∧ (∀ k, O1 k → w0.heap.size ≤ k) ∧ ∀ {w' : World} {n' : Nat} {Y : Th} {O1' : Nat → Prop}, Good Y → Bes (Kb i.bq n') Y w' O1' → Go1 O1 w O1' w' → Sw i w0 w' S A S2 A2 n' Y := by
  obtain ⟨hX, O, h1, h2, h3⟩ := h
  obtain ⟨Oa, a1, a2, a3⟩ := h1.right (Bes.good goodX goodR)
  refine ⟨hX, Oa, a1, fun k hk => h2 k (a2 k hk), fun {w' n' Y O1'} hY hx hg => ?_⟩
  obtain ⟨Od, d1, d2⟩ := a3 (Q' := Bes (Kb i.bq n') Y) hx hg
  exact ⟨hY, Od, d1, go_sw h2 h3 d2⟩
/-- what more there is. -/
theorem Sw.yy (h : Sw i w0 w S A S2 A2 n X) : ∃ O1, X w O1 ∧ (∀ k, O1 k → w0.heap.size ≤ k) ∧ ∀ {w' : World} {Y : Th} {O1' : Nat → Prop}, Good Y → Y w' O1' → Go1 O1 w O1' w' → Sw i w0 w' S A S2 A2 n Y := by
  obtain ⟨hX, Oa, a1, a2, a3⟩ := h.kk
  obtain ⟨Ob, b1, b2, b3⟩ := a1.right goodK
  refine ⟨Ob, b1, fun k hk => a2 k (b2 k hk), fun {w' Y O1'} hY hx hg => ?_⟩
  obtain ⟨Oc, c1, c2⟩ := b3 (Q' := Y) hx hg
  exact a3 hY c1 c2
/-- something new beside it. -/
theorem Sw.more (h : Sw i w0 w S A S2 A2 n X) (hY : Good Y) (hb : Below w.heap.size w w') {O1 : Nat → Prop} (hy : Y w' O1) (hn : ∀ k, O1 k → w.heap.size ≤ k) : Sw i w0 w' S A S2 A2 n (Bes X Y) := by
  have hX := h.1
  obtain ⟨Oa, a1, a2, a3⟩ := h.yy
  refine a3 (O1' := fun k => Oa k ∨ O1 k) (Bes.good hX hY) ⟨Oa, O1, hX.other (P' := fun _ => False) a1 (Mv.of_below hb) (fun _ _ h => h), hy, fun k hk hk2 => ?_, fun k => Iff.rfl⟩ ⟨Mv.of_below hb, fun k hk => hk.imp id (hn k)⟩
  have h1 := hX.lt a1 hk
  have h2 := hn k hk2
  omega
/-- something is left. -/
theorem Sw.less (hX : Good X) (h : Sw i w0 w S A S2 A2 n (Bes X Y)) : Sw i w0 w S A S2 A2 n X := by
  obtain ⟨Oa, ⟨O1, O2, b1, b2, b3, b4⟩, a2, a3⟩ := h.yy
  exact a3 (O1' := O1) hX b1 ⟨Mv.refl _ _, fun k hk => .inl ((b4 k).2 (.inl hk))⟩
end Go.Proofs.YtobokocpapfjbaaGreat
/- Each call of PoolDoes, told of all that there is. -/
namespace Go.Proofs.YtobokocpapfjbaaGreat
open Go.RowKit Go.Maps
set_option linter.unusedVariables false

/-- a disk that is not dark, and on which nothing trips, of so many pages, behind at most c operations. -/
structure Live (S : DS) (pages c : Nat) : Prop where
  dk : S.dk = false
  ts : S.ts = false
  len : S.ls.length = 8 * pages
  ws : S.ws.length ≤ 8 * c
  n1 : S.n1 ≤ c
  n2 : S.n2 ≤ c
  n3 : S.n3 ≤ c
variable {S S' : DS} {A A' : List Pge} {pages c most : Nat}
theorem Live.mono (h : Live S pages c) {c' : Nat} (hc : c ≤ c') : Live S pages c' := ⟨h.dk, h.ts, h.len, by have := h.ws; omega, by have := h.n1; omega, by have := h.n2; omega, by have := h.n3; omega⟩
theorem Live.er (h : Live S pages c) (s : Bool) (l : Int) : S.er s l = if (tick s l).1 = true then 6 else 0 := by
  unfold DS.er
  simp [h.dk, h.ts, tick]
theorem Live.be (h : Live S pages c) (S' : DS) : S.be S' = S' := by
  unfold DS.be
  simp [h.dk, h.ts, tick]
theorem tick_hit {s : Bool} {l : Int} (h : (tick s l).1 = true) : (tick s l).2.1 = false := by
  unfold tick at h ⊢
  split at h
  · split at h
    · rename_i h1 h2; simp [h1, h2]
    · simp at h
  · simp at h
theorem tick_off (l : Int) : (tick false l).1 = false := rfl
theorem Live.op1 (h : Live S pages c) : Live S.op1 pages (c + 1) := by
  refine ⟨h.dk, ?_, h.len, ?_, ?_, ?_, ?_⟩
  · show (tick S.ts S.tl).2.1 = false; simp [tick, h.ts]
  · have := h.ws; show S.ws.length ≤ _; omega
  · have := h.n1; show S.n1 + 1 ≤ _; omega
  · have := h.n2; show S.n2 ≤ _; omega
  · have := h.n3; show S.n3 ≤ _; omega
theorem Live.op2 (h : Live S pages c) : Live S.op2 pages (c + 1) := by
  refine ⟨h.dk, ?_, h.len, ?_, ?_, ?_, ?_⟩
  · show (tick S.ts S.tl).2.1 = false; simp [tick, h.ts]
  · have := h.ws; show S.ws.length ≤ _; omega
  · have := h.n1; show S.n1 ≤ _; omega
  · have := h.n2; show S.n2 + 1 ≤ _; omega
  · have := h.n3; show S.n3 ≤ _; omega
theorem Live.op3 (h : Live S pages c) : Live S.op3 pages (c + 1) := by
  refine ⟨h.dk, ?_, h.len, ?_, ?_, ?_, ?_⟩
  · show (tick S.ts S.tl).2.1 = false; simp [tick, h.ts]
  · have := h.ws; show S.ws.length ≤ _; omega
  · have := h.n1; show S.n1 ≤ _; omega
  · have := h.n2; show S.n2 ≤ _; omega
  · have := h.n3; show S.n3 + 1 ≤ _; omega
theorem Live.wr (h : Live S pages c) (b : Nat) (zs : List Int) : Live (S.op2.adds b zs 8) pages (c + 1) := by
  refine ⟨h.op2.dk, h.op2.ts, h.op2.len, ?_, h.op2.n1, h.op2.n2, h.op2.n3⟩
  have := h.ws
  rw [DS.adds_len]
  show S.ws.length + 8 ≤ _
  omega
theorem Live.set (h : Live S pages c) : Live (S.set yes) pages c := by
  refine ⟨h.dk, h.ts, ?_, ?_, h.n1, h.n2, h.n3⟩
  · show (settled _ _ _ _).length = _; rw [settled_len]; exact h.len
  · show 0 ≤ _; omega
theorem Live.cut0 (h : Live S pages c) (bs : List Bool) : Calm (S.cut bs) pages c := by
  refine ⟨rfl, rfl, rfl, rfl, rfl, ?_, ?_, h.n1, h.n2, h.n3⟩
  · show (settled _ _ _ _).length = _; rw [settled_len]; exact h.len
  · show 0 ≤ _; omega
theorem Live.new (pages : Nat) : Live (DS.new (8 * pages)) pages 0 := ⟨rfl, rfl, by simp [DS.new], by simp [DS.new], by simp [DS.new], by simp [DS.new], by simp [DS.new]⟩

theorem Live.cut (h : Live S pages c) (bs : List Bool) : Live (S.cut bs) pages c := by
  have h1 := h.cut0 bs
  exact ⟨h1.dk, h1.ts, h1.len, h1.ws, h1.n1, h1.n2, h1.n3⟩
theorem Live.pg (h : Live S pages c) : S.ls.length / 8 = pages := by rw [h.len]; omega
theorem Live.fl (h : Live S pages c) (f n : Int) : Live (flS S f n) pages c := by
  unfold flS
  split
  · exact h
  · split
    · exact ⟨h.dk, h.ts, h.len, h.ws, h.n1, h.n2, h.n3⟩
    · split
      · exact ⟨h.dk, h.ts, h.len, h.ws, h.n1, h.n2, h.n3⟩
      · exact ⟨h.dk, h.ts, h.len, h.ws, h.n1, h.n2, h.n3⟩
theorem Live.sy (h : Live S pages c) : Live S.sy pages (c + 1) := by
  unfold DS.sy
  split
  · exact h.op3.set
  · rw [h.be]; exact h.op3
variable {P Q P' Q' X Y : Th} {w0 w w' w1 w2 : World} {O O' O1 : Nat → Prop} {n : Nat} {i : Ix} {S2 : DS} {A2 : List Pge}
theorem wo_len (A : List Pge) (k : Nat) : (wo A k).length ≤ A.length := List.length_filter_le _ _
theorem inn_len (A : List Pge) (m : Nat) (x : Pge) : (inn m A x).length ≤ A.length + 1 := by
  unfold inn
  split <;> simp
/-- the program's pool moves, and something comes out. -/
theorem Sw.give (h : Sw i w0 w S A S2 A2 n X) : ∃ O1, Pl w i.p i.d i.q S i.most A O1 ∧ (∀ k, O1 k → w0.heap.size ≤ k) ∧ ∀ {w' : World} {S' : DS} {A' : List Pge} {O1' : Nat → Prop} {v : Value} {zs : List Int}, Pl w' i.p i.d i.q S' i.most A' O1' → Go1 O1 w O1' w' → Fresh w w' O1' v zs → Sw i w0 w' S' A' S2 A2 n (Bes X (Fb v zs)) := by
  obtain ⟨hX, O, h1, h2, h3⟩ := h
  obtain ⟨Oa, Oz, ⟨Ox, Or, a1, a2, a3, a4⟩, ⟨Ok, OX, b1, b2, b3, b4⟩, c1, c2⟩ := h1
  have sx : ∀ k, Ox k → O k := fun k hk => (c2 k).2 (.inl ((a4 k).2 (.inl hk)))
  refine ⟨Ox, a1, fun k hk => h2 k (sx k hk), fun {w' S' A' O1' v zs} hx hg hf => ?_⟩
  have kr : ∀ k, Or k → ¬ Ox k := fun k hk hx => a3 k hx hk
  have kk : ∀ k, Ok k → ¬ Ox k := fun k hk hx => c1 k ((a4 k).2 (.inl hx)) ((b4 k).2 (.inl hk))
  have kX : ∀ k, OX k → ¬ Ox k := fun k hk hx => c1 k ((a4 k).2 (.inl hx)) ((b4 k).2 (.inr hk))
  have lr : ∀ k, Or k → k < w.heap.size := fun k hk => goodR.lt a2 hk
  have lk : ∀ k, Ok k → k < w.heap.size := fun k hk => goodK.lt b1 hk
  have lX : ∀ k, OX k → k < w.heap.size := fun k hk => hX.lt b2 hk
  have ox : ∀ k, O1' k → ∀ (Q : Nat → Prop), (∀ k, Q k → k < w.heap.size) → (∀ k, Q k → ¬ Ox k) → ¬ Q k := fun k hk Q h1 h2 hq => by
    rcases hg.own k hk with h | h
    · exact h2 k hq h
    · have := h1 k hq; omega
  have og : ∀ k, v.ownBlock = some k → ∀ (Q : Nat → Prop), (∀ k, Q k → k < w.heap.size) → ¬ Q k := fun k hk Q h1 hq => by
    have h3 := (hf.2 k hk).1
    have := h1 k hq
    omega
  refine ⟨Bes.good hX goodFb, fun k => (O1' k ∨ Or k) ∨ (Ok k ∨ (OX k ∨ v.ownBlock = some k)), ⟨_, _, ⟨O1', Or, hx, goodR.other a2 hg.mv kr, fun k hk => ox k hk Or lr kr, fun k => Iff.rfl⟩, ⟨Ok, _, goodK.other b1 hg.mv kk, ⟨OX, fun k => v.ownBlock = some k, hX.other b2 hg.mv kX, ⟨hf.1, fun k => Iff.rfl⟩, fun k hk hv => og k hv OX lX hk, fun k => Iff.rfl⟩, fun k hk hv => ?_, fun k => Iff.rfl⟩, fun k hk hv => ?_, fun k => Iff.rfl⟩, fun k hk => ?_, ?_⟩
  · rcases hv with hv | hv
    · exact b3 k hk hv
    · exact og k hv Ok lk hk
  · rcases hk with hk | hk
    · rcases hv with hv | hv | hv
      · exact ox k hk Ok lk kk hv
      · exact ox k hk OX lX kX hv
      · exact (hf.2 k hv).2 hk
    · rcases hv with hv | hv | hv
      · exact c1 k ((a4 k).2 (.inr hk)) ((b4 k).2 (.inl hv))
      · exact c1 k ((a4 k).2 (.inr hk)) ((b4 k).2 (.inr hv))
      · exact og k hv Or lr hk
  · rcases hk with (hk | hk) | hk | hk | hk
    · rcases hg.own k hk with h | h
      · exact h2 k (sx k h)
      · exact Nat.le_trans h3.size h
    · exact h2 k ((c2 k).2 (.inl ((a4 k).2 (.inr hk))))
    · exact h2 k ((c2 k).2 (.inr ((b4 k).2 (.inl hk))))
    · exact h2 k ((c2 k).2 (.inr ((b4 k).2 (.inr hk))))
    · exact Nat.le_trans h3.size (hf.2 k hk).1
  · exact h3.trans (hg.mv.below h3.size (fun k hk => h2 k (sx k hk)))
theorem fresh_shape {v : Value} {zs : List Int} {OO : Nat → Prop} (h : Fresh w w' OO v zs) : ∃ a l c, v = .slice a l c := by
  obtain ⟨a, l, c, e, _⟩ := h.1.shape2
  exact ⟨a, l, c, e⟩
/-- Read of both. -/
theorem sw_read (h : Sw i w0 w S A S A n X) (hl : Live S pages c) (hc : c ≤ 5000) (hA : A.length ≤ 1000) (N : Nat) (hN : N < 4294967296) :
    ∃ (K E : Nat) (pl : List Int) (S' : DS) (A' : List Pge), Live S' pages (c + 1) ∧ A'.length ≤ A.length + 1 ∧ pl.length ≤ 1008 ∧
      (Calls Tryz.prog 12 #[.pointer (some ⟨i.p, 0, none⟩), .int .u32 (N : Int)] w fun e w' => ∃ a l cc, e = .returned (.tuple #[.int .u8 (K : Int), .slice a l cc, .int .u16 (E : Int)]) ∧ Sw i w0 w' S' A' S A n (Bes X (Fb (.slice a l cc) pl))) ∧
      ∀ W Y, Sw i w0 W S' A' S A n Y → Calls Tryz.prog 13 #[.pointer (some ⟨i.p2, 0, none⟩), .int .u32 (N : Int)] W fun e w' => ∃ a l cc, e = .returned (.tuple #[.int .u8 (K : Int), .slice a l cc, .int .u16 (E : Int)]) ∧ (Sl w' (.slice a l cc) pl ∧ Byts pl) ∧ Sw i w0 w' S' A' S' A' n Y := by
  obtain ⟨O1, hp, _, hgo⟩ := h.give
  have hpg := hl.pg
  have hn1 := hl.n1
  have hmo := hp.mo
  by_cases hr : N < pages
  · by_cases hx : N ∈ A.map Pge.n
    · obtain ⟨x, hxA, rfl⟩ := List.mem_map.1 hx
      have hx2 := hmo.2.2.2.2 x hxA
      refine ⟨x.k, 0, x.pl, S, wo A x.n ++ [x], hl.mono (by omega), by rw [List.length_append, List.length_singleton]; have := wo_len A x.n; omega, hx2.2.2.1, (read_hand x hN hp (by omega) hxA).mono ?_, fun W Y hW => ?_⟩
      · rintro e w' ⟨v, OO', rfl, f1, f2, f3⟩
        obtain ⟨a, l, cc, rfl⟩ := fresh_shape f1
        exact ⟨a, l, cc, rfl, hgo f2 f3 f1⟩
      · obtain ⟨Oq, q1, _, q2⟩ := hW.rr
        refine (qread_hand x hN q1 (by omega) (by omega) hxA).mono ?_
        rintro e w' ⟨a, l, cc, O', rfl, f1, f2, f3⟩
        exact ⟨a, l, cc, rfl, f1, q2 f2 f3⟩
    · by_cases he : S.er S.s1 S.l1 = 0
      · cases hR : Pg.opn N (rd S (8 * N) 8) with
        | none =>
          refine ⟨0, 100, [], S.op1, A, hl.op1, by omega, by simp, (read_disk N hN hp (by omega) hx (by omega) he).mono ?_, fun W Y hW => ?_⟩
          · rintro e w' ⟨f0, -⟩
            obtain ⟨OO', rfl, f2, f3⟩ := f0 hR
            exact ⟨_, _, _, rfl, hgo f2 f3 (Fresh.nil _ _ _)⟩
          · obtain ⟨Oq, q1, _, q2⟩ := hW.rr
            refine (qread_disk N hN q1 (by omega) (by omega) hx (by omega) he none hR).mono ?_
            rintro e w' ⟨f0, -⟩
            obtain ⟨O', rfl, f2, f3⟩ := f0 rfl
            exact ⟨_, _, _, rfl, ⟨Own.nil _, by intro c hc; simp at hc⟩, q2 f2 f3⟩
        | some kp =>
          obtain ⟨k, pl⟩ := kp
          have hop := Pg.opn_some hR
          refine ⟨k, 0, pl, S.op1, inn i.most A ⟨N, k, pl⟩, hl.op1, inn_len _ _ _, hop.2.2.1, (read_disk N hN hp (by omega) hx (by omega) he).mono ?_, fun W Y hW => ?_⟩
          · rintro e w' ⟨-, f0⟩
            obtain ⟨v, OO', rfl, f1, f2, f3⟩ := f0 k pl hR
            obtain ⟨a, l, cc, rfl⟩ := fresh_shape f1
            exact ⟨a, l, cc, rfl, hgo f2 f3 f1⟩
          · obtain ⟨Oq, q1, _, q2⟩ := hW.rr
            refine (qread_disk N hN q1 (by omega) (by omega) hx (by omega) he (some (k, pl)) hR).mono ?_
            rintro e w' ⟨-, f0⟩
            obtain ⟨a, l, cc, O', rfl, f1, f2, f3⟩ := f0 k pl rfl
            exact ⟨a, l, cc, rfl, f1, q2 f2 f3⟩
      · refine ⟨0, S.er S.s1 S.l1, [], S.op1, A, hl.op1, by omega, by simp, (read_io N hN hp (by omega) hx (by omega) he).mono ?_, fun W Y hW => ?_⟩
        · rintro e w' ⟨OO', rfl, f2, f3⟩
          rw [hl.be] at f2
          exact ⟨_, _, _, rfl, hgo f2 f3 (Fresh.nil _ _ _)⟩
        · obtain ⟨Oq, q1, _, q2⟩ := hW.rr
          refine (qread_io N hN q1 (by omega) hx (by omega) he).mono ?_
          rintro e w' ⟨O', rfl, f2, f3⟩
          rw [hl.be] at f2
          exact ⟨_, _, _, rfl, ⟨Own.nil _, by intro c hc; simp at hc⟩, q2 f2 f3⟩
  · refine ⟨0, 2, [], S, A, hl.mono (by omega), by omega, by simp, (read_off N hN hp (by omega)).mono ?_, fun W Y hW => ?_⟩
    · rintro e w' ⟨rfl, hb⟩
      exact ⟨_, _, _, rfl, hgo (hp.below hb) (Go1.of_below hb) (Fresh.nil _ _ _)⟩
    · obtain ⟨Oq, q1, _, q2⟩ := hW.rr
      refine (qread_off N hN q1 (by omega)).mono ?_
      rintro e w' ⟨rfl, rfl⟩
      exact ⟨_, _, _, rfl, ⟨Own.nil _, by intro c hc; simp at hc⟩, hW⟩
/-- the program's pool, apart from what more there is. -/
theorem Sw.xx2 (h : Sw i w0 w S A S2 A2 n X) : ∃ O1 OX, Pl w i.p i.d i.q S i.most A O1 ∧ X w OX ∧ (∀ k, OX k → ¬ O1 k) ∧ (∀ k, O1 k → w0.heap.size ≤ k) ∧ ∀ {w' : World} {S' : DS} {A' : List Pge} {O1' : Nat → Prop}, Pl w' i.p i.d i.q S' i.most A' O1' → Go1 O1 w O1' w' → Sw i w0 w' S' A' S2 A2 n X := by
  obtain ⟨hX, O, h1, h2, h3⟩ := h
  obtain ⟨Oa, Oz, e1, e2, e3, e4⟩ := h1
  have h1' : Bes (Bes (Xp i.p i.d i.q S i.most A) (Rp i.p2 i.r S2 i.most A2)) (Bes (Kb i.bq n) X) w O := ⟨Oa, Oz, e1, e2, e3, e4⟩
  obtain ⟨Ok, OX, b1, b2, b3, b4⟩ := e2
  obtain ⟨Ox, Or, a1, a2, a3, a4⟩ := e1
  refine ⟨Ox, OX, a1, b2, fun k hk hx => e3 k ((a4 k).2 (.inl hx)) ((b4 k).2 (.inr hk)), fun k hk => h2 k ((e4 k).2 (.inl ((a4 k).2 (.inl hk)))), fun {w' S' A' O1'} hx hg => ?_⟩
  have kr : ∀ k, Or k → ¬ Ox k := fun k hk hx => a3 k hx hk
  have kz : ∀ k, Oz k → ¬ Ox k := fun k hk hx => e3 k ((a4 k).2 (.inl hx)) hk
  have gz : Good (Bes (Kb i.bq n) X) := Bes.good goodK hX
  have tz : Bes (Kb i.bq n) X w Oz := ⟨Ok, OX, b1, b2, b3, b4⟩
  refine ⟨hX, fun k => (O1' k ∨ Or k) ∨ Oz k, ⟨_, Oz, ⟨O1', Or, hx, goodR.other a2 hg.mv kr, fun k hk hr => ?_, fun k => Iff.rfl⟩, gz.other tz hg.mv kz, fun k hk hz => ?_, fun k => Iff.rfl⟩, fun k hk => ?_, ?_⟩
  · rcases hg.own k hk with h | h
    · exact kr k hr h
    · have := goodR.lt a2 hr; omega
  · rcases hk with hk | hk
    · rcases hg.own k hk with h | h
      · exact kz k hz h
      · have := gz.lt tz hz; omega
    · exact e3 k ((a4 k).2 (.inr hk)) hz
  · rcases hk with (hk | hk) | hk
    · rcases hg.own k hk with h | h
      · exact h2 k ((e4 k).2 (.inl ((a4 k).2 (.inl h))))
      · exact Nat.le_trans h3.size h
    · exact h2 k ((e4 k).2 (.inl ((a4 k).2 (.inr hk))))
    · exact h2 k ((e4 k).2 (.inr hk))
  · exact h3.trans (hg.mv.below h3.size (fun k hk => h2 k ((e4 k).2 (.inl ((a4 k).2 (.inl hk))))))
/-- bytes that were lent. -/
abbrev Ln (g l : Nat) (zs : List Int) : Th := Fb (.slice (some ⟨g, 0, none⟩) (l + 2) (l + 2)) (zs ++ [91, 92])
theorem lent_row {g l : Nat} {zs : List Int} (h : Own w (.slice (some ⟨g, 0, none⟩) (l + 2) (l + 2)) (zs ++ [91, 92])) : Row w (some ⟨g, 0, none⟩) (zs ++ [91, 92]) := by
  obtain ⟨a, c, e, _, _, _, hr, _⟩ := h.shape
  have ha : a = some ⟨g, 0, none⟩ := by injection e with h1; exact h1.symm
  subst ha
  exact hr
/-- Write of both. -/
theorem sw_write {g : Nat} {zs : List Int} {l : Nat} (h : Sw i w0 w S A S A n (Bes X (Ln g l zs))) (hl : Live S pages c) (hc : c ≤ 5000) (hA : A.length ≤ 1000) (N k : Nat) (hN : N < 4294967296) (a : Option Addr) (cap : Nat) (hin : Inn w0 a l cap zs) :
    ∃ (E : Nat) (S' : DS) (A' : List Pge), Live S' pages (c + 1) ∧ A'.length ≤ A.length + 1 ∧
      (Calls Tryz.prog 17 #[.pointer (some ⟨i.p, 0, none⟩), .int .u32 (N : Int), .int .u8 (k : Int), .slice (some ⟨g, 0, none⟩) l (l + 2)] w fun e w' => e = .returned (.int .u16 (E : Int)) ∧ Sw i w0 w' S' A' S A n (Bes X (Ln g l zs))) ∧
      ∀ W Y, Sw i w0 W S' A' S A n Y → Calls Tryz.prog 20 #[.pointer (some ⟨i.p2, 0, none⟩), .int .u32 (N : Int), .int .u8 (k : Int), .slice a l cap] W fun e w' => e = .returned (.int .u16 (E : Int)) ∧ Sw i w0 w' S' A' S' A' n Y := by
  have hpg := hl.pg
  have hn2 := hl.n2
  have hws := hl.ws
  have h8 := hin.byts
  have hzl := hin.len
  by_cases hk : 1 ≤ k ∧ k ≤ 4 ∧ l ≤ 1008
  · obtain ⟨O1, OX, hp, ⟨Oz, Og, z1, ⟨z2, z3⟩, z4, z5⟩, hap, hlo, hgo⟩ := h.xx2
    have hrow := Le.row_left (lent_row z2)
    have hag : ¬ O1 g := hap g ((z5 g).2 (.inr ((z3 g).2 rfl)))
    by_cases hr : N < pages
    · have hwr : S.wr N (Pg.pg k N zs) 8 = if S.er S.s2 S.l2 = 0 then S.op2.adds (8 * N) (Pg.pg k N zs) 8 else S.op2 := by
        unfold DS.wr
        rw [hl.be]
      refine ⟨S.er S.s2 S.l2, S.wr N (Pg.pg k N zs) 8, if S.er S.s2 S.l2 = 0 then inn i.most (wo A N) ⟨N, k, zs⟩ else wo A N, ?_, ?_, (write_disk N k (some ⟨g, 0, none⟩) l (l + 2) zs hN hp hk.1 hk.2.1 hk.2.2 hzl (by intro h; cases h) hrow h8 (fun _ ad e => by cases e; exact hag) (by omega) (by rw [hl.len]; omega) (by omega) (by omega)).mono ?_, fun W Y hW => ?_⟩
      · rw [hwr]
        split
        · exact hl.wr _ _
        · exact hl.op2
      · have h1 := wo_len A N
        split
        · have := inn_len (wo A N) i.most ⟨N, k, zs⟩; omega
        · omega
      · rintro e w' ⟨rfl, OO', f2, f3⟩
        exact ⟨rfl, hgo f2 f3⟩
      · obtain ⟨Oq, q1, qlo, q2⟩ := hW.rr
        have hin' := hin.below hW.bel
        refine (qwrite_disk N k a l cap zs hN q1 (by omega) hk.1 hk.2.1 hk.2.2 hzl hin'.bare hin'.row h8 (fun h0 ad e hq => ?_) (by omega) (by omega) (by omega)).mono ?_
        · have h1 := qlo _ hq
          rcases hin.row with h2 | ⟨b, off, h2, h3, _⟩
          · exact h0 h2
          · rw [e] at h2
            cases h2
            simp only [] at h1
            omega
        · rintro e w' ⟨rfl, O', f2, f3⟩
          exact ⟨rfl, q2 f2 f3⟩
    · refine ⟨2, S, A, hl.mono (by omega), by omega, (write_off N k (some ⟨g, 0, none⟩) l (l + 2) zs hN hp hk.1 hk.2.1 hk.2.2 hzl (by intro h; cases h) hrow h8 (by omega)).mono ?_, fun W Y hW => ?_⟩
      · rintro e w' ⟨rfl, hb⟩
        exact ⟨rfl, h.on hb⟩
      · obtain ⟨Oq, q1, qlo, q2⟩ := hW.rr
        have hin' := hin.below hW.bel
        refine (qwrite_off N k a l cap zs hN q1 hk.1 hk.2.1 hk.2.2 hzl hin'.bare hin'.row h8 (by omega)).mono ?_
        rintro e w' ⟨rfl, hb⟩
        exact ⟨rfl, hW.on hb⟩
  · refine ⟨80, S, A, hl.mono (by omega), by omega, (write_bad N k _ l _ w _ hk).mono ?_, fun W Y hW => (qwrite_bad N k a l cap _ hk).mono ?_⟩
    · rintro e w' ⟨rfl, hb⟩
      exact ⟨rfl, h.on hb⟩
    · rintro e w' ⟨rfl, rfl⟩
      exact ⟨rfl, hW⟩
theorem grown_mv {w w' : World} {r : Option Nat} (h : w.grownBy w' r) : Mv (fun k => some k = r) w w' := ⟨h.os, h.tape, h.output, h.size, h.block⟩
/-- bytes are lent. -/
theorem sw_lent (h : Sw i w0 w S A S2 A2 n X) (a : Option Addr) (l cap : Nat) (zs : List Int) (hin : Inn w0 a l cap zs) (hb : l ≤ 200000) :
    Calls Tryz.prog 16 #[.slice a l cap] w fun e w' => ∃ g, e = .returned (.slice (some ⟨g, 0, none⟩) l (l + 2)) ∧ Sw i w0 w' S A S2 A2 n (Bes X (Ln g l zs)) := by
  have hi := hin.below h.bel
  refine (Le.lent_any a l cap zs w hi.len (by omega) hi.bare hi.row).mono ?_
  rintro e w' ⟨rfl, h1, h2⟩
  exact ⟨_, rfl, h.more goodFb h2 (O1 := fun k => (Value.slice (some ⟨w.heap.size, 0, none⟩) (l + 2) (l + 2)).ownBlock = some k) ⟨h1, fun k => Iff.rfl⟩ (fun k hk => by simp [Value.ownBlock] at hk; omega)⟩
theorem sw_whole {g l : Nat} {zs : List Int} (h : Sw i w0 w S A S2 A2 n (Bes X (Ln g l zs))) (a : Option Addr) (cap : Nat) (hin : Inn w0 a l cap zs) (hb : l ≤ 200000) :
    Calls Tryz.prog 18 #[.slice (some ⟨g, 0, none⟩) l (l + 2), .slice a l cap] w fun e w' => e = .returned (.bool true) ∧ Sw i w0 w' S A S2 A2 n (Bes X (Ln g l zs)) := by
  obtain ⟨OX, ⟨Oz, Og, z1, ⟨z2, z3⟩, z4, z5⟩, _, _⟩ := h.yy
  have hi := hin.below h.bel
  refine (Le.whole_any g a l cap zs w hi.len (by omega) (lent_row z2) hi.row).mono ?_
  rintro e w' ⟨rfl, hb⟩
  exact ⟨rfl, h.on hb⟩
theorem sw_spoil {g l : Nat} {zs : List Int} (hX : Good X) (h : Sw i w0 w S A S2 A2 n (Bes X (Ln g l zs))) (hb : l ≤ 200000) :
    Calls Tryz.prog 19 #[.slice (some ⟨g, 0, none⟩) l (l + 2)] w fun e w' => e = .returned (.tuple #[]) ∧ Sw i w0 w' S A S2 A2 n X := by
  obtain ⟨OX, ⟨Oz, Og, z1, ⟨z2, z3⟩, z4, z5⟩, _, hgo⟩ := h.yy
  refine (Le.spoil_any g l (l + 2) w (Le.own_blk z2) (by omega) (by omega)).mono ?_
  rintro e w' ⟨rfl, hg⟩
  have hm : Mv OX w w' := ⟨hg.os, hg.tape, hg.output, hg.size, fun k hk hn => hg.block k hk (fun e => hn ((z5 k).2 (.inr ((z3 k).2 (by rw [show (Value.slice (some ⟨g, 0, none⟩) (l + 2) (l + 2)).ownBlock = some g from rfl]; exact e.symm)))))⟩
  refine ⟨rfl, hgo (O1' := Oz) hX (hX.other z1 (grown_mv hg) ?_) ⟨hm, fun k hk => .inl ((z5 k).2 (.inl hk))⟩⟩
  intro k hk e
  exact z4 k hk ((z3 k).2 e.symm)
end Go.Proofs.YtobokocpapfjbaaGreat
