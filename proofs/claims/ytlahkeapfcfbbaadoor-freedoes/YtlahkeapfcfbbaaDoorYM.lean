/- Two lists side by side, the program's and the document's, with a book and an elder pair: each call, told of all of them. -/
import Derived.Test.YtlahkeapfcfbbaaDoorYI
import Derived.Test.YtlahkeapfcfbbaaDoorYL
import Derived.Test.YtlahkeapfcfbbaaDoorGY
import Derived.Test.YtlahkeapfcfbbaaDoorKN
import Derived.Test.YtlahkeapfcfbbaaDoorAC
namespace Go.Proofs.YtlahkeapfcfbbaaDoor
open Go.RowKit Go.Maps
set_option linter.unusedVariables false

/-- something that owns blocks. -/
abbrev Th := World → (Nat → Prop) → Prop
structure Good (P : Th) : Prop where
  lt : ∀ {w : World} {O : Nat → Prop} {k : Nat}, P w O → O k → k < w.heap.size
  stays : ∀ {w w' : World} {O : Nat → Prop}, P w O → (∀ k, O k → w'.heap[k]? = w.heap[k]?) → P w' O
/-- two things side by side. -/
def Bes (P Q : Th) : Th := fun w O => ∃ O1 O2, P w O1 ∧ Q w O2 ∧ (∀ k, O1 k → ¬ O2 k) ∧ ∀ k, O k ↔ O1 k ∨ O2 k
variable {P Q P' Q' : Th} {w0 w w' w1 w2 : World} {O O' O1 : Nat → Prop}
theorem Bes.good (hp : Good P) (hq : Good Q) : Good (Bes P Q) where
  lt := fun ⟨O1, O2, h1, h2, h3, h4⟩ hk => ((h4 _).1 hk).elim (hp.lt h1) (hq.lt h2)
  stays := fun ⟨O1, O2, h1, h2, h3, h4⟩ hm => ⟨O1, O2, hp.stays h1 fun k hk => hm k ((h4 k).2 (.inl hk)), hq.stays h2 fun k hk => hm k ((h4 k).2 (.inr hk)), h3, h4⟩
theorem Bes.swap (h : Bes P Q w O) : Bes Q P w O := by
  obtain ⟨O1, O2, h1, h2, h3, h4⟩ := h
  exact ⟨O2, O1, h2, h1, fun k hk hk2 => h3 k hk2 hk, fun k => (h4 k).trans Or.comm⟩
theorem Bes.left (hq : Good Q) (h : Bes P Q w O) : ∃ O1, P w O1 ∧ (∀ k, O1 k → O k) ∧ ∀ {P' : Th} {w' : World} {O1' : Nat → Prop}, P' w' O1' → Go1 O1 w O1' w' → ∃ O', Bes P' Q w' O' ∧ Go1 O w O' w' := by
  obtain ⟨O1, O2, h1, h2, h3, h4⟩ := h
  refine ⟨O1, h1, fun k hk => (h4 k).2 (.inl hk), fun {P' w' O1'} hp' hg => ⟨fun k => O1' k ∨ O2 k, ⟨O1', O2, hp', hq.stays h2 fun k hk => hg.mv.block k (hq.lt h2 hk) (fun ho => h3 k ho hk), fun k hk hk2 => ?_, fun k => Iff.rfl⟩, ⟨hg.mv.mono fun k hk => (h4 k).2 (.inl hk), fun k hk => ?_⟩⟩⟩
  · rcases hg.own k hk with h | h
    · exact h3 k h hk2
    · have := hq.lt h2 hk2; omega
  · rcases hk with hk | hk
    · exact (hg.own k hk).imp (fun h => (h4 k).2 (.inl h)) id
    · exact .inl ((h4 k).2 (.inr hk))
theorem Bes.right (hp : Good P) (h : Bes P Q w O) : ∃ O1, Q w O1 ∧ (∀ k, O1 k → O k) ∧ ∀ {Q' : Th} {w' : World} {O1' : Nat → Prop}, Q' w' O1' → Go1 O1 w O1' w' → ∃ O', Bes P Q' w' O' ∧ Go1 O w O' w' := by
  obtain ⟨O1, h1, h2, h3⟩ := h.swap.left hp
  refine ⟨O1, h1, h2, fun {Q' w' O1'} hq hg => ?_⟩
  obtain ⟨O', h4, h5⟩ := h3 hq hg
  exact ⟨O', h4.swap, h5⟩

variable {l r q n : Nat} {M L : List Pg} {el wa : Value}
/-- the program's list. -/
def Xp (l : Nat) (M : List Pg) : Th := fun w O => LsAt w l M O
/-- the document's list. -/
def Rp (r : Nat) (L : List Pg) : Th := fun w O => RlAt w r L O
theorem goodX : Good (Xp l M) := ⟨fun h hk => LsAt.lt h hk, fun h hm => LsAt.stays h hm⟩
theorem goodR : Good (Rp r L) where
  lt := fun ⟨v, h1, h2⟩ hk => by
    rcases (h2 _).1 hk with rfl | h
    · exact lt_of_block h1.blk
    · exact (World.ownsRow.lt h1.row _ h).2
  stays := fun ⟨v, h1, h2⟩ hm => ⟨v, h1.keep (hm _ ((h2 _).2 (.inl rfl))) fun k hk => hm k ((h2 k).2 (.inr hk)), h2⟩
/-- a book with so many rows of words. -/
def Kb (q n : Nat) : Th := fun w O => ∃ f v A C Z, Bo.Bk w q f ∧ f 5 = v ∧ (∀ j, j ≠ 5 → f j = .slice none 0 0) ∧ Bo.Fam .u32 56 65 w v n A C Z ∧ (∀ i, i < n → (Z i).length ≤ 1000) ∧ ∀ k, O k ↔ k = q ∨ (Bo.blks v k ∨ Bo.rft n A k)
theorem goodK : Good (Kb q n) where
  lt := fun ⟨f, v, A, C, Z, h1, h2, h3, h4, h5, h6⟩ hk => by
    rcases (h6 _).1 hk with rfl | h
    · exact h1.lt
    · exact h4.lt _ h
  stays := fun ⟨f, v, A, C, Z, h1, h2, h3, h4, h5, h6⟩ hm => ⟨f, v, A, C, Z, h1.of_block (hm _ ((h6 _).2 (.inl rfl))), h2, h3, h4.of_block (fun k hk => hm k ((h6 k).2 (.inr hk))), h5, h6⟩
def ptr (l : Nat) : Value := .pointer (some ⟨l, 0, none⟩)
/-- an elder pair, or none. -/
def Ep (el wa : Value) : Th := fun w O => (el = .pointer none ∧ wa = .pointer none ∧ ∀ k, ¬ O k) ∨ ∃ l r M L, el = ptr l ∧ wa = ptr r ∧ Rel M L ∧ M.length ≤ 300 ∧ Bes (Xp l M) (Rp r L) w O
theorem goodE : Good (Ep el wa) where
  lt := fun h hk => by
    rcases h with ⟨_, _, h⟩ | ⟨l, r, M, L, _, _, _, _, h⟩
    · exact absurd hk (h _)
    · exact (Bes.good goodX goodR).lt h hk
  stays := fun h hm => by
    rcases h with h | ⟨l, r, M, L, h1, h2, h3, h4, h⟩
    · exact .inl h
    · exact .inr ⟨l, r, M, L, h1, h2, h3, h4, (Bes.good goodX goodR).stays h hm⟩
/-- nothing. -/
def Emp : Th := fun _ O => ∀ k, ¬ O k
theorem goodEmp : Good Emp := ⟨fun h hk => absurd hk (h _), fun h _ => h⟩
/-- a box. -/
def Bx (b : Nat) (o : Obj) : Th := fun w O => w.heap[b]? = some o ∧ ∀ k, O k ↔ k = b
theorem goodBx {b : Nat} {o : Obj} : Good (Bx b o) := ⟨fun h hk => by rw [(h.2 _).1 hk]; exact lt_of_block h.1, fun h hm => ⟨(hm _ ((h.2 _).2 rfl)).trans h.1, h.2⟩⟩
/-- all of it. -/
def St (w0 w : World) (l r q n : Nat) (M L : List Pg) (el wa : Value) (X : Th) : Prop :=
  Good X ∧ ∃ O, Bes (Bes (Xp l M) (Rp r L)) (Bes (Kb q n) (Bes (Ep el wa) X)) w O ∧ (∀ k, O k → w0.heap.size ≤ k) ∧ Below w0.heap.size w0 w
variable {X : Th}
theorem goodS (hX : Good X) : Good (Bes (Bes (Xp l M) (Rp r L)) (Bes (Kb q n) (Bes (Ep el wa) X))) := Bes.good (Bes.good goodX goodR) (Bes.good goodK (Bes.good goodE hX))
theorem St.bel (h : St w0 w l r q n M L el wa X) : Below w0.heap.size w0 w := by obtain ⟨_, O, _, _, h⟩ := h; exact h
theorem St.on (h : St w0 w l r q n M L el wa X) (hb : Below w.heap.size w w') : St w0 w' l r q n M L el wa X := by
  obtain ⟨hX, O, h1, h2, h3⟩ := h
  exact ⟨hX, O, (goodS hX).stays h1 (fun k hk => hb.block k ((goodS hX).lt h1 hk)), h2, h3.trans (hb.mono h3.size)⟩
theorem St.same (h : St w0 w l r q n M L el wa X) (hb : Same w w') : St w0 w' l r q n M L el wa X := h.on hb.below
theorem go_st (h2 : ∀ k, O k → w0.heap.size ≤ k) (h3 : Below w0.heap.size w0 w) (hg : Go1 O w O' w') : (∀ k, O' k → w0.heap.size ≤ k) ∧ Below w0.heap.size w0 w' :=
  ⟨fun k hk => (hg.own k hk).elim (h2 k) (fun h => Nat.le_trans h3.size h), h3.trans (hg.mv.below h3.size h2)⟩
theorem St.xx (h : St w0 w l r q n M L el wa X) : ∃ O1, LsAt w l M O1 ∧ ∀ {w' : World} {M' : List Pg} {O1' : Nat → Prop}, LsAt w' l M' O1' → Go1 O1 w O1' w' → St w0 w' l r q n M' L el wa X := by
  obtain ⟨hX, O, h1, h2, h3⟩ := h
  obtain ⟨Oa, a1, a2, a3⟩ := h1.left (Bes.good goodK (Bes.good goodE hX))
  obtain ⟨Ob, b1, b2, b3⟩ := a1.left goodR
  refine ⟨Ob, b1, fun {w' M' O1'} hx hg => ?_⟩
  obtain ⟨Oc, c1, c2⟩ := b3 (P' := Xp l M') hx hg
  obtain ⟨Od, d1, d2⟩ := a3 c1 c2
  exact ⟨hX, Od, d1, go_st h2 h3 d2⟩
theorem St.rr (h : St w0 w l r q n M L el wa X) : ∃ O1, RlAt w r L O1 ∧ ∀ {w' : World} {L' : List Pg} {O1' : Nat → Prop}, RlAt w' r L' O1' → Go1 O1 w O1' w' → St w0 w' l r q n M L' el wa X := by
  obtain ⟨hX, O, h1, h2, h3⟩ := h
  obtain ⟨Oa, a1, a2, a3⟩ := h1.left (Bes.good goodK (Bes.good goodE hX))
  obtain ⟨Ob, b1, b2, b3⟩ := a1.right goodX
  refine ⟨Ob, b1, fun {w' L' O1'} hx hg => ?_⟩
  obtain ⟨Oc, c1, c2⟩ := b3 (Q' := Rp r L') hx hg
  obtain ⟨Od, d1, d2⟩ := a3 c1 c2
  exact ⟨hX, Od, d1, go_st h2 h3 d2⟩
theorem St.kk (h : St w0 w l r q n M L el wa X) : ∃ O1, Kb q n w O1 ∧ (∀ k, O1 k → w0.heap.size ≤ k) ∧ ∀ {w' : World} {n' : Nat} {O1' : Nat → Prop}, Kb q n' w' O1' → Go1 O1 w O1' w' → St w0 w' l r q n' M L el wa X := by
  obtain ⟨hX, O, h1, h2, h3⟩ := h
  obtain ⟨Oa, a1, a2, a3⟩ := h1.right (Bes.good goodX goodR)
  obtain ⟨Ob, b1, b2, b3⟩ := a1.left (Bes.good goodE hX)
  refine ⟨Ob, b1, fun k hk => h2 k (a2 k (b2 k hk)), fun {w' n' O1'} hx hg => ?_⟩
  obtain ⟨Oc, c1, c2⟩ := b3 (P' := Kb q n') hx hg
  obtain ⟨Od, d1, d2⟩ := a3 c1 c2
  exact ⟨hX, Od, d1, go_st h2 h3 d2⟩
theorem St.ee (h : St w0 w l r q n M L el wa X) : (el = .pointer none ∧ wa = .pointer none) ∨ ∃ l' r' M' L' O1 v, el = ptr l' ∧ wa = ptr r' ∧ Rel M' L' ∧ M'.length ≤ 300 ∧ LsAt w l' M' O1 ∧ Rl w r' v L' := by
  obtain ⟨hX, O, ⟨_, _, _, ⟨_, _, _, ⟨_, _, h1, _⟩, _⟩, _⟩, h2, h3⟩ := h
  rcases h1 with ⟨e1, e2, _⟩ | ⟨l', r', M', L', e1, e2, e3, e4, Oa, Ob, b1, ⟨v, b2, _⟩, _⟩
  · exact .inl ⟨e1, e2⟩
  · exact .inr ⟨l', r', M', L', Oa, v, e1, e2, e3, e4, b1, b2⟩
/-- the box. -/
theorem St.bx {b : Nat} {o : Obj} (h : St w0 w l r q n M L el wa (Bx b o)) : w.heap[b]? = some o := by
  obtain ⟨hX, O, ⟨_, _, _, ⟨_, _, _, ⟨_, _, _, h1, _⟩, _⟩, _⟩, h2, h3⟩ := h
  exact h1.1
/-- a box is laid. -/
theorem St.box (h : St w0 w l r q n M L el wa X) (o : Obj) : St w0 (w.alloc o) l r q n M L el wa (Bx w.heap.size o) := by
  obtain ⟨hX, O, h1, h2, h3⟩ := h
  obtain ⟨Oa, a1, a2, a3⟩ := h1.right (Bes.good goodX goodR)
  obtain ⟨Ob, b1, b2, b3⟩ := a1.right goodK
  obtain ⟨Oc, c1, c2, c3⟩ := b1.right goodE
  obtain ⟨Od, d1, d2⟩ := c3 (Q' := Bx w.heap.size o) (w' := w.alloc o) (O1' := fun k => k = w.heap.size) ⟨heap_alloc_new w o, fun k => Iff.rfl⟩ ⟨Mv.of_below (below_alloc w o), fun k hk => .inr (by omega)⟩
  obtain ⟨Oe, e1, e2⟩ := b3 d1 d2
  obtain ⟨Of, f1, f2⟩ := a3 e1 e2
  exact ⟨goodBx, Of, f1, go_st h2 h3 f2⟩
/-- the box is left. -/
theorem St.out (h : St w0 w l r q n M L el wa X) : St w0 w l r q n M L el wa Emp := by
  obtain ⟨hX, O, h1, h2, h3⟩ := h
  obtain ⟨Oa, a1, a2, a3⟩ := h1.right (Bes.good goodX goodR)
  obtain ⟨Ob, b1, b2, b3⟩ := a1.right goodK
  obtain ⟨Oc, c1, c2, c3⟩ := b1.right goodE
  obtain ⟨Od, d1, d2⟩ := c3 (Q' := Emp) (w' := w) (O1' := fun k => False) (fun k => id) ⟨Mv.refl _ _, fun k hk => hk.elim⟩
  obtain ⟨Oe, e1, e2⟩ := b3 d1 d2
  obtain ⟨Of, f1, f2⟩ := a3 e1 e2
  exact ⟨goodEmp, Of, f1, go_st h2 h3 f2⟩
/-- at the beginning. -/
theorem st_new (h1 : LsAt w1 l [] O) (hb1 : Below w.heap.size w w1) (hO : ∀ k, O k → w.heap.size ≤ k) (hb2 : Below w1.heap.size w1 w2) {b : Obj} (hb : ∀ W : World, Bo.Bk (W.alloc b) W.heap.size Bo.nilf) :
    St w ((w2.alloc (.cells #[.slice none 0 0] 29)).alloc b) l w2.heap.size (w2.heap.size + 1) 0 [] [] (.pointer none) (.pointer none) Emp := by
  have hs : (w2.alloc (.cells #[.slice none 0 0] 29)).heap.size = w2.heap.size + 1 := by simp
  have b3 : Below w2.heap.size w2 ((w2.alloc (.cells #[.slice none 0 0] 29)).alloc b) := (below_alloc w2 _).trans ((below_alloc _ b).mono (below_alloc w2 _).size)
  have hx : LsAt ((w2.alloc (.cells #[.slice none 0 0] 29)).alloc b) l [] O := (h1.below hb2).below b3
  have hlt : ∀ k, O k → k < w2.heap.size := fun k hk => Nat.lt_of_lt_of_le (h1.lt hk) hb2.size
  have hr : Rl ((w2.alloc (.cells #[.slice none 0 0] 29)).alloc b) w2.heap.size (.slice none 0 0) [] :=
    ⟨(Below.heap_alloc _ b _ (by rw [hs]; omega)).trans (heap_alloc_new w2 _), World.ownsRow_nil _ _ _ _⟩
  have hk := hb (w2.alloc (.cells #[.slice none 0 0] 29))
  rw [hs] at hk
  have hsz := hb1.size
  have hsz2 := hb2.size
  refine ⟨goodEmp, fun k => (O k ∨ k = w2.heap.size) ∨ (k = w2.heap.size + 1 ∨ False), ⟨_, _, ⟨O, fun k => k = w2.heap.size, hx, ⟨_, hr, fun k => by simp [Value.ownBlock]⟩, fun k hk e => by have := hlt k hk; omega, fun k => Iff.rfl⟩, ⟨fun k => k = w2.heap.size + 1, fun _ => False, ⟨Bo.nilf, .slice none 0 0, fun _ => none, fun _ => 0, fun _ => [], hk, rfl, fun _ _ => rfl, ⟨by decide, World.ownsRow_nil _ _ _ _, fun i hi => by omega, fun i j hi => by omega⟩, fun i hi => by omega, fun k => ?_⟩, ⟨fun _ => False, fun _ => False, .inl ⟨rfl, rfl, fun _ => id⟩, fun _ => id, fun _ _ => id, fun _ => ⟨fun h => .inl h, fun h => h.elim id False.elim⟩⟩, fun _ _ => id, fun k => Iff.rfl⟩, ?_, fun k => Iff.rfl⟩, ?_, (hb1.trans (hb2.mono hb1.size)).trans (b3.mono (Nat.le_trans hsz hsz2))⟩
  · simp [Bo.blks, Value.ownBlock, Bo.rft]
  · rintro k (hk | hk) (hk2 | hk2)
    · have := hlt k hk; omega
    · exact hk2
    · omega
    · exact hk2
  · rintro k ((hk | hk) | (hk | hk))
    · exact hO k hk
    · omega
    · omega
    · exact hk.elim
/-- a list goes on as its clone. -/
theorem St.clone {l' r' : Nat} {v2 : Value} {O1 : Nat → Prop} (h : St w0 w l r q n M L el wa X) (hrel : Rel M L) (hm : M.length ≤ 300) (h1 : Below w.heap.size w w1) (x1 : LsAt w1 l' M O1) (x2 : ∀ k, O1 k → w.heap.size ≤ k)
    (h2 : Below w1.heap.size w1 w2) (y1 : Rl w2 r' v2 L) (y0 : w1.heap.size ≤ r') (y2 : ∀ k, v2.ownBlock = some k → w1.heap.size ≤ k) : St w0 w2 l' r' q n M L (ptr l) (ptr r) Emp := by
  have h12 : Below w.heap.size w w2 := h1.trans (h2.mono h1.size)
  have hs := h1.size
  obtain ⟨hX, O, ⟨Oa, Ob, a1, ⟨Oc, Od, c1, d1, cd, bcd⟩, ab, oab⟩, h4, h5⟩ := h
  have la : ∀ k, Oa k → k < w.heap.size := fun k hk => (Bes.good goodX goodR).lt a1 hk
  have lc : ∀ k, Oc k → k < w.heap.size := fun k hk => goodK.lt c1 hk
  have a2 := (Bes.good goodX goodR).stays a1 (fun k hk => h12.block k (la k hk))
  have c2 := goodK.stays c1 (fun k hk => h12.block k (lc k hk))
  have x3 : LsAt w2 l' M O1 := x1.below h2
  have h5s := h5.size
  refine ⟨goodEmp, fun k => (O1 k ∨ (k = r' ∨ v2.ownBlock = some k)) ∨ (Oc k ∨ Oa k), ⟨_, _, ⟨O1, fun k => k = r' ∨ v2.ownBlock = some k, x3, ⟨v2, y1, fun k => Iff.rfl⟩, ?_, fun k => Iff.rfl⟩, ⟨Oc, Oa, c2, ⟨Oa, fun _ => False, .inr ⟨l, r, M, L, rfl, rfl, hrel, hm, a2⟩, fun _ => id, fun _ _ => id, fun _ => ⟨fun h => .inl h, fun h => h.elim id False.elim⟩⟩, ?_, fun k => Iff.rfl⟩, ?_, fun k => Iff.rfl⟩, ?_, h5.trans (h12.mono h5.size)⟩
  · intro k hk hk2
    have := x1.lt hk
    rcases hk2 with e | e
    · omega
    · have := y2 k e; omega
  · intro k hk hk2
    exact ab k hk2 ((bcd k).2 (.inl hk))
  · intro k hk hk2
    have hl : k < w.heap.size := hk2.elim (lc k) (la k)
    rcases hk with hk | (e | e)
    · have := x2 k hk; omega
    · omega
    · have := y2 k e; omega
  · rintro k ((hk | (e | e)) | (hk | hk))
    · exact Nat.le_trans h5s (x2 k hk)
    · omega
    · have := y2 k e; omega
    · exact h4 k ((oab k).2 (.inr ((bcd k).2 (.inl hk))))
    · exact h4 k ((oab k).2 (.inl hk))
end Go.Proofs.YtlahkeapfcfbbaaDoor
