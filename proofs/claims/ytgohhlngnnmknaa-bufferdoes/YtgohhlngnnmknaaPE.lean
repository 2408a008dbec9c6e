/- A buffer, the document's buffer and a book side by side, with what is lent. -/
import Derived.Test.YtgohhlngnnmknaaST
import Derived.Test.YtgohhlngnnmknaaQR
import Derived.Test.YtgohhlngnnmknaaDX
import Derived.Test.YtgohhlngnnmknaaPD
namespace Go.Proofs.Ytgohhlngnnmknaa
open Go.RowKit Go.Maps
set_option linter.unusedVariables false

def u8f (w : World) (k : Nat) : Prop := ∃ cs, w.heap[k]? = some (.cells cs 5 (0, 0))
theorem two_types {w : World} {k t t' : Nat} {c c' : Array Value} (h : w.heap[k]? = some (.cells c t (0, 0))) (h' : w.heap[k]? = some (.cells c' t' (0, 0))) : t = t' := by
  rw [h] at h'
  have := congrArg (fun o : Option Obj => match o with | some (.cells _ t _) => t | _ => 0) h'
  exact this
/-- types that none of the three writes. -/
def sfT (t : TypeId) : Prop := t = 5 ∨ t = 62 ∨ t = 74 ∨ t = 76
def sff (w : World) (k : Nat) : Prop := ∃ cs t, w.heap[k]? = some (.cells cs t (0, 0)) ∧ sfT t
theorem u8f.sf {w : World} {k : Nat} (h : u8f w k) : sff w k := h.elim fun cs hc => ⟨cs, _, hc, .inl rfl⟩
/-- what a step leaves: all that lies lower, and all of these types. -/
def Kx (B0 : Nat) (w w' : World) : Prop := Mv (fun j => B0 ≤ j ∧ ¬ sff w j) w w'
/-- what a put into the book leaves: changes too. -/
def Ky (B0 : Nat) (w w' : World) : Prop := Mv (fun j => B0 ≤ j ∧ ¬ (sff w j ∨ ∃ cs, w.heap[j]? = some (.cells cs 85 (0, 0)))) w w'
theorem Ky.x {B0 : Nat} {w w' : World} (h : Ky B0 w w') : Kx B0 w w' := h.mono fun j hj => ⟨hj.1, fun h => hj.2 (.inl h)⟩
theorem Ky.change {B0 : Nat} {w w' : World} (h : Ky B0 w w') {j : Nat} {cs : Array Value} (hj : w.heap[j]? = some (.cells cs 85 (0, 0))) : w'.heap[j]? = some (.cells cs 85 (0, 0)) := (h.block j (lt_of_block hj) fun h9 => h9.2 (.inr ⟨cs, hj⟩)).trans hj
theorem Kx.below {B0 : Nat} {w w' : World} (h : Kx B0 w w') (hB : B0 ≤ w.heap.size) : Below B0 w w' := ⟨h.os, h.tape, h.output, h.size, fun k hk => h.block k (by omega) (fun h9 => by omega)⟩
theorem Kx.of_below {B0 : Nat} {w w' : World} (h : Below w.heap.size w w') : Kx B0 w w' := Mv.of_below h
theorem Kx.refl (B0 : Nat) (w : World) : Kx B0 w w := Mv.refl _ w
theorem Kx.trans {B0 : Nat} {a b c : World} (h : Kx B0 a b) (k : Kx B0 b c) : Kx B0 a c := by
  refine ⟨k.os.trans h.os, k.tape.trans h.tape, k.output.trans h.output, Nat.le_trans h.size k.size, fun j hj hn => ?_⟩
  have h1 := h.block j hj hn
  refine (k.block j (Nat.lt_of_lt_of_le hj h.size) fun h9 => hn ⟨h9.1, fun ⟨cs, t, h8, h7⟩ => h9.2 ⟨cs, t, h1.trans h8, h7⟩⟩).trans h1
theorem Kx.keep {B0 : Nat} {w w' : World} (h : Kx B0 w w') {j : Nat} {cs : Array Value} {t : TypeId} (hj : w.heap[j]? = some (.cells cs t (0, 0))) (ht : sfT t) : w'.heap[j]? = some (.cells cs t (0, 0)) := (h.block j (lt_of_block hj) fun h9 => h9.2 ⟨cs, t, hj, ht⟩).trans hj
theorem Kx.u8 {B0 : Nat} {w w' : World} (h : Kx B0 w w') {j : Nat} {cs : Array Value} (hj : w.heap[j]? = some (.cells cs 5 (0, 0))) : w'.heap[j]? = some (.cells cs 5 (0, 0)) := h.keep hj (.inl rfl)
theorem Kx.own {B0 : Nat} {w w' : World} (h : Kx B0 w w') {v : Value} {zs : List Int} (ho : Own w v zs) : Own w' v zs := ho.of_block fun k hk => by
  obtain ⟨c, hc⟩ := ho.u8 hk
  exact (h.u8 hc).trans hc.symm
/-- bytes made since are written over. -/
theorem Kx.spoil {B0 g : Nat} {w w1 w' : World} (h : Kx B0 w w1) (hg : w1.grownBy w' (some g)) (hn : w.heap.size ≤ g) : Kx B0 w w' :=
  ⟨hg.os.trans h.os, hg.tape.trans h.tape, hg.output.trans h.output, Nat.le_trans h.size hg.size, fun j hj hn' => (hg.block j (Nat.lt_of_lt_of_le hj h.size) (fun e => by cases e; omega)).trans (h.block j hj hn')⟩
theorem Kx.en {B0 C : Nat} {w w' : World} (h : Kx B0 w w') {y : En} (ho : y.Own C w) : y.Own C w' := ho.of_block fun k hk => by
  obtain ⟨c, hc⟩ := ho.u8 hk
  exact (h.u8 hc).trans hc.symm
theorem St2.otyp {w : World} {p B n : Nat} {es : List Ee} {hs : List (List Ee)} {O E : Nat → Prop} (h : St2 w p B es n hs O E) {k : Nat} (hk : O k) : B ≤ k ∧ ∃ cs t, w.heap[k]? = some (.cells cs t (0, 0)) ∧ (t = 69 ∨ t = 85 ∨ t = 1) := by
  refine ⟨h.st.ge hk, ?_⟩
  obtain ⟨sv, uv, xs, us, hh, h1, h2, h3, h4, h5, h6, h7, h8⟩ := h
  rcases (h5 k).1 hk with rfl | e | e
  · exact ⟨_, _, h1.bf.blk, .inl rfl⟩
  · obtain ⟨_, _, c, hc⟩ := row_at h1.bf.said e
    exact ⟨c, _, hc, .inr (.inl rfl)⟩
  · obtain ⟨_, _, c, hc⟩ := row_at h1.bf.undo e
    exact ⟨c, _, hc, .inr (.inr rfl)⟩
theorem Rr.vtyp {w : World} {p : Nat} {v : Value} {ys : List En} (h : Rr w p v ys) {k : Nat} (hk : v.ownBlock = some k) : ∃ cs, w.heap[k]? = some (.cells cs 85 (0, 0)) := by
  rcases h.row.2 with ⟨rfl, _⟩ | ⟨g, o, cap, cur, rfl, hg, _⟩
  · simp [Value.ownBlock] at hk
  · simp [Value.ownBlock] at hk; subst hk; exact ⟨cur, hg⟩
namespace Bd
open Go.Proofs.Ytgohhlngnnmknaa.Bo
variable {w w' : World} {q : Nat} {f : Nat → Value} {n0 : Nat} {A0 : Nat → Option Addr} {C0 : Nat → Nat} {Z0 : Nat → List Int} {n1 : Nat} {A1 : Nat → Option Addr} {C1 : Nat → Nat} {Z1 : Nat → List Bp.Q4} {n2 : Nat} {A2 : Nat → Option Addr} {C2 : Nat → Nat} {Z2 : Nat → List Bc.Q4}
theorem Bb.typ (h : Bb w q f n0 A0 C0 Z0 n1 A1 C1 Z1 n2 A2 C2 Z2) {k : Nat} (hk : own q f n0 A0 n1 A1 n2 A2 k) : ∃ cs t, w.heap[k]? = some (.cells cs t (0, 0)) ∧ t ≠ 32 ∧ t ≠ 69 := by
  rcases hk with rfl | h1 | ⟨i, hi, h1⟩ | h1 | ⟨i, hi, h1⟩ | h1 | ⟨i, hi, h1⟩
  · exact ⟨_, _, h.bk, by decide, by decide⟩
  · obtain ⟨c, hc⟩ := Bc.own_typ h.byt.list h1; exact ⟨c, _, hc, by decide, by decide⟩
  · obtain ⟨c, hc⟩ := Bc.own_typ (h.byt.rows i hi) ((Bo.blks_rv _ _ _ _).2 h1); exact ⟨c, _, hc, by decide, by decide⟩
  · obtain ⟨c, hc⟩ := Bc.own_typ h.prs.list h1; exact ⟨c, _, hc, by decide, by decide⟩
  · obtain ⟨c, hc⟩ := Bc.own_typ (h.prs.rows i hi) ((Bp.blks_rv _ _ _ _).2 h1); exact ⟨c, _, hc, by decide, by decide⟩
  · obtain ⟨c, hc⟩ := Bc.own_typ h.chs.list h1; exact ⟨c, _, hc, by decide, by decide⟩
  · obtain ⟨c, hc⟩ := Bc.own_typ (h.chs.rows i hi) ((Bc.blks_rv _ _ _ _).2 h1); exact ⟨c, _, hc, by decide, by decide⟩
/-- the blocks that a put into the book writes. -/
theorem Bb.wtyp (h : Bb w q f n0 A0 C0 Z0 n1 A1 C1 Z1 n2 A2 C2 Z2) {k : Nat} (hk : k = q ∨ blks (f 0) k ∨ blks (f 13) k ∨ blks (f 14) k) : own q f n0 A0 n1 A1 n2 A2 k ∧ ∃ cs t, w.heap[k]? = some (.cells cs t (0, 0)) ∧ t ≠ 32 ∧ t ≠ 85 ∧ t ≠ 5 ∧ t ≠ 25 ∧ t ≠ 3 ∧ ¬ sfT t := by
  rcases hk with rfl | h1 | h1 | h1
  · exact ⟨.inl rfl, _, _, h.bk, by decide, by decide, by decide, by decide, by decide, by unfold sfT; decide⟩
  · obtain ⟨c, hc⟩ := Bc.own_typ h.byt.list h1; exact ⟨.inr (.inl h1), c, _, hc, by decide, by decide, by decide, by decide, by decide, by unfold sfT; decide⟩
  · obtain ⟨c, hc⟩ := Bc.own_typ h.prs.list h1; exact ⟨.inr (.inr (.inr (.inl h1))), c, _, hc, by decide, by decide, by decide, by decide, by decide, by unfold sfT; decide⟩
  · obtain ⟨c, hc⟩ := Bc.own_typ h.chs.list h1; exact ⟨.inr (.inr (.inr (.inr (.inr (.inl h1))))), c, _, hc, by decide, by decide, by decide, by decide, by decide, by unfold sfT; decide⟩
end Bd
/-- the three of them. -/
structure Dz (B0 : Nat) (X : Nat → Prop) (w : World) (p : Nat) (Lb : List Ee) (hs : List (List Ee)) (O E : Nat → Prop) (pr : Nat) (v : Value) (ys : List En) (q : Nat) (f : Nat → Value) (n0 : Nat) (A0 : Nat → Option Addr) (C0 : Nat → Nat) (Z0 : Nat → List Int) (n1 : Nat) (A1 : Nat → Option Addr) (C1 : Nat → Nat) (Z1 : Nat → List Bp.Q4) (n2 : Nat) (A2 : Nat → Option Addr) (C2 : Nat → Nat) (Z2 : Nat → List Bc.Q4) : Prop where
  b : St2 w p B0 (Lb.foldl put []) Lb.length hs O E
  r : Rr w pr v ys
  k : Bd.Bb w q f n0 A0 C0 Z0 n1 A1 C1 Z1 n2 A2 C2 Z2
  hh : ∀ j, j ≤ Lb.length → (hs ++ [Lb.foldl put []])[j]? = some ((Lb.take j).foldl put [])
  ov : ∀ j, O j → v.ownBlock ≠ some j
  ok : ∀ j, O j → ¬ Bd.own q f n0 A0 n1 A1 n2 A2 j
  vk : ∀ j, v.ownBlock = some j → ¬ Bd.own q f n0 A0 n1 A1 n2 A2 j
  lo : B0 ≤ pr ∧ (∀ j, v.ownBlock = some j → B0 ≤ j) ∧ (∀ j, Bd.own q f n0 A0 n1 A1 n2 A2 j → B0 ≤ j)
  xx : ∀ j, X j → j < w.heap.size ∧ u8f w j ∧ ¬ E j ∧ (∀ y ∈ ys, ¬ y.has j) ∧ ¬ Bd.own q f n0 A0 n1 A1 n2 A2 j
  z1 : ∀ i, i < n1 → (Z1 i).length ≤ 1000000
  z2 : ∀ i, i < n2 → (Z2 i).length ≤ 1000000
section
variable {B0 : Nat} {X : Nat → Prop} {w w' : World} {p : Nat} {Lb : List Ee} {hs : List (List Ee)} {O E : Nat → Prop} {pr : Nat} {v : Value} {ys : List En} {q : Nat} {f : Nat → Value} {n0 : Nat} {A0 : Nat → Option Addr} {C0 : Nat → Nat} {Z0 : Nat → List Int} {n1 : Nat} {A1 : Nat → Option Addr} {C1 : Nat → Nat} {Z1 : Nat → List Bp.Q4} {n2 : Nat} {A2 : Nat → Option Addr} {C2 : Nat → Nat} {Z2 : Nat → List Bc.Q4}
theorem Dz.base (h : Dz B0 X w p Lb hs O E pr v ys q f n0 A0 C0 Z0 n1 A1 C1 Z1 n2 A2 C2 Z2) : B0 ≤ w.heap.size := Nat.le_trans h.lo.1 (Nat.le_of_lt (lt_of_block h.r.blk))
theorem Dz.below (h : Dz B0 X w p Lb hs O E pr v ys q f n0 A0 C0 Z0 n1 A1 C1 Z1 n2 A2 C2 Z2) (hb : Below w.heap.size w w') : Dz B0 X w' p Lb hs O E pr v ys q f n0 A0 C0 Z0 n1 A1 C1 Z1 n2 A2 C2 Z2 :=
  ⟨h.b.below hb, h.r.below hb, h.k.below hb, h.hh, h.ov, h.ok, h.vk, h.lo, fun j hj => by
    obtain ⟨a1, ⟨cs, a2⟩, a3⟩ := h.xx j hj
    exact ⟨Nat.lt_of_lt_of_le a1 hb.size, ⟨cs, (hb.block j a1).trans a2⟩, a3⟩, h.z1, h.z2⟩
/-- bytes that were made since are lent. -/
theorem Dz.lend (h : Dz B0 X w p Lb hs O E pr v ys q f n0 A0 C0 Z0 n1 A1 C1 Z1 n2 A2 C2 Z2) (hb : Below w.heap.size w w') {X' : Nat → Prop} (hX : ∀ j, X' j → X j ∨ (w.heap.size ≤ j ∧ u8f w' j)) : Dz B0 X' w' p Lb hs O E pr v ys q f n0 A0 C0 Z0 n1 A1 C1 Z1 n2 A2 C2 Z2 := by
  have h' := h.below hb
  refine ⟨h'.b, h'.r, h'.k, h'.hh, h'.ov, h'.ok, h'.vk, h'.lo, fun j hj => ?_, h'.z1, h'.z2⟩
  rcases hX j hj with hx | ⟨hj, hu⟩
  · exact h'.xx j hx
  · obtain ⟨cs, hc⟩ := hu
    exact ⟨lt_of_block hc, ⟨cs, hc⟩, fun he => by have := (h.b.elt he).1; omega, fun y hy hk => by have := (h.r.each y hy).lt hk; omega, fun ho => by have := h.k.lt ho; omega⟩
/-- the buffer has gone on. -/
theorem Dz.b_on (h : Dz B0 X w p Lb hs O E pr v ys q f n0 A0 C0 Z0 n1 A1 C1 Z1 n2 A2 C2 Z2) {Lb' : List Ee} {hs' : List (List Ee)} {O' E' : Nat → Prop} (hb : St2 w' p B0 (Lb'.foldl put []) Lb'.length hs' O' E') (hg : Go1 O w O' w') (he : ∀ j, E' j → E j ∨ w.heap.size ≤ j) (hh : ∀ j, j ≤ Lb'.length → (hs' ++ [Lb'.foldl put []])[j]? = some ((Lb'.take j).foldl put [])) :
    Dz B0 X w' p Lb' hs' O' E' pr v ys q f n0 A0 C0 Z0 n1 A1 C1 Z1 n2 A2 C2 Z2 ∧ Kx B0 w w' := by
  have ty : ∀ j, O j → ∀ cs t, w.heap[j]? = some (.cells cs t (0, 0)) → t = 69 ∨ t = 85 ∨ t = 1 := fun j hj cs t hc => by
    obtain ⟨_, cs', t', hc', ht⟩ := h.b.otyp hj
    rw [two_types hc hc']; exact ht
  have hk : Kx B0 w w' := hg.mv.mono fun j hj => ⟨(h.b.otyp hj).1, fun ⟨cs, t, hc, ht⟩ => by rcases ty j hj cs _ hc with h | h | h <;> subst h <;> exact absurd ht (by unfold sfT; decide)⟩
  refine ⟨⟨hb, h.r.of_block fun j hj => hg.mv.block j (h.r.lt hj) fun ho => ?_, h.k.of_block fun j hj => hg.mv.block j (h.k.lt hj) fun ho => h.ok j ho hj, hh, fun j hj => ?_, fun j hj => ?_, h.vk, h.lo, fun j hj => ?_, h.z1, h.z2⟩, hk⟩
  · rcases hj with rfl | hj | ⟨y, hy, hj⟩
    · rcases ty _ ho _ _ h.r.blk with h | h | h <;> exact absurd h (by decide)
    · exact h.ov j ho hj
    · obtain ⟨cs, hc⟩ := (h.r.each y hy).u8 hj
      rcases ty j ho _ _ hc with h | h | h <;> exact absurd h (by decide)
  · rcases hg.own j hj with ho | ho
    · exact h.ov j ho
    · intro e; have := h.r.row.lt e; omega
  · rcases hg.own j hj with ho | ho
    · exact h.ok j ho
    · intro e; have := h.k.lt e; omega
  · obtain ⟨a1, ⟨cs, a2⟩, a3, a4, a5⟩ := h.xx j hj
    exact ⟨Nat.lt_of_lt_of_le a1 hg.mv.size, ⟨cs, hk.u8 a2⟩, fun e => (he j e).elim a3 (fun h => by omega), a4, a5⟩
/-- the document's buffer has gone on. -/
theorem Dz.r_on (h : Dz B0 X w p Lb hs O E pr v ys q f n0 A0 C0 Z0 n1 A1 C1 Z1 n2 A2 C2 Z2) {v' : Value} {ys' : List En} (hr : Rr w' pr v' ys') (hm : Mv (fun j => j = pr ∨ (v.ownBlock = some j ∧ Big w j)) w w') (hv : ∀ j, v'.ownBlock = some j → v.ownBlock = some j ∨ w.heap.size ≤ j) (hy : ∀ y ∈ ys', ∀ j, y.has j → (∃ z ∈ ys, z.has j) ∨ w.heap.size ≤ j) :
    Dz B0 X w' p Lb hs O E pr v' ys' q f n0 A0 C0 Z0 n1 A1 C1 Z1 n2 A2 C2 Z2 ∧ Kx B0 w w' := by
  have hk : Kx B0 w w' := hm.mono fun j hj => by
    rcases hj with rfl | ⟨hj, cs, hc, _⟩
    · exact ⟨h.lo.1, fun ⟨cs, t, hc, ht⟩ => by have := two_types hc h.r.blk; subst this; exact absurd ht (by unfold sfT; decide)⟩
    · exact ⟨h.lo.2.1 j hj, fun ⟨cs', t, hc', ht⟩ => by have := two_types hc' hc; subst this; exact absurd ht (by unfold sfT; decide)⟩
  refine ⟨⟨h.b.foreign hm fun j hj _ => ?_, hr, h.k.of_block fun j hj => hm.block j (h.k.lt hj) fun hf => ?_, h.hh, fun j hj e => ?_, h.ok, fun j hj => ?_, ⟨h.lo.1, fun j hj => ?_, h.lo.2.2⟩, fun j hj => ?_, h.z1, h.z2⟩, hk⟩
  · rcases hj with rfl | ⟨hj, cs, hc, hbig⟩
    · refine ⟨fun ho => ?_, fun he => ?_, fun cs t hc => ?_⟩
      · obtain ⟨_, cs, t, hc, ht⟩ := h.b.otyp ho
        have := two_types hc h.r.blk
        subst this
        rcases ht with h | h | h <;> exact absurd h (by decide)
      · obtain ⟨_, cs, hc⟩ := h.b.elt he
        exact absurd (two_types hc h.r.blk) (by decide)
      · have := two_types hc h.r.blk
        subst this
        exact ⟨by decide, by decide, fun e => absurd e (by decide)⟩
    · refine ⟨fun ho => h.ov j ho hj, fun he => ?_, fun cs' t hc' => ?_⟩
      · obtain ⟨_, cs', hc'⟩ := h.b.elt he
        exact absurd (two_types hc' hc) (by decide)
      · have := two_types hc' hc
        subst this
        rw [hc] at hc'
        cases hc'
        exact ⟨by decide, by decide, fun _ => by omega⟩
  · rcases hf with rfl | ⟨hf, _⟩
    · obtain ⟨cs, t, hc, ht, _⟩ := h.k.typ hj
      exact ht (two_types hc h.r.blk)
    · exact h.vk j hf hj
  · rcases hv j e with h1 | h1
    · exact h.ov j hj h1
    · have := h.b.st.lt hj; omega
  · rcases hv j hj with h1 | h1
    · exact h.vk j h1
    · intro e; have := h.k.lt e; omega
  · rcases hv j hj with h1 | h1
    · exact h.lo.2.1 j h1
    · have := h.base; omega
  · obtain ⟨a1, ⟨cs, a2⟩, a3, a4, a5⟩ := h.xx j hj
    exact ⟨Nat.lt_of_lt_of_le a1 hm.size, ⟨cs, hk.u8 a2⟩, a3, fun y hyy hkk => (hy y hyy j hkk).elim (fun ⟨z, hz, h9⟩ => a4 z hz h9) (fun h => by omega), a5⟩
/-- something was put into the book. -/
theorem Dz.k_on (h : Dz B0 X w p Lb hs O E pr v ys q f n0 A0 C0 Z0 n1 A1 C1 Z1 n2 A2 C2 Z2) {f' : Nat → Value} {m0 : Nat} {A0' : Nat → Option Addr} {C0' : Nat → Nat} {Z0' : Nat → List Int} {m1 : Nat} {A1' : Nat → Option Addr} {C1' : Nat → Nat} {Z1' : Nat → List Bp.Q4} {m2 : Nat} {A2' : Nat → Option Addr} {C2' : Nat → Nat} {Z2' : Nat → List Bc.Q4} (hk : Bd.Bb w' q f' m0 A0' C0' Z0' m1 A1' C1' Z1' m2 A2' C2' Z2') (hm : Bo.Kp (fun j => j = q ∨ Bo.blks (f 0) j ∨ Bo.blks (f 13) j ∨ Bo.blks (f 14) j) w w')
    (ho : ∀ j, Bd.own q f' m0 A0' m1 A1' m2 A2' j → Bd.own q f n0 A0 n1 A1 n2 A2 j ∨ (¬ O j ∧ v.ownBlock ≠ some j ∧ ¬ X j ∧ B0 ≤ j) ∨ w.heap.size ≤ j) (z1 : ∀ i, i < m1 → (Z1' i).length ≤ 1000000) (z2 : ∀ i, i < m2 → (Z2' i).length ≤ 1000000) :
    Dz B0 X w' p Lb hs O E pr v ys q f' m0 A0' C0' Z0' m1 A1' C1' Z1' m2 A2' C2' Z2' ∧ Ky B0 w w' := by
  have hmv : Mv (fun j => j = q ∨ Bo.blks (f 0) j ∨ Bo.blks (f 13) j ∨ Bo.blks (f 14) j) w w' := ⟨hm.os, hm.tape, hm.output, hm.size, hm.block⟩
  have hky : Ky B0 w w' := hmv.mono fun j hj => ⟨h.lo.2.2 j (h.k.wtyp hj).1, fun hx => by
    obtain ⟨_, cs', t, hc', _, h2, _, _, _, h6⟩ := h.k.wtyp hj
    rcases hx with ⟨cs, t', hc, ht⟩ | ⟨cs, hc⟩
    · have := two_types hc hc'; subst this; exact h6 ht
    · exact h2 (two_types hc' hc)⟩
  have hkx : Kx B0 w w' := hky.x
  refine ⟨⟨h.b.foreign hmv fun j hj _ => ?_, h.r.of_block fun j hj => hmv.block j (h.r.lt hj) fun hq => ?_, hk, h.hh, h.ov, fun j hj e => ?_, fun j hj e => ?_, ⟨h.lo.1, h.lo.2.1, fun j hj => ?_⟩, fun j hj => ?_, z1, z2⟩, hky⟩
  · obtain ⟨h0, cs, t, hc, h1, h2, h3, h4, h5, _⟩ := h.k.wtyp hj
    refine ⟨fun hO => h.ok j hO h0, fun he => ?_, fun cs' t' hc' => ?_⟩
    · obtain ⟨_, cs', hc'⟩ := h.b.elt he
      exact h3 (two_types hc hc')
    · have := two_types hc' hc
      subst this
      exact ⟨h4, h5, fun e => absurd e h2⟩
  · obtain ⟨h0, cs, t, hc, h1, h2, h3, h4, h5, _⟩ := h.k.wtyp hq
    rcases hj with rfl | hj | ⟨y, hy, hj⟩
    · exact h1 (two_types hc h.r.blk)
    · exact h.vk j hj h0
    · obtain ⟨cs', hc'⟩ := (h.r.each y hy).u8 hj
      exact h3 (two_types hc hc')
  · rcases ho j e with h1 | ⟨h1, _⟩ | h1
    · exact h.ok j hj h1
    · exact h1 hj
    · have := h.b.st.lt hj; omega
  · rcases ho j e with h1 | ⟨_, h1, _⟩ | h1
    · exact h.vk j hj h1
    · exact h1 hj
    · have := h.r.row.lt hj; omega
  · rcases ho j hj with h1 | ⟨_, _, _, h1⟩ | h1
    · exact h.lo.2.2 j h1
    · exact h1
    · have := h.base; omega
  · obtain ⟨a1, ⟨cs, a2⟩, a3, a4, a5⟩ := h.xx j hj
    refine ⟨Nat.lt_of_lt_of_le a1 hm.size, ⟨cs, hkx.u8 a2⟩, a3, a4, fun e => ?_⟩
    rcases ho j e with h1 | ⟨_, _, h1, _⟩ | h1
    · exact a5 h1
    · exact h1 hj
    · omega
/-- what is lent was written over. -/
theorem Dz.spoil (h : Dz B0 X w p Lb hs O E pr v ys q f n0 A0 C0 Z0 n1 A1 C1 Z1 n2 A2 C2 Z2) {g : Nat} (hX : X g) (hg : w.grownBy w' (some g)) {X' : Nat → Prop} (hX' : ∀ j, X' j → X j ∧ j ≠ g) : Dz B0 X' w' p Lb hs O E pr v ys q f n0 A0 C0 Z0 n1 A1 C1 Z1 n2 A2 C2 Z2 := by
  obtain ⟨a1, ⟨cs, a2⟩, a3, a4, a5⟩ := h.xx g hX
  have hmv : Mv (fun j => j = g) w w' := ⟨hg.os, hg.tape, hg.output, hg.size, fun j hj hn => hg.block j hj (fun e => hn (by cases e; rfl))⟩
  refine ⟨h.b.foreign hmv fun j hj _ => ?_, h.r.of_block fun j hj => hmv.block j (h.r.lt hj) fun e => ?_, h.k.of_block fun j hj => hmv.block j (h.k.lt hj) fun e => a5 (by rw [← e]; exact hj), h.hh, h.ov, h.ok, h.vk, h.lo, fun j hj => ?_, h.z1, h.z2⟩
  · subst hj
    refine ⟨fun ho => ?_, a3, fun cs' t hc => ?_⟩
    · obtain ⟨_, cs', t, hc, ht⟩ := h.b.otyp ho
      have := two_types hc a2
      subst this
      rcases ht with h | h | h <;> exact absurd h (by decide)
    · have := two_types hc a2
      subst this
      exact ⟨by decide, by decide, fun e => absurd e (by decide)⟩
  · subst e
    rcases hj with rfl | hj | ⟨y, hy, hj⟩
    · exact absurd (two_types a2 h.r.blk) (by decide)
    · obtain ⟨cs', hc⟩ := h.r.vtyp hj
      exact absurd (two_types a2 hc) (by decide)
    · exact a4 y hy hj
  · obtain ⟨hx, hne⟩ := hX' j hj
    obtain ⟨b1, ⟨cs', b2⟩, b3⟩ := h.xx j hx
    exact ⟨Nat.lt_of_lt_of_le b1 hmv.size, ⟨cs', (hmv.block j b1 hne).trans b2⟩, b3⟩
end
end Go.Proofs.Ytgohhlngnnmknaa
/- What comes first behind a place, of the pairs that lie below. -/
namespace Go.Proofs.Ytgohhlngnnmknaa
open Go.RowKit Go.Maps
set_option linter.unusedVariables false

/-- a pair that lies elsewhere. -/
def SharedOut (xs : List En) (w : World) (o : Option Ee) (r : Ending) (w' : World) : Prop := ∃ y : En, r = .returned (.tuple #[.agg #[.slice y.ka y.e.key.length y.kc, .slice y.va y.e.val.length y.vc], .bool o.isSome]) ∧ y.e.key = (o.getD zeE).key ∧ y.e.val = (o.getD zeE).val ∧ y.Ok w' ∧ Below w.heap.size w w' ∧ (y ∈ xs ∨ (y.ka = none ∧ y.va = none))

set_option maxHeartbeats 3200000 in
set_option maxRecDepth 1000000 in
theorem after_any (a fa : Option Addr) (n c fn fc : Nat) (us : List En) (frm : List Int) (inn : Bool) (w : World) (h : Prs w a n c us) (hf : Inn w fa fn fc frm) (hn : n ≤ 1000000) (o : Option Ee) (ho : o = (ers us).find? (fun e => bhU e.key frm inn)) :
    Calls Try.prog 35 #[.slice a n c, .slice fa fn fc, .bool inn] w (SharedOut us w o) := by
  obtain ⟨w1, hw1⟩ : ∃ w1, w1 = w.alloc (.cells #[.slice none 0 0, .slice none 0 0] 74) := ⟨_, rfl⟩
  have hB1 : Below w.heap.size w w1 := by rw [hw1]; exact below_alloc _ _
  have hz1 : w1.heap[w.heap.size]? = some (.cells #[.slice none 0 0, .slice none 0 0] 74 (0, 0)) := by rw [hw1]; exact heap_alloc_new w _
  have HE := hide (h.below hB1)
  have HEw := hide h
  have HF := hide (hf.below hB1)
  have HB1 := hide hB1
  have Hz1 := hide hz1
  have HO := hide ho
  obtain ⟨z0, z1, zf⟩ := cells_two hz1
  have zf1 : w1.frozen? ⟨w.heap.size, 1, none⟩ = false := by simp [World.frozen?, hz1]
  have hcap := h.cap
  have hmax := h.max
  clear h hf hB1 hz1 ho
  subst hw1
  go_enter Try.func35, Try.ntmps35
  go_wp2
  go_loopw [8] (fun vi wr => ∃ (k : Nat), k ≤ n ∧ vi = .int .i64 (k : Int) ∧ o = ((ers us).drop k).find? (fun e => bhU e.key frm inn) ∧ wr = w.alloc (.cells #[.slice none 0 0, .slice none 0 0] 74)) (fun vi _ => n - (intOf vi).toNat)
  case atStart => exact ⟨0, Nat.zero_le _, rfl, HO.out, rfl⟩
  case round =>
    obtain ⟨k, hk, rfl, hoo, rfl⟩ := hrel
    have HOO := hide hoo
    clear hoo
    by_cases hlt : k < n
    · obtain ⟨x, b, off, hx, rfl, hbs, c0, c1, hok⟩ := HE.out.at hlt
      have d1 : (k : Int) < (n : Int) := by omega
      have d0 : (0 : Int) ≤ (k : Int) := by omega
      have hrem : (ers us).drop k = x.e :: (ers us).drop (k + 1) := drop_at (ers_at hx)
      rw [hrem] at HOO
      have HR := hide (rabove_any x.ka fa x.e.key.length x.kc fn fc x.e.key frm inn _ hok.key HF.out)
      have HOK := hide (HEw.out.each x (List.mem_of_getElem? hx))
      have HMx := hide (List.mem_of_getElem? hx)
      clear hok hrem hx
      rcases Bool.eq_false_or_eq_true (bhU x.e.key frm inn) with hp | hp
      · have hoo : o = some x.e := by rw [HOO.out, List.find?_cons, hp]
        subst hoo
        rw [hp] at HR
        clear hp
        go_wp2_with (go_at_call 77; refine HR.out.mono ?_; rintro e w2 ⟨rfl, rfl⟩)
        refine bodyPost_ret (v := .tuple #[.agg #[.slice x.ka x.e.key.length x.kc, .slice x.va x.e.val.length x.vc], .bool true]) ?_ rfl ?_
        · simp [results, Try.results35, go_sem]
        · exact ⟨x, rfl, rfl, rfl, HOK.out.below (below_alloc w _), below_alloc w _, .inl HMx.out⟩
      · have hoo : o = ((ers us).drop (k + 1)).find? (fun e => bhU e.key frm inn) := by rw [HOO.out, List.find?_cons, hp]
        rw [hp] at HR
        clear hp
        go_wp2_with (go_at_call 77; refine HR.out.mono ?_; rintro e w2 ⟨rfl, rfl⟩)
        refine ⟨⟨k + 1, by omega, by go_num, hoo, trivial⟩, ?_⟩
        simp [intOf]; omega
    · have ek : k = n := by omega
      subst ek
      have hnil : (ers us).drop k = [] := List.drop_of_length_le (by rw [ers_len, HE.out.len]; exact Nat.le_refl _)
      have d1 : ¬ ((k : Int) < (k : Int)) := by omega
      have d0 : (0 : Int) ≤ (k : Int) := by omega
      rw [hnil] at HOO
      have hoo : o = none := HOO.out
      subst hoo
      go_wp2
      refine bodyPost_ret (v := .tuple #[.agg #[.slice none 0 0, .slice none 0 0], .bool false]) ?_ rfl ?_
      · simp [results, Try.results35, go_sem, z0, z1]
      · exact ⟨⟨zeE, none, 0, none, 0⟩, rfl, rfl, rfl, ⟨inn_nil _, inn_nil _⟩, HB1.out, .inr ⟨rfl, rfl⟩⟩

set_option maxHeartbeats 3200000 in
set_option maxRecDepth 1000000 in
theorem before_any (a fa : Option Addr) (n c fn fc : Nat) (us : List En) (frm : List Int) (inn : Bool) (w : World) (h : Prs w a n c us) (hf : Inn w fa fn fc frm) (hn : n ≤ 1000000) (o : Option Ee) (ho : o = (ers us).reverse.find? (fun e => bhD e.key frm inn)) :
    Calls Try.prog 36 #[.slice a n c, .slice fa fn fc, .bool inn] w (SharedOut us w o) := by
  obtain ⟨w1, hw1⟩ : ∃ w1, w1 = w.alloc (.cells #[.slice none 0 0, .slice none 0 0] 74) := ⟨_, rfl⟩
  have hB1 : Below w.heap.size w w1 := by rw [hw1]; exact below_alloc _ _
  have hz1 : w1.heap[w.heap.size]? = some (.cells #[.slice none 0 0, .slice none 0 0] 74 (0, 0)) := by rw [hw1]; exact heap_alloc_new w _
  have HE := hide (h.below hB1)
  have HEw := hide h
  have HF := hide (hf.below hB1)
  have HB1 := hide hB1
  have Hz1 := hide hz1
  have HO := hide ho
  obtain ⟨z0, z1, zf⟩ := cells_two hz1
  have zf1 : w1.frozen? ⟨w.heap.size, 1, none⟩ = false := by simp [World.frozen?, hz1]
  have hcap := h.cap
  have hmax := h.max
  clear h hf hB1 hz1 ho
  subst hw1
  go_enter Try.func36, Try.ntmps36
  go_wp2
  go_loopw [8] (fun vi wr => ∃ (k : Nat), k ≤ n ∧ vi = .int .i64 ((k : Int) - 1) ∧ o = (((ers us).take k).reverse).find? (fun e => bhD e.key frm inn) ∧ wr = w.alloc (.cells #[.slice none 0 0, .slice none 0 0] 74)) (fun vi _ => (intOf vi + 1).toNat)
  case atStart => exact ⟨n, Nat.le_refl _, rfl, by rw [List.take_of_length_le (by rw [ers_len, HE.out.len]; exact Nat.le_refl _)]; exact HO.out, rfl⟩
  case round =>
    obtain ⟨k, hk, rfl, hoo, rfl⟩ := hrel
    have HOO := hide hoo
    clear hoo
    by_cases hlt : 0 < k
    · obtain ⟨k, rfl⟩ : ∃ j, k = j + 1 := ⟨k - 1, by omega⟩
      obtain ⟨x, b, off, hx, rfl, hbs, c0, c1, hok⟩ := HE.out.at (k := k) (by omega)
      have ek : (((k + 1 : Nat) : Int) - 1) = (k : Int) := by omega
      rw [ek]
      have d1 : (k : Int) < (n : Int) := by omega
      have d0 : (0 : Int) ≤ (k : Int) := by omega
      have hrem : ((ers us).take (k + 1)).reverse = x.e :: ((ers us).take k).reverse := by rw [take_at (ers_at hx), List.reverse_append]; rfl
      rw [hrem] at HOO
      have HR := hide (rbelow_any x.ka fa x.e.key.length x.kc fn fc x.e.key frm inn _ hok.key HF.out)
      have HOK := hide (HEw.out.each x (List.mem_of_getElem? hx))
      have HMx := hide (List.mem_of_getElem? hx)
      clear hok hrem hx
      rcases Bool.eq_false_or_eq_true (bhD x.e.key frm inn) with hp | hp
      · have hoo : o = some x.e := by rw [HOO.out, List.find?_cons, hp]
        subst hoo
        rw [hp] at HR
        clear hp
        go_wp2_with (go_at_call 79; refine HR.out.mono ?_; rintro e w2 ⟨rfl, rfl⟩)
        refine bodyPost_ret (v := .tuple #[.agg #[.slice x.ka x.e.key.length x.kc, .slice x.va x.e.val.length x.vc], .bool true]) ?_ rfl ?_
        · simp [results, Try.results36, go_sem]
        · exact ⟨x, rfl, rfl, rfl, HOK.out.below (below_alloc w _), below_alloc w _, .inl HMx.out⟩
      · have hoo : o = (((ers us).take k).reverse).find? (fun e => bhD e.key frm inn) := by rw [HOO.out, List.find?_cons, hp]
        rw [hp] at HR
        clear hp
        go_wp2_with (go_at_call 79; refine HR.out.mono ?_; rintro e w2 ⟨rfl, rfl⟩)
        refine ⟨⟨k, by omega, by go_num, hoo, trivial⟩, ?_⟩
        simp [intOf]
    · obtain rfl : k = 0 := by omega
      have hnil : ((ers us).take 0).reverse = [] := rfl
      have d0 : ¬ ((0 : Int) ≤ ((0 : Nat) : Int) - 1) := by omega
      rw [hnil] at HOO
      have hoo : o = none := HOO.out
      subst hoo
      go_wp2
      refine bodyPost_ret (v := .tuple #[.agg #[.slice none 0 0, .slice none 0 0], .bool false]) ?_ rfl ?_
      · simp [results, Try.results36, go_sem, z0, z1]
      · exact ⟨⟨zeE, none, 0, none, 0⟩, rfl, rfl, rfl, ⟨inn_nil _, inn_nil _⟩, HB1.out, .inr ⟨rfl, rfl⟩⟩
end Go.Proofs.Ytgohhlngnnmknaa
