/- The reader of documents: its state between two values, and within one. -/
import Derived.Test.YtehapglbenaikaaLB
namespace Go.Proofs.Ytehapglbenaikaa
open Go.RowKit
set_option linter.unusedVariables false

/-- blocks that are the reader's own. -/
def Prv (rb q p : Nat) (a sa : Option Addr) (k : Nat) : Prop := k = q ∨ k = p ∨ (∃ x, a = some x ∧ x.block = k) ∨ (∃ x, sa = some x ∧ x.block = k) ∨ k = rb
def zeroT : T := .mk 0 false 0 ⟨#[]⟩ none 0 [] none 0 .nil none 0 .nil
structure Sok (n₁ : Nat) (P : Nat → Prop) (W : World) (s : Sl) : Prop where
  rng : ∀ k i, SC s k i → n₁ ≤ k ∧ k < W.heap.size ∧ ¬ P k ∧ W.frozen? ⟨k, i, none⟩ = false
  zero : At W s.2 zeroT
  name : ∀ y, s.1 = some y → ∃ x, W.cell? (ad y) = some (.string x)
  self : ∀ y, s.1 = some y → ¬ (y.1 = s.2.1 ∧ s.2.2 ≤ y.2 ∧ y.2 < s.2.2 + 7)
theorem SC.val (s : Sl) (j : Nat) (h : j < 7) : SC s s.2.1 (s.2.2 + j) := .inr ⟨rfl, by omega, by omega⟩
theorem At.on {W W' : World} {x : Nat × Nat} {v : T} (h : At W x v) (ha : ∀ j, j < 7 → W'.cell? ⟨x.1, x.2 + j, none⟩ = W.cell? ⟨x.1, x.2 + j, none⟩) : At W' x v := by
  intro j u hu
  have : j < 7 := by
    have := (List.getElem?_eq_some_iff.1 hu).1
    cases v
    simpa [T.cells] using this
  rw [ha j this]
  exact h j u hu
theorem Sok.on {n₁ : Nat} {P P1 : Nat → Prop} {X : Nat → Nat → Prop} {W W1 : World} {s : Sl} (h : Sok n₁ P W s) (ha : Agr n₁ P X W W1) (hX : ∀ k i, SC s k i → ¬ X k i) (hP : ∀ k, k < W.heap.size → P1 k → P k) (hs : W.heap.size ≤ W1.heap.size) : Sok n₁ P1 W1 s := by
  refine ⟨fun k i hk => ?_, h.zero.on (fun j hj => ?_), fun y hy => ?_, h.self⟩
  · obtain ⟨h1, h2, h3, h4⟩ := h.rng k i hk
    exact ⟨h1, by omega, fun hp => h3 (hP k h2 hp), (ha k i h1 h2 h3).2.trans h4⟩
  · obtain ⟨h1, h2, h3, h4⟩ := h.rng _ _ (SC.val s j hj)
    exact (ha _ _ h1 h2 h3).1 (hX _ _ (SC.val s j hj))
  · obtain ⟨x, hx⟩ := h.name y hy
    obtain ⟨h1, h2, h3, h4⟩ := h.rng y.1 y.2 (.inl hy)
    exact ⟨x, ((ha _ _ h1 h2 h3).1 (hX _ _ (.inl hy))).trans hx⟩
structure St (rb n₁ : Nat) (w0 : World) (q p : Nat) (a : Option Addr) (bs : List Int) (W : World) (st : List Sl) (sa : Option Addr) (sc N i e : Nat) : Prop where
  below : Below n₁ w0 W
  dr : Dr W q p sa st.length sc N
  rd : Rd W p a bs i e
  own : W.ownsRow n₁ 70 2 (.slice sa st.length sc) st.length (scells st.reverse)
  qp : q ≠ p
  aq : ∀ x, a = some x → x.block ≠ q
  sq : ∀ x, sa = some x → x.block ≠ q ∧ x.block ≠ p ∧ (∀ y, a = some y → y.block ≠ x.block)
  lo : n₁ ≤ q ∧ n₁ ≤ p ∧ (∀ x, a = some x → n₁ ≤ x.block)
  slots : ∀ s ∈ st, Sok n₁ (Prv rb q p a sa) W s
  apart : st.Pairwise (fun s t => ∀ k i, SC s k i → ¬ SC t k i)
  few : st.length ≤ N ∧ N ≤ 512
  rbx : W.heap[rb]? = some (.cells #[.int .u8 0, .bool false, .int .i64 0, .string ⟨#[]⟩, .slice none 0 0, .slice none 0 0, .slice none 0 0] 27 (0, 0))
  rbn : rb ≠ q ∧ rb ≠ p ∧ (∀ x, sa = some x → x.block ≠ rb)
theorem agr_refl (n₁ : Nat) (P : Nat → Prop) (X : Nat → Nat → Prop) (W : World) : Agr n₁ P X W W := fun _ _ _ _ _ => ⟨fun _ => rfl, rfl⟩
theorem agr_of_blocks {n₁ : Nat} {P : Nat → Prop} {X : Nat → Nat → Prop} {W W' : World} (h : ∀ k, n₁ ≤ k → k < W.heap.size → ¬ P k → W'.heap[k]? = W.heap[k]?) : Agr n₁ P X W W' := fun k i h1 h2 h3 => by
  have e := h k h1 h2 h3
  refine ⟨fun _ => ?_, ?_⟩
  · simp only [World.cell?]; rw [e]
  · simp only [World.frozen?]; rw [e]
theorem Agr.trans {n₁ : Nat} {P : Nat → Prop} {X : Nat → Nat → Prop} {A B C : World} (h : Agr n₁ P X A B) (k : Agr n₁ P X B C) (hs : A.heap.size ≤ B.heap.size) : Agr n₁ P X A C := fun x i h1 h2 h3 =>
  ⟨fun h4 => ((k x i h1 (by omega) h3).1 h4).trans ((h x i h1 h2 h3).1 h4), ((k x i h1 (by omega) h3).2).trans ((h x i h1 h2 h3).2)⟩
theorem agr_of_grown {n₁ : Nat} {P : Nat → Prop} {X : Nat → Nat → Prop} {W W' : World} {r : Nat} (h : W.grownBy W' (some r)) (hr : P r) : Agr n₁ P X W W' := agr_of_blocks fun k _ h2 h3 => h.block k h2 (fun e => h3 (by cases e; exact hr))
theorem agr_of_below {n₁ : Nat} {P : Nat → Prop} {X : Nat → Nat → Prop} {W W' : World} (h : Below W.heap.size W W') : Agr n₁ P X W W' := agr_of_blocks fun k _ h2 _ => h.block k h2
theorem below_grown {B : Nat} {a w w' : World} {r : Nat} (h : Below B a w) (hg : w.grownBy w' (some r)) (hr : B ≤ r) (hB : B ≤ w.heap.size) : Below B a w' :=
  ⟨hg.os.trans h.os, hg.tape.trans h.tape, hg.output.trans h.output, Nat.le_trans h.size hg.size, fun k hk => (hg.block k (by omega) (fun e => by cases e; omega)).trans (h.block k hk)⟩
theorem St.n1 {rb n₁ : Nat} {w0 : World} {q p : Nat} {a : Option Addr} {bs : List Int} {W : World} {st : List Sl} {sa : Option Addr} {sc N i e : Nat} (h : St rb n₁ w0 q p a bs W st sa sc N i e) : n₁ ≤ W.heap.size := by
  have := h.lo.1
  have := h.dr.lt
  omega
theorem owns_grown {w w' : World} {B : Nat} {e : TypeId} {s : Nat} {a : Option Addr} {n c : Nat} {xs : List Value} {r : Nat} (h : w.ownsRow B e s (.slice a n c) n xs) (hg : w.grownBy w' (some r)) (hr : ∀ x, a = some x → x.block ≠ r) : w'.ownsRow B e s (.slice a n c) n xs := by
  refine ⟨h.1, ?_⟩
  rcases h.2 with h1 | ⟨g, cap, cur, h1, h2, h3, h4⟩
  · exact .inl h1
  · refine .inr ⟨g, cap, cur, h1, h2, (hg.block g (lt_of_block h3) (fun e => ?_)).trans h3, h4⟩
    have : a = some ⟨g, 0, none⟩ := by simpa using (by injection h1)
    exact hr _ this (by cases e; rfl)
section
variable {rb n₁ : Nat} {w0 : World} {q p : Nat} {a : Option Addr} {bs : List Int} {W W' : World} {st : List Sl} {sa : Option Addr} {sc N i e : Nat}
/-- the reader reads. -/
theorem St.read (h : St rb n₁ w0 q p a bs W st sa sc N i e) {i' e' : Nat} (hr : Rd W' p a bs i' e') (hg : W.grownBy W' (some p)) : St rb n₁ w0 q p a bs W' st sa sc N i' e' :=
  ⟨below_grown h.below hg h.lo.2.1 h.n1, (hg.block q h.dr.lt (fun e => h.qp (by cases e; rfl))).trans h.dr, hr, owns_grown h.own hg (fun x hx => (h.sq x hx).2.1), h.qp, h.aq, h.sq, h.lo,
    fun s hs => (h.slots s hs).on (X := fun _ _ => False) (agr_of_grown hg (.inr (.inl rfl))) (fun _ _ _ h => h) (fun _ _ h => h) hg.size, h.apart, h.few, (hg.block rb (lt_of_block h.rbx) (fun e => h.rbn.2.1 (by cases e; rfl))).trans h.rbx, h.rbn⟩
theorem St.on (h : St rb n₁ w0 q p a bs W st sa sc N i e) (hb : Below W.heap.size W W') : St rb n₁ w0 q p a bs W' st sa sc N i e :=
  ⟨h.below.trans (hb.mono h.n1), (hb.block q h.dr.lt).trans h.dr, h.rd.below hb, owns_below h.own hb, h.qp, h.aq, h.sq, h.lo,
    fun s hs => (h.slots s hs).on (X := fun _ _ => False) (agr_of_below hb) (fun _ _ _ h => h) (fun _ _ h => h) hb.size, h.apart, h.few, (hb.block rb (lt_of_block h.rbx)).trans h.rbx, h.rbn⟩
theorem St.set (h : St rb n₁ w0 q p a bs W st sa sc N i e) {s : Sl} (hs : ∀ k j, SC s k j → n₁ ≤ k ∧ k < W.heap.size ∧ ¬ Prv rb q p a sa k) (hap : ∀ t ∈ st, ∀ k j, SC s k j → ¬ SC t k j) {k j : Nat} (hk : SC s k j) (v : Value) : St rb n₁ w0 q p a bs (W.setCell ⟨k, j, none⟩ v) st sa sc N i e := by
  obtain ⟨h1, h2, h3⟩ := hs k j hk
  have hg := grown_setCell W k j v
  refine ⟨below_grown h.below hg h1 h.n1, (hg.block q h.dr.lt (fun e => h3 (.inl (by cases e; rfl)))).trans h.dr, h.rd.other hg (fun e => h3 (.inr (.inl e))) (fun x hx e => h3 (.inr (.inr (.inl ⟨x, hx, e⟩)))), owns_grown h.own hg (fun x hx e => h3 (.inr (.inr (.inr (.inl ⟨x, hx, e⟩))))), h.qp, h.aq, h.sq, h.lo, fun t ht => ?_, h.apart, h.few, (hg.block rb (lt_of_block h.rbx) (fun e => h3 (.inr (.inr (.inr (.inr (by cases e; rfl))))))).trans h.rbx, h.rbn⟩
  refine (h.slots t ht).on (X := fun x y => x = k ∧ y = j) ?_ (fun x y hx hxy => ?_) (fun _ _ h => h) hg.size
  · intro x y hx1 hx2 hx3
    refine ⟨fun hn => World.cell?_setCell_other _ _ _ _ (fun e => hn ⟨?_, ?_⟩), by simp⟩
    · exact (congrArg Addr.block e).symm
    · exact (congrArg Addr.off e).symm
  · obtain ⟨rfl, rfl⟩ := hxy
    exact hap t ht _ _ hk hx
end
end Go.Proofs.Ytehapglbenaikaa
