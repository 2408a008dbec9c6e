/- The reader of documents: its state behind a count, and behind the slots of a list or a document. -/
import Derived.Test.YtehapglbenaikaaLG
namespace Go.Proofs.Ytehapglbenaikaa
open Go.RowKit
set_option linter.unusedVariables false

section
variable {rb n₁ : Nat} {w0 : World} {q p : Nat} {a : Option Addr} {bs : List Int} {W0 W W' : World} {s : Sl} {st : List Sl} {sa sa' : Option Addr} {sc N i e i' e' : Nat} {nv : ByteArray}
theorem Md.count (h : Md rb n₁ w0 q p a bs W0 s st sa sc N nv W i e) {m : Nat} (hm : N + m ≤ 512) (hd : Dr W' q p sa st.length sc (N + m)) (hr : Rd W' p a bs i' e') (hk : Kp (fun k => k = p ∨ k = q) W W') : Md rb n₁ w0 q p a bs W0 s st sa sc (N + m) nv W' i' e' := by
  have hb : ∀ k, k < W.heap.size → ¬ Prv rb q p a sa k → W'.heap[k]? = W.heap[k]? := fun k h1 h2 => hk.block k h1 (fun e => by rcases e with e | e; exact h2 (.inr (.inl e)); exact h2 (.inl e))
  have ha : Agr n₁ (Prv rb q p a sa) (SC s) W W' := agr_of_blocks fun k _ h2 h3 => hb k h2 h3
  have ha2 : Agr n₁ (Prv rb q p a sa) (fun _ _ => False) W W' := agr_of_blocks fun k _ h2 h3 => hb k h2 h3
  have hn1 := h.sta.n1
  have hlo := h.sta.lo
  refine ⟨⟨⟨hk.os.trans h.sta.below.os, hk.tape.trans h.sta.below.tape, hk.output.trans h.sta.below.output, Nat.le_trans h.sta.below.size hk.size, fun k hk' => (hk.block k (by omega) (fun e => by omega)).trans (h.sta.below.block k hk')⟩, hd, hr, ?_, h.sta.qp, h.sta.aq, h.sta.sq, h.sta.lo, fun t ht => (h.sta.slots t ht).on ha2 (fun _ _ _ h => h) (fun _ _ h => h) hk.size, h.sta.apart, by have := h.sta.few; omega, (hk.block rb (lt_of_block h.sta.rbx) (fun e => by rcases e with e | e; exact h.sta.rbn.2.1 e; exact h.sta.rbn.1 e)).trans h.sta.rbx, h.sta.rbn⟩, fun k j hk' => ?_, h.apart, h.low, h.self, fun y hy => ?_, h.agr.trans ha h.size, Nat.le_trans h.size hk.size⟩
  · refine ⟨h.sta.own.1, ?_⟩
    rcases h.sta.own.2 with h1 | ⟨g, cap, cur, h1, h2, h3, h4⟩
    · exact .inl h1
    · refine .inr ⟨g, cap, cur, h1, h2, (hk.block g (lt_of_block h3) (fun e => ?_)).trans h3, h4⟩
      have hs : sa = some ⟨g, 0, none⟩ := by injection h1
      have := h.sta.sq _ hs
      simp only [] at this
      rcases e with e | e
      · exact this.2.1 e
      · exact this.1 e
  · obtain ⟨h1, h2, h3, h4⟩ := h.rng k j hk'
    exact ⟨h1, h2, h3, (ha k j h1 (Nat.lt_of_lt_of_le h2 h.size) h3).2.trans h4⟩
  · obtain ⟨h1, h2, h3, h4⟩ := h.rng y.1 y.2 (.inl hy)
    exact ((ha2 y.1 y.2 h1 (Nat.lt_of_lt_of_le h2 h.size) h3).1 (fun h => h)).trans (h.name y hy)
theorem lay_is (sn : Nat → Option Addr) (sv : Nat → Addr) (f : Nat → Sl) (hf : ∀ j, sc1 (f j) = [.pointer (sn j), .pointer (some (sv j))]) (n : Nat) : ∀ c, c ≤ n → lay sn sv n c = scells ((List.range c).map fun k => f (n - 1 - k)) := by
  intro c
  induction c with
  | zero => intro _; rfl
  | succ c ih =>
    intro hc
    rw [lay, ih (by omega), List.range_succ, List.map_append, scells_app]
    simp [scells, hf]
theorem range_rev {α : Type} (f : Nat → α) (n : Nat) : (List.range n).map (fun k => f (n - 1 - k)) = ((List.range n).map f).reverse := by
  apply List.ext_getElem
  · simp
  · intro i h1 h2
    simp
/-- the state behind the slots of n values, all in the new block B. -/
theorem St.await (h : St rb n₁ w0 q p a bs W st sa sc N i e) {f : Nat → Sl} {n : Nat} {sn : Nat → Option Addr} {sv : Nat → Addr} (hf : ∀ j, sc1 (f j) = [.pointer (sn j), .pointer (some (sv j))]) {b : Nat} (hA : Awaited W q p b st.length N sa (scells st.reverse) sn sv n n W') (hb : b = n₁) {B : Nat} (hB0 : n₁ ≤ B) (hB1 : B < W.heap.size) (hB2 : ¬ Prv rb q p a sa B)
    (hBs : ∀ j k u, j < n → SC (f j) k u → k = B) (hBt : ∀ t ∈ st, ∀ k u, SC t k u → k ≠ B) (hBp : ∀ i j, i < j → j < n → ∀ k u, SC (f i) k u → ¬ SC (f j) k u) (hBz : ∀ j, j < n → At W (f j).2 zeroT) (hBn : ∀ j, j < n → ∀ z, (f j).1 = some z → ∃ x, W.cell? (ad z) = some (.string x)) (hBf : ∀ j, j < n → ∀ z, (f j).1 = some z → ¬ (z.1 = (f j).2.1 ∧ (f j).2.2 ≤ z.2 ∧ z.2 < (f j).2.2 + 7)) (hBr : ∀ u, W.frozen? ⟨B, u, none⟩ = false)
    (hfew : n + st.length ≤ N) : ∃ sa' sc', St rb n₁ w0 q p a bs W' ((List.range n).map f ++ st) sa' sc' N i e ∧ (∀ k, k < W.heap.size → Prv rb q p a sa' k → Prv rb q p a sa k) ∧ Agr n₁ (Prv rb q p a sa) (fun _ _ => False) W W' ∧ W.heap.size ≤ W'.heap.size := by
  subst hb
  obtain ⟨sa', sc', hd, ho, hor, hq, hk⟩ := hA
  have hlen : st.length + n = ((List.range n).map f ++ st).length := by simp; omega
  have hown : W'.ownsRow b 70 2 (.slice sa' ((List.range n).map f ++ st).length sc') ((List.range n).map f ++ st).length (scells ((List.range n).map f ++ st).reverse) := by
    rw [← hlen, List.reverse_append, scells_app, ← range_rev, ← lay_is sn sv f hf n n (Nat.le_refl _)]
    exact ho
  have hPP : ∀ k, k < W.heap.size → Prv rb q p a sa' k → Prv rb q p a sa k := by
    rintro k hk1 (h1 | h1 | h1 | ⟨x, hx, rfl⟩ | h1)
    · exact .inl h1
    · exact .inr (.inl h1)
    · exact .inr (.inr (.inl h1))
    · rcases hor x hx with ⟨x0, hx0, e0⟩ | h2
      · exact .inr (.inr (.inr (.inl ⟨x0, hx0, e0⟩)))
      · omega
    · exact .inr (.inr (.inr (.inr h1)))
  have hbl : ∀ k, k < W.heap.size → ¬ Prv rb q p a sa k → W'.heap[k]? = W.heap[k]? := fun k h1 h2 => hk.block k h1 (fun e => by
    rcases e with e | ⟨x, hx, e⟩
    · exact h2 (.inl e)
    · exact h2 (.inr (.inr (.inr (.inl ⟨x, hx, e⟩)))))
  have ha : ∀ X, Agr b (Prv rb q p a sa) X W W' := fun X => agr_of_blocks fun k _ h2 h3 => hbl k h2 h3
  have hn1 := h.n1
  have hlo := h.lo
  have hsab : ∀ x, sa = some x → b ≤ x.block := by
    intro x hx
    rcases h.own.2 with ⟨h1, _⟩ | ⟨g, cap, cur, h1, h2, _⟩
    · have : sa = none := by injection h1
      rw [this] at hx; cases hx
    · have : sa = some ⟨g, 0, none⟩ := by injection h1
      rw [this] at hx; cases hx
      exact h2
  refine ⟨sa', sc', ⟨⟨hk.os.trans h.below.os, hk.tape.trans h.below.tape, hk.output.trans h.below.output, Nat.le_trans h.below.size hk.size, fun k hk' => (hk.block k (by omega) (fun e => ?_)).trans (h.below.block k hk')⟩, by rw [← hlen]; exact hd, ?_, hown, h.qp, h.aq, fun x hx => ⟨hq x hx, ?_, ?_⟩, h.lo, fun t ht => ?_, ?_, ⟨by simp; omega, h.few.2⟩, (hk.block rb (lt_of_block h.rbx) (fun e => by rcases e with e | ⟨x, hx, e⟩; exact h.rbn.1 e; exact h.rbn.2.2 x hx e)).trans h.rbx, h.rbn.1, h.rbn.2.1, fun x hx => by rcases hor x hx with ⟨x0, hx0, e0⟩ | h2; rw [← e0]; exact h.rbn.2.2 x0 hx0; have := lt_of_block h.rbx; omega⟩, hPP, ha _, hk.size⟩
  · rcases e with e | ⟨x, hx, e⟩
    · omega
    · have := hsab x hx; omega
  · refine ⟨(hk.block p h.rd.lt (fun e => ?_)).trans h.rd.blk, ?_, h.rd.apart, h.rd.bare, h.rd.byts, h.rd.le, h.rd.small, h.rd.err, fun x hx => Nat.lt_of_lt_of_le (h.rd.inn x hx) hk.size⟩
    · rcases e with e | ⟨x, hx, e⟩
      · exact h.qp e.symm
      · exact (h.sq x hx).2.1 e
    · rcases h.rd.row with h1 | ⟨g, off, h1, h2, h3⟩
      · exact .inl h1
      · refine .inr ⟨g, off, h1, Nat.lt_of_lt_of_le h2 hk.size, fun u hu => ?_⟩
        have e := hk.block g h2 (fun e => by
          rcases e with e | ⟨x, hx, e⟩
          · exact h.aq _ h1 e
          · exact (h.sq x hx).2.2 _ h1 e.symm)
        have h4 := h3 u hu
        simp only [World.cell?] at h4 ⊢
        rw [e]; exact h4
  · rcases hor x hx with ⟨x0, hx0, e0⟩ | h2
    · rw [← e0]; exact (h.sq x0 hx0).2.1
    · have := h.rd.lt; omega
  · intro y hy
    rcases hor x hx with ⟨x0, hx0, e0⟩ | h2
    · rw [← e0]; exact (h.sq x0 hx0).2.2 y hy
    · have := h.rd.inn y hy; omega
  · rcases List.mem_append.1 ht with ht | ht
    · obtain ⟨j, hj, rfl⟩ := List.mem_map.1 ht
      have hj' : j < n := List.mem_range.1 hj
      have hS : Sok b (Prv rb q p a sa) W (f j) := ⟨fun k u hku => by
        obtain rfl := hBs j k u hj' hku
        exact ⟨hB0, hB1, hB2, hBr u⟩, hBz j hj', hBn j hj', hBf j hj'⟩
      exact hS.on (ha (fun _ _ => False)) (fun _ _ _ h => h) hPP hk.size
    · exact (h.slots t ht).on (ha (fun _ _ => False)) (fun _ _ _ h => h) hPP hk.size
  · rw [List.pairwise_append]
    refine ⟨?_, h.apart, fun x hx t ht k u h1 h2 => ?_⟩
    · rw [List.pairwise_map]
      refine List.Pairwise.imp_of_mem ?_ List.pairwise_lt_range
      intro i' j' hi hj hlt k u h1
      exact hBp i' j' hlt (List.mem_range.1 hj) k u h1
    · obtain ⟨j, hj, rfl⟩ := List.mem_map.1 hx
      exact hBt t ht k u h2 (hBs j k u (List.mem_range.1 hj) h1)
end
end Go.Proofs.Ytehapglbenaikaa
