/- The reader of documents: within one value: the next slot is taken, its name read. -/
import Derived.Test.YtehapglbenaikaaLC
namespace Go.Proofs.Ytehapglbenaikaa
open Go.RowKit
set_option linter.unusedVariables false

/-- within one value, whose slot is s. -/
structure Md (rb n₁ : Nat) (w0 : World) (q p : Nat) (a : Option Addr) (bs : List Int) (W0 : World) (s : Sl) (st : List Sl) (sa : Option Addr) (sc N : Nat) (nv : ByteArray) (W : World) (i e : Nat) : Prop where
  sta : St rb n₁ w0 q p a bs W st sa sc N i e
  rng : ∀ k j, SC s k j → n₁ ≤ k ∧ k < W0.heap.size ∧ ¬ Prv rb q p a sa k ∧ W.frozen? ⟨k, j, none⟩ = false
  apart : ∀ t ∈ st, ∀ k j, SC s k j → ¬ SC t k j
  low : ∀ t ∈ st, ∀ k j, SC t k j → k < W0.heap.size
  self : ∀ y, s.1 = some y → ¬ (y.1 = s.2.1 ∧ s.2.2 ≤ y.2 ∧ y.2 < s.2.2 + 7)
  name : ∀ y, s.1 = some y → W.cell? (ad y) = some (.string nv)
  agr : Agr n₁ (Prv rb q p a sa) (SC s) W0 W
  size : W0.heap.size ≤ W.heap.size
section
variable {rb n₁ : Nat} {w0 : World} {q p : Nat} {a : Option Addr} {bs : List Int} {W0 W W' : World} {s : Sl} {st : List Sl} {sa : Option Addr} {sc N i e : Nat} {nv : ByteArray}
theorem Md.read (h : Md rb n₁ w0 q p a bs W0 s st sa sc N nv W i e) {i' e' : Nat} (hr : Rd W' p a bs i' e') (hg : W.grownBy W' (some p)) : Md rb n₁ w0 q p a bs W0 s st sa sc N nv W' i' e' := by
  have ha : Agr n₁ (Prv rb q p a sa) (SC s) W W' := agr_of_grown hg (.inr (.inl rfl))
  have ha2 : Agr n₁ (Prv rb q p a sa) (fun _ _ => False) W W' := agr_of_grown hg (.inr (.inl rfl))
  refine ⟨h.sta.read hr hg, fun k j hk => ?_, h.apart, h.low, h.self, fun y hy => ?_, h.agr.trans ha h.size, Nat.le_trans h.size hg.size⟩
  · obtain ⟨h1, h2, h3, h4⟩ := h.rng k j hk
    exact ⟨h1, h2, h3, (ha k j h1 (Nat.lt_of_lt_of_le h2 h.size) h3).2.trans h4⟩
  · obtain ⟨h1, h2, h3, h4⟩ := h.rng y.1 y.2 (.inl hy)
    exact ((ha2 y.1 y.2 h1 (Nat.lt_of_lt_of_le h2 h.size) h3).1 (fun h => h)).trans (h.name y hy)
theorem Md.on (h : Md rb n₁ w0 q p a bs W0 s st sa sc N nv W i e) (hb : Below W.heap.size W W') : Md rb n₁ w0 q p a bs W0 s st sa sc N nv W' i e := by
  have ha : Agr n₁ (Prv rb q p a sa) (SC s) W W' := agr_of_below hb
  have ha2 : Agr n₁ (Prv rb q p a sa) (fun _ _ => False) W W' := agr_of_below hb
  refine ⟨h.sta.on hb, fun k j hk => ?_, h.apart, h.low, h.self, fun y hy => ?_, h.agr.trans ha h.size, Nat.le_trans h.size hb.size⟩
  · obtain ⟨h1, h2, h3, h4⟩ := h.rng k j hk
    exact ⟨h1, h2, h3, (ha k j h1 (Nat.lt_of_lt_of_le h2 h.size) h3).2.trans h4⟩
  · obtain ⟨h1, h2, h3, h4⟩ := h.rng y.1 y.2 (.inl hy)
    exact ((ha2 y.1 y.2 h1 (Nat.lt_of_lt_of_le h2 h.size) h3).1 (fun h => h)).trans (h.name y hy)
theorem Md.set (h : Md rb n₁ w0 q p a bs W0 s st sa sc N nv W i e) (j : Nat) (hj : j < 7) (v : Value) : Md rb n₁ w0 q p a bs W0 s st sa sc N nv (W.setCell ⟨s.2.1, s.2.2 + j, none⟩ v) i e := by
  have hk := SC.val s j hj
  have hg := grown_setCell W s.2.1 (s.2.2 + j) v
  refine ⟨h.sta.set (s := s) (fun k j hk => ⟨(h.rng k j hk).1, Nat.lt_of_lt_of_le (h.rng k j hk).2.1 h.size, (h.rng k j hk).2.2.1⟩) h.apart hk v, fun k j' hk => ?_, h.apart, h.low, h.self, fun y hy => ?_, fun x y h1 h2 h3 => ?_, Nat.le_trans h.size hg.size⟩
  · obtain ⟨h1, h2, h3, h4⟩ := h.rng k j' hk
    exact ⟨h1, h2, h3, by simpa using h4⟩
  · rw [World.cell?_setCell_other]
    · exact h.name y hy
    · intro e
      have e1 : s.2.1 = y.1 := congrArg Addr.block e
      have e2 : s.2.2 + j = y.2 := congrArg Addr.off e
      exact h.self y hy ⟨e1.symm, by omega, by omega⟩
  · obtain ⟨g1, g2⟩ := h.agr x y h1 h2 h3
    refine ⟨fun hn => ?_, by simpa using g2⟩
    rw [World.cell?_setCell_other]
    · exact g1 hn
    · intro e
      have e1 : s.2.1 = x := congrArg Addr.block e
      have e2 : s.2.2 + j = y := congrArg Addr.off e
      subst e1; subst e2
      exact hn hk
end
/-- the name of a slot, where the reader stands then, its error. -/
def nx (bs : List Int) (s : Sl) (i e : Nat) : List Int × Nat × Nat := if s.1.isSome then rt bs i e else ([], i, e)
theorem scells_top (s : Sl) (st : List Sl) : scells (s :: st).reverse = scells st.reverse ++ sc1 s := by rw [List.reverse_cons, scells_app]; simp [scells]
theorem owns_pop {W W' : World} {n₁ : Nat} {sa : Option Addr} {n sc : Nat} {xs ys : List Value} (h : W.ownsRow n₁ 70 2 (.slice sa (n + 1) sc) (n + 1) (xs ++ ys)) (hx : xs.length = n * 2) (hb : ∀ x, sa = some x → W'.heap[x.block]? = W.heap[x.block]?) : W'.ownsRow n₁ 70 2 (.slice sa n sc) n xs := by
  refine ⟨hx, ?_⟩
  rcases h.2 with ⟨_, h1⟩ | ⟨g, cap, cur, h1, h2, h3, h4, h5, h6, h7⟩
  · omega
  · have e : sa = some ⟨g, 0, none⟩ ∧ sc = cap := by simpa using h1
    obtain ⟨rfl, rfl⟩ := e
    refine .inr ⟨g, sc, cur, rfl, h2, (hb _ rfl).trans h3, by omega, h5, h6, ?_⟩
    have := congrArg (List.take (n * 2)) h7
    rw [List.take_take, Nat.min_eq_left (by omega), List.take_append_of_le_length (by omega)] at this
    rw [this, List.take_of_length_le (by omega)]
theorem owns_at {W : World} {n₁ : Nat} {sa : Option Addr} {n sc : Nat} {xs : List Value} {u v : Value} (h : W.ownsRow n₁ 70 2 (.slice sa (n + 1) sc) (n + 1) (xs ++ [u, v])) (hx : xs.length = n * 2) : ∃ g, sa = some ⟨g, 0, none⟩ ∧ n₁ ≤ g ∧ g < W.heap.size ∧ n + 1 ≤ sc ∧ W.cell? ⟨g, 0 + n * 2, none⟩ = some u ∧ W.cell? ⟨g, 0 + n * 2 + 1, none⟩ = some v := by
  rcases h.2 with ⟨_, h1⟩ | ⟨g, cap, cur, h1, h2, h3, h4, h5, h6, h7⟩
  · omega
  · have e : sa = some ⟨g, 0, none⟩ ∧ sc = cap := by simpa using h1
    obtain ⟨rfl, rfl⟩ := e
    have hc := h.cells (g := g) rfl
    refine ⟨g, rfl, h2, lt_of_block h3, h4, ?_, ?_⟩
    · have := hc (n * 2) u (by rw [List.getElem?_append_right (by omega), hx, Nat.sub_self]; rfl)
      rwa [Addr.add_lit] at this
    · have := hc (n * 2 + 1) v (by rw [List.getElem?_append_right (by omega), hx, show n * 2 + 1 - n * 2 = 1 by omega]; rfl)
      rwa [Addr.add_lit, ← Nat.add_assoc] at this
theorem next_st (rb n₁ : Nat) (w0 : World) (q p : Nat) (a : Option Addr) (bs : List Int) (W : World) (s : Sl) (st : List Sl) (sa : Option Addr) (sc N i e : Nat) (h : St rb n₁ w0 q p a bs W (s :: st) sa sc N i e) :
    Calls Try.prog 27 #[.pointer (some ⟨q, 0, none⟩)] W fun r W' => r = .returned (.pointer (some (ad s.2))) ∧ Md rb n₁ w0 q p a bs W s st sa sc N (bk (nx bs s i e).1) W' (nx bs s i e).2.1 (nx bs s i e).2.2 ∧ At W' s.2 zeroT := by
  have hown := h.own
  rw [scells_top] at hown
  simp only [List.length_cons, sc1] at hown
  have hxl : (scells st.reverse).length = st.length * 2 := by rw [scells_len, List.length_reverse]
  obtain ⟨g, rfl, hg1, hgl, hg2, c0, c1⟩ := owns_at hown hxl
  have hdr := h.dr
  simp only [List.length_cons] at hdr
  have hS := h.slots s (by simp)
  have hfew := h.few
  simp only [List.length_cons] at hfew
  have hap : ∀ t ∈ st, ∀ k j, SC s k j → ¬ SC t k j := (List.pairwise_cons.1 h.apart).1
  have hap2 := (List.pairwise_cons.1 h.apart).2
  have hsq := h.sq _ rfl
  have hn1 := h.n1
  have hlow : ∀ t ∈ st, ∀ k j, SC t k j → k < W.heap.size := fun t ht k j hk => ((h.slots t (by simp [ht])).rng k j hk).2.1
  cases hs1 : s.1 with
  | none =>
    have hnx : nx bs s i e = ([], i, e) := by simp [nx, hs1]
    rw [hnx]
    rw [hs1] at c0
    refine (next_nil q p g 0 st.length sc N i e (ad s.2) a bs W hdr h.rd h.qp h.aq hg2 (by omega) c0 c1).mono ?_
    rintro r W' ⟨rfl, hd', hr', hk'⟩
    have ha : Agr n₁ (Prv rb q p a (some ⟨g, 0, none⟩)) (SC s) W W' := agr_of_blocks fun k _ h2 h3 => hk'.block k h2 (fun e => h3 (.inl e))
    have ha2 : Agr n₁ (Prv rb q p a (some ⟨g, 0, none⟩)) (fun _ _ => False) W W' := agr_of_blocks fun k _ h2 h3 => hk'.block k h2 (fun e => h3 (.inl e))
    have hst : St rb n₁ w0 q p a bs W' st (some ⟨g, 0, none⟩) sc N i e := by
      refine ⟨⟨hk'.os.trans h.below.os, hk'.tape.trans h.below.tape, hk'.output.trans h.below.output, Nat.le_trans h.below.size hk'.size, fun k hk => (hk'.block k (by omega) (fun e => by have := h.lo.1; omega)).trans (h.below.block k hk)⟩, hd', hr', owns_pop hown hxl (fun x hx => ?_), h.qp, h.aq, h.sq, h.lo, fun t ht => (h.slots t (by simp [ht])).on ha2 (fun _ _ _ h => h) (fun _ _ h => h) hk'.size, hap2, ⟨by omega, by omega⟩, (hk'.block rb (lt_of_block h.rbx) (fun e => h.rbn.1 e)).trans h.rbx, h.rbn⟩
      cases hx
      exact hk'.block g hgl (fun e => hsq.1 e)
    refine ⟨rfl, ⟨hst, fun k j hk => ?_, hap, hlow, hS.self, fun y hy => by simp [hs1] at hy, ha, hk'.size⟩, hS.zero.on (fun j hj => ?_)⟩
    · obtain ⟨h1, h2, h3, h4⟩ := hS.rng k j hk
      exact ⟨h1, h2, h3, (ha k j h1 h2 h3).2.trans h4⟩
    · obtain ⟨h1, h2, h3, h4⟩ := hS.rng _ _ (SC.val s j hj)
      exact (ha2 _ _ h1 h2 h3).1 (fun h => h)
  | some y =>
    have hnx : nx bs s i e = rt bs i e := by simp [nx, hs1]
    rw [hnx]
    rw [hs1] at c0
    have hsc : SC s y.1 y.2 := .inl hs1
    obtain ⟨h1, h2, h3, h4⟩ := hS.rng _ _ hsc
    obtain ⟨x0, hx0⟩ := hS.name y hs1
    have hyq : y.1 ≠ q := fun e => h3 (.inl e)
    have hyp : y.1 ≠ p := fun e => h3 (.inr (.inl e))
    refine (next_name q p g 0 st.length sc N i e y.1 y.2 (ad s.2) a bs W hdr h.rd h.qp h.aq hg2 (by omega) c0 c1 ⟨x0, hx0⟩ h4 hyq hyp (fun x hx e => h3 (.inr (.inr (.inl ⟨x, hx, e⟩)))) h2).mono ?_
    rintro r W' ⟨rfl, hd', hr', hk', hc', hco, hfo⟩
    have ha0 : Agr n₁ (Prv rb q p a (some ⟨g, 0, none⟩)) (fun k j => k = y.1 ∧ j = y.2) W W' := fun k j k1 k2 k3 => by
      by_cases hky : k = y.1
      · subst hky
        exact ⟨fun hn => hco j (fun e => hn ⟨rfl, e⟩), hfo j⟩
      · have e := hk'.block k k2 (fun e => by rcases e with e | e | e; exact k3 (.inl e); exact k3 (.inr (.inl e)); exact hky e)
        refine ⟨fun _ => ?_, ?_⟩
        · simp only [World.cell?]; rw [e]
        · simp only [World.frozen?]; rw [e]
    have ha : Agr n₁ (Prv rb q p a (some ⟨g, 0, none⟩)) (SC s) W W' := fun k j k1 k2 k3 => ⟨fun hn => (ha0 k j k1 k2 k3).1 (fun hh => hn (by obtain ⟨rfl, rfl⟩ := hh; exact hsc)), (ha0 k j k1 k2 k3).2⟩
    have hst : St rb n₁ w0 q p a bs W' st (some ⟨g, 0, none⟩) sc N (rt bs i e).2.1 (rt bs i e).2.2 := by
      refine ⟨⟨hk'.os.trans h.below.os, hk'.tape.trans h.below.tape, hk'.output.trans h.below.output, Nat.le_trans h.below.size hk'.size, fun k hk => (hk'.block k (by omega) (fun e => by have := h.lo.1; have := h.lo.2.1; omega)).trans (h.below.block k hk)⟩, hd', hr', owns_pop hown hxl (fun x hx => ?_), h.qp, h.aq, h.sq, h.lo, fun t ht => (h.slots t (by simp [ht])).on ha (fun k j hk hk' => hap t ht k j hk' hk) (fun _ _ h => h) hk'.size, hap2, ⟨by omega, by omega⟩, (hk'.block rb (lt_of_block h.rbx) (fun e => by rcases e with e | e | e; exact h.rbn.1 e; exact h.rbn.2.1 e; exact h3 (.inr (.inr (.inr (.inr e.symm)))))).trans h.rbx, h.rbn⟩
      cases hx
      refine hk'.block g hgl (fun e => ?_)
      rcases e with e | e | e
      · exact hsq.1 e
      · exact hsq.2.1 e
      · exact h3 (.inr (.inr (.inr (.inl ⟨_, rfl, e⟩))))
    refine ⟨rfl, ⟨hst, fun k j hk => ?_, hap, hlow, hS.self, fun z hz => ?_, ha, hk'.size⟩, hS.zero.on (fun j hj => ?_)⟩
    · obtain ⟨g1, g2, g3, g4⟩ := hS.rng k j hk
      exact ⟨g1, g2, g3, (ha k j g1 g2 g3).2.trans g4⟩
    · rw [hs1] at hz
      cases hz
      exact hc'
    · obtain ⟨g1, g2, g3, g4⟩ := hS.rng _ _ (SC.val s j hj)
      exact (ha0 _ _ g1 g2 g3).1 (fun hh => hS.self y hs1 ⟨hh.1.symm, by omega, by omega⟩)
end Go.Proofs.Ytehapglbenaikaa
