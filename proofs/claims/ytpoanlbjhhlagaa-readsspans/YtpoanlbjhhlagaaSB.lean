/- A set in memory: its row of spans, and how many of them rise and are apart. -/
import Derived.Test.YtpoanlbjhhlagaaTB
import Derived.Test.YtpoanlbjhhlagaaXM
namespace Go.Proofs.Ytpoanlbjhhlagaa
open Go.RowKit Go.Maps
set_option linter.unusedVariables false

/-- a span whose bytes lie in blocks of the set's. -/
structure En.Lo (y : En) (B : Nat) (w : World) : Prop where
  key : Go.Proofs.Ytpoanlbjhhlagaa.Own w (.slice y.ka y.e.key.length y.kc) y.e.key
  val : Go.Proofs.Ytpoanlbjhhlagaa.Own w (.slice y.va y.e.val.length y.vc) y.e.val
  kb : ∀ k, (Value.slice y.ka y.e.key.length y.kc).ownBlock = some k → B ≤ k
  vb : ∀ k, (Value.slice y.va y.e.val.length y.vc).ownBlock = some k → B ≤ k
  k8 : Byts y.e.key
  v8 : Byts y.e.val
theorem En.Own.lo {y : En} {B : Nat} {w : World} (h : y.Own B w) : y.Lo B w := ⟨h.key, h.val, h.kb, h.vb, h.k8, h.v8⟩
section
variable {y : En} {B C k : Nat} {w w' : World}
theorem En.Lo.lt (h : y.Lo B w) (hk : y.has k) : k < w.heap.size := hk.elim h.key.lt h.val.lt
theorem En.Lo.ge (h : y.Lo B w) (hk : y.has k) : B ≤ k := hk.elim (h.kb k) (h.vb k)
theorem En.Lo.u8 (h : y.Lo B w) (hk : y.has k) : ∃ cur, w.heap[k]? = some (.cells cur 5 (0, 0)) := hk.elim h.key.u8 h.val.u8
theorem En.Lo.of_block (h : y.Lo B w) (hb : ∀ k, y.has k → w'.heap[k]? = w.heap[k]?) : y.Lo B w' :=
  ⟨h.key.of_block fun k hk => hb k (.inl hk), h.val.of_block fun k hk => hb k (.inr hk), h.kb, h.vb, h.k8, h.v8⟩
theorem En.Lo.below (h : y.Lo B w) (hb : Below w.heap.size w w') : y.Lo B w' := h.of_block fun k hk => hb.block k (h.lt hk)
theorem En.Lo.mono (h : y.Lo C w) (hb : B ≤ C) : y.Lo B w := ⟨h.key, h.val, fun k hk => Nat.le_trans hb (h.kb k hk), fun k hk => Nat.le_trans hb (h.vb k hk), h.k8, h.v8⟩
theorem En.Lo.ok (h : y.Lo B w) : y.Ok w := ⟨own_inn h.key h.k8, own_inn h.val h.v8⟩
end
/-- a set at p: its row sv of xs, the first ap of them. -/
structure Sm (w : World) (p B : Nat) (sv : Value) (xs : List En) (ap : Nat) : Prop where
  blk : w.heap[p]? = some (.cells #[sv, .int .i64 (ap : Int)] 79 (0, 0))
  row : w.ownsRow B 65 3 sv xs.length (rowc xs)
  each : ∀ x ∈ xs, x.Lo B w
  base : B ≤ p
/-- the blocks that a set writes. -/
def So (p : Nat) (sv : Value) (k : Nat) : Prop := k = p ∨ sv.ownBlock = some k
section
variable {w w' : World} {p B ap : Nat} {sv : Value} {xs : List En}
theorem Sm.lt (h : Sm w p B sv xs ap) {k : Nat} (hk : So p sv k) : k < w.heap.size := by
  rcases hk with rfl | hk
  · exact lt_of_block h.blk
  · exact (row_at h.row hk).2.1
theorem Sm.ge (h : Sm w p B sv xs ap) {k : Nat} (hk : So p sv k) : B ≤ k := by
  rcases hk with rfl | hk
  · exact h.base
  · exact (row_at h.row hk).1
/-- a block of bytes is none that a set writes. -/
theorem Sm.not_u8 (h : Sm w p B sv xs ap) {k : Nat} {cur : Array Value} (hk : w.heap[k]? = some (.cells cur 5 (0, 0))) : ¬ So p sv k := by
  rintro (rfl | e)
  · rw [h.blk] at hk; have := obj_type hk; simp at this
  · obtain ⟨_, _, c, hc⟩ := row_at h.row e; rw [hc] at hk; have := obj_type hk; simp at this
theorem Sm.sne (h : Sm w p B sv xs ap) : sv.ownBlock ≠ some p := fun e => by
  obtain ⟨_, _, c, hc⟩ := row_at h.row e; rw [h.blk] at hc; have := obj_type hc; simp at this
theorem Sm.of_block (h : Sm w p B sv xs ap) (hb : ∀ k, So p sv k ∨ (∃ x ∈ xs, x.has k) → w'.heap[k]? = w.heap[k]?) : Sm w' p B sv xs ap :=
  ⟨(hb p (.inl (.inl rfl))).trans h.blk, row_of_block h.row fun k hk => hb k (.inl (.inr hk)), fun x hx => (h.each x hx).of_block fun k hk => hb k (.inr ⟨x, hx, hk⟩), h.base⟩
theorem Sm.below (h : Sm w p B sv xs ap) (hb : Below w.heap.size w w') : Sm w' p B sv xs ap :=
  h.of_block fun k hk => hb.block k (hk.elim h.lt fun ⟨x, hx, hh⟩ => (h.each x hx).lt hh)
theorem Sm.ens (h : Sm w p B sv xs ap) : ∃ a c, sv = .slice a xs.length c ∧ Ens w a xs.length c xs := by
  obtain ⟨a, c, e, _⟩ := row_shape h.row
  have := h.row
  rw [e] at this
  exact ⟨a, c, e, row_ens rfl this fun x hx => (h.each x hx).ok⟩
end
/-- a set told by what lies in its spans: those of L. O are the blocks that it writes, E those that its bytes lie in. -/
def Sx (w : World) (p B : Nat) (L : List Ee) (O E : Nat → Prop) : Prop := ∃ sv xs ap, Sm w p B sv xs ap ∧ (∀ k, U (ers xs) k ↔ U L k) ∧ (∀ x ∈ ers xs, okS x) ∧ ap ≤ xs.length ∧ (ap = xs.length → Apt (ers xs)) ∧ xs.length ≤ L.length ∧ (∀ k, O k ↔ So p sv k) ∧ (∀ k, E k ↔ ∃ x ∈ xs, x.has k) ∧ (∀ x ∈ xs, x.e.key.length ≤ 40000 ∧ x.e.val.length ≤ 40000)
section
variable {w w' : World} {p B : Nat} {L : List Ee} {O E : Nat → Prop}
theorem Sx.below (h : Sx w p B L O E) (hb : Below w.heap.size w w') : Sx w' p B L O E := by
  obtain ⟨sv, xs, ap, h1, h2⟩ := h
  exact ⟨sv, xs, ap, h1.below hb, h2⟩
theorem Sx.of_block (h : Sx w p B L O E) (hb : ∀ k, O k ∨ E k → w'.heap[k]? = w.heap[k]?) : Sx w' p B L O E := by
  obtain ⟨sv, xs, ap, h1, h2, h3, h4, h5, h6, h7, h8, h9⟩ := h
  exact ⟨sv, xs, ap, h1.of_block fun k hk => hb k (hk.elim (fun h => .inl ((h7 k).2 h)) fun h => .inr ((h8 k).2 h)), h2, h3, h4, h5, h6, h7, h8, h9⟩
theorem Sx.olt (h : Sx w p B L O E) {k : Nat} (hk : O k) : k < w.heap.size ∧ B ≤ k := by
  obtain ⟨sv, xs, ap, h1, h2, h3, h4, h5, h6, h7, h8, h9⟩ := h
  exact ⟨h1.lt ((h7 k).1 hk), h1.ge ((h7 k).1 hk)⟩
theorem Sx.op (h : Sx w p B L O E) : O p := by
  obtain ⟨sv, xs, ap, h1, h2, h3, h4, h5, h6, h7, h8, h9⟩ := h
  exact (h7 p).2 (.inl rfl)
theorem Sx.elt (h : Sx w p B L O E) {k : Nat} (hk : E k) : k < w.heap.size ∧ B ≤ k ∧ ∃ c, w.heap[k]? = some (.cells c 5 (0, 0)) := by
  obtain ⟨sv, xs, ap, h1, h2, h3, h4, h5, h6, h7, h8, h9⟩ := h
  obtain ⟨x, hx, hk⟩ := (h8 k).1 hk
  exact ⟨(h1.each x hx).lt hk, (h1.each x hx).ge hk, (h1.each x hx).u8 hk⟩
/-- a block of bytes is none that a set writes. -/
theorem Sx.not_u8 (h : Sx w p B L O E) {k : Nat} {cur : Array Value} (hk : w.heap[k]? = some (.cells cur 5 (0, 0))) : ¬ O k := fun ho => by
  obtain ⟨sv, xs, ap, h1, h2, h3, h4, h5, h6, h7, h8, h9⟩ := h
  exact h1.not_u8 hk ((h7 k).1 ho)
theorem Sx.otyp (h : Sx w p B L O E) {k : Nat} (hk : O k) : ∃ cs t, w.heap[k]? = some (.cells cs t (0, 0)) ∧ (t = 79 ∨ t = 65) := by
  obtain ⟨sv, xs, ap, h1, h2, h3, h4, h5, h6, h7, h8, h9⟩ := h
  rcases (h7 k).1 hk with rfl | e
  · exact ⟨_, _, h1.blk, .inl rfl⟩
  · obtain ⟨_, _, c, hc⟩ := row_at h1.row e
    exact ⟨c, _, hc, .inr rfl⟩
/-- bytes written over that are not the set's. -/
theorem Sx.grown (h : Sx w p B L O E) {g : Nat} (hg : w.grownBy w' (some g)) (hO : ¬ O g) (hE : ¬ E g) : Sx w' p B L O E :=
  h.of_block fun k hk => hg.block k (hk.elim (fun h1 => (h.olt h1).1) fun h1 => (h.elt h1).1) fun e => by cases e; exact hk.elim hO hE
end
/-- nothing added yet. -/
theorem Sx.new (w : World) (B : Nat) (hB : B ≤ w.heap.size) : Sx (w.alloc (.cells #[.slice none 0 0, .int .i64 0] 79)) w.heap.size B [] (fun k => k = w.heap.size) (fun _ => False) := by
  refine ⟨.slice none 0 0, [], 0, ⟨heap_alloc_new w _, ⟨rfl, .inl ⟨rfl, rfl⟩⟩, by simp, hB⟩, fun k => Iff.rfl, by simp [ers], by simp, fun _ => apt_nil, by simp, fun k => ⟨fun h => .inl h, fun h => ?_⟩, fun k => ⟨fun h => h.elim, fun ⟨x, hx, _⟩ => by simp at hx⟩, by simp⟩
  rcases h with h | h
  · exact h
  · simp [Value.ownBlock] at h
end Go.Proofs.Ytpoanlbjhhlagaa
