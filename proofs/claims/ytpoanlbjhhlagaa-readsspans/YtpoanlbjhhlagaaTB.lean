/- Lists of spans that are the call's own. -/
import Derived.Test.YtpoanlbjhhlagaaFB
import Derived.Test.YtpoanlbjhhlagaaB
namespace Go.Proofs.Ytpoanlbjhhlagaa
open Go.RowKit Go.Maps
set_option linter.unusedVariables false

/-- a list of entries that is the call's own, from B on: the row, and each entry's bytes, in blocks of their own. -/
structure Cl (B : Nat) (w : World) (v : Value) (ys : List En) : Prop where
  row : w.ownsRow B 65 3 v ys.length (rowc ys)
  each : ∀ y ∈ ys, y.Own B w
  apart : ∀ (i j : Nat) (yi yj : En) (k : Nat), ys[i]? = some yi → ys[j]? = some yj → yi.has k → yj.has k → i = j
theorem Cl.block {B : Nat} {w : World} {v : Value} {ys : List En} (h : Cl B w v ys) {k : Nat} (hk : v.ownBlock = some k) : B ≤ k ∧ k < w.heap.size ∧ ∃ cur, w.heap[k]? = some (.cells cur 65 (0, 0)) := by
  rcases h.row.2 with ⟨rfl, _⟩ | ⟨g, cap, cur, rfl, hb, hg, _⟩
  · simp [Value.ownBlock] at hk
  · simp [Value.ownBlock] at hk; subst hk; exact ⟨hb, lt_of_block hg, cur, hg⟩
theorem type_ne {w : World} {k : Nat} {c c' : Array Value} (h : w.heap[k]? = some (.cells c 5 (0, 0))) (h' : w.heap[k]? = some (.cells c' 65 (0, 0))) : False := by
  rw [h] at h'
  have := congrArg (fun o : Option Obj => match o with | some (.cells _ t _) => t | _ => 0) h'
  simp at this
theorem Cl.apart2 {B : Nat} {w : World} {v : Value} {ys : List En} (h : Cl B w v ys) {y : En} (hy : y ∈ ys) {k : Nat} (hk : y.has k) : v.ownBlock ≠ some k := fun e => by
  obtain ⟨_, _, cur, h1⟩ := h.block e
  obtain ⟨cur', h2⟩ := (h.each y hy).u8 hk
  exact type_ne h2 h1
theorem Cl.of_block {B : Nat} {w w' : World} {v : Value} {ys : List En} (h : Cl B w v ys) (hv : ∀ k, v.ownBlock = some k → w'.heap[k]? = w.heap[k]?) (hy : ∀ y ∈ ys, ∀ k, y.has k → w'.heap[k]? = w.heap[k]?) : Cl B w' v ys :=
  ⟨row_of_block h.row hv, fun y hy' => (h.each y hy').of_block (hy y hy'), h.apart⟩
theorem Cl.below {B : Nat} {w w' : World} {v : Value} {ys : List En} (h : Cl B w v ys) (hb : Below w.heap.size w w') : Cl B w' v ys :=
  h.of_block (fun k hk => hb.block k (h.block hk).2.1) (fun y hy k hk => hb.block k ((h.each y hy).lt hk))
theorem Cl.ens {B : Nat} {w : World} {v : Value} {ys : List En} (h : Cl B w v ys) : ∃ a c, v = .slice a ys.length c ∧ Ens w a ys.length c ys := by
  rcases h.row.2 with ⟨rfl, h0⟩ | ⟨g, cap, cur, rfl, hb, hg, hn, hm, hcs, htake⟩
  · have e : ys = [] := List.eq_nil_of_length_eq_zero h0
    subst e
    exact ⟨none, 0, rfl, ens_nil w⟩
  · refine ⟨_, _, rfl, rfl, hn, by unfold maxLen at hm; omega, by (intro e; cases e), .inr ⟨g, 0, rfl, lt_of_block hg, fun j u hu => ?_⟩, fun y hy => (h.each y hy).ok⟩
    have := h.row.cells (g := g) rfl j u hu
    rwa [Addr.add_lit] at this
/-- one more entry, laid behind the others. -/
theorem Cl.snoc {B : Nat} {w w1 w' : World} {v v' : Value} {ys : List En} {y : En} (h : Cl B w v ys) (hB : B ≤ w.heap.size) (hb : Below w.heap.size w w1) (hy : y.Own w.heap.size w1) (hg : w1.grownBy w' v.ownBlock) (hr : w'.ownsRow B 65 3 v' (ys.length + 1) (rowc ys ++ y.cells)) : Cl B w' v' (ys ++ [y]) := by
  have h1 := h.below hb
  have stay : ∀ z k, (z ∈ ys ∨ z = y) → z.has k → w'.heap[k]? = w1.heap[k]? := by
    intro z k hz hk
    rcases hz with hz | rfl
    · exact hg.block k ((h1.each z hz).lt hk) (fun e => h1.apart2 hz hk e.symm)
    · refine hg.block k (hy.lt hk) (fun e => ?_)
      have h3 := (h.block e.symm).2.1
      have h4 := hy.ge hk
      omega
  refine ⟨by rw [List.length_append, List.length_singleton, rowc_app, rowc_one]; exact hr, fun z hz => ?_, fun i j yi yj k hi hj hki hkj => ?_⟩
  · rcases List.mem_append.1 hz with hz | hz
    · exact (h1.each z hz).of_block fun k hk => stay z k (.inl hz) hk
    · simp at hz; subst hz
      exact (hy.mono hB).of_block fun k hk => stay z k (.inr rfl) hk
  · have old : ∀ (i : Nat) (z : En), (ys ++ [y])[i]? = some z → (i < ys.length ∧ ys[i]? = some z) ∨ (i = ys.length ∧ z = y) := by
      intro i z hz
      by_cases hlt : i < ys.length
      · rw [List.getElem?_append_left hlt] at hz; exact .inl ⟨hlt, hz⟩
      · rw [List.getElem?_append_right (by omega)] at hz
        obtain ⟨h0, h1⟩ := List.getElem?_eq_some_iff.1 hz
        simp at h0
        refine .inr ⟨by omega, ?_⟩
        simpa using h1.symm
    rcases old i yi hi with ⟨_, a1⟩ | ⟨a0, rfl⟩ <;> rcases old j yj hj with ⟨_, b1⟩ | ⟨b0, e⟩
    · exact h.apart i j yi yj k a1 b1 hki hkj
    · subst e
      have q1 := (h.each yi (List.mem_of_getElem? a1)).lt hki
      have q2 := hy.ge hkj
      omega
    · have q1 := (h.each yj (List.mem_of_getElem? b1)).lt hkj
      have q2 := hy.ge hki
      omega
    · omega

end Go.Proofs.Ytpoanlbjhhlagaa
