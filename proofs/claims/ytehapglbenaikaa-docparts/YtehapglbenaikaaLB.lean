/- The reader of documents: what waits to be filled, and what comes out when it is. -/
import Derived.Test.YtehapglbenaikaaLA
import Derived.Test.YtehapglbenaikaaKQ
namespace Go.Proofs.Ytehapglbenaikaa
open Go.RowKit
set_option linter.unusedVariables false

/-- a slot: where the name goes, if it has one; where the value goes. -/
abbrev Sl := Option (Nat × Nat) × (Nat × Nat)
def ad (x : Nat × Nat) : Addr := ⟨x.1, x.2, none⟩
/-- the cells that a slot waits for. -/
def SC (s : Sl) (k i : Nat) : Prop := s.1 = some (k, i) ∨ (k = s.2.1 ∧ s.2.2 ≤ i ∧ i < s.2.2 + 7)
def sc1 (s : Sl) : List Value := [.pointer (s.1.map ad), .pointer (some (ad s.2))]
def scells (l : List Sl) : List Value := l.flatMap sc1
theorem scells_len (l : List Sl) : (scells l).length = l.length * 2 := by
  induction l with
  | nil => rfl
  | cons x r ih => simp only [scells, List.flatMap_cons, List.length_append, List.length_cons] at ih ⊢; rw [ih]; simp [sc1]; omega
theorem scells_app (l m : List Sl) : scells (l ++ m) = scells l ++ scells m := by simp [scells]
/-- the value v lies at x. -/
def At (W : World) (x : Nat × Nat) (v : T) : Prop := ∀ j u, v.cells[j]? = some u → W.cell? ⟨x.1, x.2 + j, none⟩ = some u
/-- a value that may come out. -/
def T.Ok (v : T) : Prop := v.Wd ∧ v.cl
def Filled (W : World) (s : Sl) (x : ByteArray × T) : Prop :=
  (∀ y, s.1 = some y → W.cell? (ad y) = some (.string x.1)) ∧ At W s.2 x.2 ∧ x.2.Mem W.heap.size W ∧ x.2.Ok ∧ x.1.size ≤ 10000000
def senc (s : Sl) (x : ByteArray × T) : List Int := (if s.1.isSome then vb x.1.size ++ sb x.1 else []) ++ x.2.denc
def renc : List Sl → List (ByteArray × T) → List Int
  | s :: r, x :: y => senc s x ++ renc r y
  | _, _ => []
theorem renc_app (l m : List Sl) (x y : List (ByteArray × T)) (h : x.length = l.length) : renc (l ++ m) (x ++ y) = renc l x ++ renc m y := by
  induction l generalizing x with
  | nil =>
    cases x with
    | nil => simp [renc]
    | cons a b => simp at h
  | cons s r ih =>
    cases x with
    | nil => simp at h
    | cons a b => simp only [List.cons_append, renc, ih b (by simpa using h), List.append_assoc]
/-- all cells from n₁ on, but those of P and of X, are as they were. -/
def Agr (n₁ : Nat) (P : Nat → Prop) (X : Nat → Nat → Prop) (W W' : World) : Prop := ∀ k i, n₁ ≤ k → k < W.heap.size → ¬ P k → (¬ X k i → W'.cell? ⟨k, i, none⟩ = W.cell? ⟨k, i, none⟩) ∧ W'.frozen? ⟨k, i, none⟩ = W.frozen? ⟨k, i, none⟩
/-- whatever fills the slots makes a value at t, whose bytes are C and those of what fills them. -/
def Wand (n₁ : Nat) (P : Nat → Prop) (W : World) (st : List Sl) (t : Nat × Nat) (C : List Int) : Prop :=
  ∀ (W' : World) (xs : List (ByteArray × T)), xs.length = st.length → W.heap.size ≤ W'.heap.size → Agr n₁ P (fun k i => ∃ s ∈ st, SC s k i) W W' → (∀ (j : Nat) s x, st[j]? = some s → xs[j]? = some x → Filled W' s x) →
    ∃ v : T, At W' t v ∧ v.Mem W'.heap.size W' ∧ v.Ok ∧ v.denc = C ++ renc st xs
theorem Wand.step {n₁ : Nat} {P P1 : Nat → Prop} {W W1 : World} {s : Sl} {st new : List Sl} {t : Nat × Nat} {C E : List Int} (h : Wand n₁ P W (s :: st) t C) (hP : ∀ k, k < W.heap.size → P1 k → P k) (hsz : W.heap.size ≤ W1.heap.size)
    (hnew : ∀ x ∈ new, ∀ k i, SC x k i → W.heap.size ≤ k) (hag : Agr n₁ P (SC s) W W1)
    (hf : ∀ (W' : World) (xs : List (ByteArray × T)), xs.length = new.length → W1.heap.size ≤ W'.heap.size → Agr n₁ P1 (fun k i => ∃ x ∈ new ++ st, SC x k i) W1 W' → (∀ (j : Nat) x y, new[j]? = some x → xs[j]? = some y → Filled W' x y) → ∃ x, Filled W' s x ∧ senc s x = E ++ renc new xs) :
    Wand n₁ P1 W1 (new ++ st) t (C ++ E) := by
  intro W' xs hl hs ha hF
  have hxs : xs = xs.take new.length ++ xs.drop new.length := (List.take_append_drop _ _).symm
  have hl1 : (xs.take new.length).length = new.length := by rw [List.length_take]; rw [List.length_append] at hl; omega
  have hl2 : (xs.drop new.length).length = st.length := by rw [List.length_drop]; rw [List.length_append] at hl; omega
  obtain ⟨x, hx, he⟩ := hf W' (xs.take new.length) hl1 hs ha (fun j a b h1 h2 => hF j a b (by rw [List.getElem?_append_left (List.getElem?_eq_some_iff.1 h1).1]; exact h1) (by
    rw [List.getElem?_take] at h2
    split at h2
    · exact h2
    · simp at h2))
  obtain ⟨v, h1, h2, h3, h4⟩ := h W' (x :: xs.drop new.length) (by simp [hl2]) (Nat.le_trans hsz hs) (fun k i hk hk2 hp => by
      obtain ⟨g1, g2⟩ := ha k i hk (Nat.lt_of_lt_of_le hk2 hsz) (fun h => hp (hP k hk2 h))
      obtain ⟨g3, g4⟩ := hag k i hk hk2 hp
      refine ⟨fun hn => ?_, g2.trans g4⟩
      rw [g1 ?_]
      · exact g3 (fun h => hn ⟨s, by simp, h⟩)
      · rintro ⟨y, hy, hsc⟩
        rcases List.mem_append.1 hy with hy | hy
        · have := hnew y hy k i hsc; omega
        · exact hn ⟨y, by simp [hy], hsc⟩) (fun j a b h1 h2 => by
      cases j with
      | zero =>
        simp at h1 h2
        subst h1
        subst h2
        exact hx
      | succ j =>
        simp only [List.getElem?_cons_succ] at h1 h2
        refine hF (new.length + j) a b ?_ ?_
        · rw [List.getElem?_append_right (by omega)]; simpa using h1
        · rwa [List.getElem?_drop] at h2)
  refine ⟨v, h1, h2, h3, ?_⟩
  rw [h4]
  conv => rhs; rw [hxs, renc_app _ _ _ _ hl1]
  simp only [renc, he, List.append_assoc]
/-- the sizes of what is still to come. -/
def more (ts : List (ByteArray × T)) : Nat := (ts.map (fun x => x.2.sz - 1)).sum
/-- if the bytes are a value's, those that are left are those of what still waits. -/
def Gh (bs : List Int) (st : List Sl) (i N : Nat) : Prop :=
  ∀ v0 : T, v0.Wd → v0.sz ≤ 512 → v0.denc = bs → ∃ ts : List (ByteArray × T), ts.length = st.length ∧ (∀ x ∈ ts, x.2.Wd ∧ x.1.size ≤ 10000000) ∧ bs.drop i = renc st ts ∧ N + more ts ≤ 512
def NoV (bs : List Int) : Prop := ∀ v0 : T, v0.Wd → v0.sz ≤ 512 → v0.denc = bs → False
end Go.Proofs.Ytehapglbenaikaa
