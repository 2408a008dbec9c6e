/- What can be read: entries and nodes as bytes, and that their bytes tell them apart. -/
import Derived.Test.YtjojpohnmfkanaaRE
import Derived.Test.YtjojpohnmfkanaaZM
namespace Go.Proofs.Ytjojpohnmfkanaa
open Go.RowKit
set_option linter.unusedVariables false

/-- a value that can be read: a small one, or where a great one lies. -/
def VOk (val : List Int) (page size : Nat) : Prop := Byts val ∧ ((page = 0 ∧ size = 0 ∧ val.length < 255) ∨ (⟨[], val, page, size⟩ : Ee).great = true)
def vtail (val : List Int) (page size : Nat) : List Int := (⟨[], val, page, size⟩ : Ee).tail
/-- an entry that can be read. -/
def Ee.Rok (leaf : Bool) (e : Ee) : Prop := e.key.length < 256 ∧ Byts e.key ∧ (if leaf then VOk e.val e.page e.size else e.val = [] ∧ e.size = 0 ∧ e.page < 4294967296)
theorem enc_tail (e : Ee) : e.enc true = (e.key.length : Int) :: (e.key ++ vtail e.val e.page e.size) := by rw [enc_leaf]; rfl
theorem great_iff {val : List Int} {page size : Nat} : (⟨[], val, page, size⟩ : Ee).great = true ↔ val = [] ∧ 2 ≤ page ∧ page < 16384 ∧ 64 < size ∧ size ≤ 8192 := by
  simp [Ee.great, pageOk]
  omega
theorem vtail_small {val : List Int} : vtail val 0 0 = (val.length : Int) :: val := by simp [vtail, Ee.tail]
theorem vtail_great {val : List Int} {page size : Nat} (h : page ≠ 0) : vtail val page size = 255 :: (Crc.le 4 size ++ Crc.le 4 page) := by simp [vtail, Ee.tail, h]
theorem vok_cases {val : List Int} {page size : Nat} (h : VOk val page size) : (page = 0 ∧ size = 0 ∧ val.length < 255 ∧ vtail val page size = (val.length : Int) :: val) ∨ (val = [] ∧ 2 ≤ page ∧ page < 16384 ∧ 64 < size ∧ size ≤ 8192 ∧ vtail val page size = 255 :: (Crc.le 4 size ++ Crc.le 4 page)) := by
  rcases h.2 with ⟨rfl, rfl, h2⟩ | h2
  · exact .inl ⟨rfl, rfl, h2, vtail_small⟩
  · obtain ⟨a, b, c, d, e⟩ := great_iff.1 h2
    exact .inr ⟨a, b, c, d, e, vtail_great (by omega)⟩
theorem vtail_free {v v' : List Int} {p s p' s' : Nat} {r r' : List Int} (h : VOk v p s) (h' : VOk v' p' s') (e : vtail v p s ++ r = vtail v' p' s' ++ r') : v = v' ∧ p = p' ∧ s = s' ∧ r = r' := by
  rcases vok_cases h with ⟨rfl, rfl, hl, ht⟩ | ⟨rfl, h1, h2, h3, h4, ht⟩
  · rcases vok_cases h' with ⟨rfl, rfl, hl', ht'⟩ | ⟨rfl, h1', h2', h3', h4', ht'⟩
    · rw [ht, ht'] at e
      simp only [List.cons_append, List.cons.injEq] at e
      obtain ⟨a, b⟩ := List.append_inj e.2 (by omega)
      exact ⟨a, rfl, rfl, b⟩
    · rw [ht, ht'] at e
      simp only [List.cons_append, List.cons.injEq] at e
      omega
  · rcases vok_cases h' with ⟨rfl, rfl, hl', ht'⟩ | ⟨rfl, h1', h2', h3', h4', ht'⟩
    · rw [ht, ht'] at e
      simp only [List.cons_append, List.cons.injEq] at e
      omega
    · rw [ht, ht'] at e
      simp only [List.cons_append, List.cons.injEq, List.append_assoc] at e
      obtain ⟨a, b⟩ := List.append_inj e.2 (by rw [Crc.le_length, Crc.le_length])
      obtain ⟨c, d⟩ := List.append_inj b (by rw [Crc.le_length, Crc.le_length])
      exact ⟨rfl, Crc.le_inj 4 _ _ (by omega) (by omega) c, Crc.le_inj 4 _ _ (by omega) (by omega) a, d⟩
theorem enc_free {leaf : Bool} {e e' : Ee} {r r' : List Int} (h : e.Rok leaf) (h' : e'.Rok leaf) (eq : e.enc leaf ++ r = e'.enc leaf ++ r') : e = e' ∧ r = r' := by
  obtain ⟨k, v, p, s⟩ := e
  obtain ⟨k', v', p', s'⟩ := e'
  cases leaf with
  | true =>
    obtain ⟨h1, h2, h3⟩ := h
    obtain ⟨h1', h2', h3'⟩ := h'
    simp only [if_true] at h3 h3' h1 h1'
    rw [enc_tail, enc_tail] at eq
    simp only [List.cons_append, List.cons.injEq, List.append_assoc] at eq
    obtain ⟨a, b⟩ := List.append_inj eq.2 (by omega)
    obtain ⟨c1, c2, c3, c4⟩ := vtail_free h3 h3' b
    subst a c1 c2 c3 c4
    exact ⟨rfl, rfl⟩
  | false =>
    obtain ⟨h1, h2, h3⟩ := h
    obtain ⟨h1', h2', h3'⟩ := h'
    simp only [Bool.false_eq_true, if_false] at h3 h3' h1 h1'
    rw [enc_branch, enc_branch] at eq
    simp only [List.cons_append, List.cons.injEq, List.append_assoc] at eq
    obtain ⟨a, b⟩ := List.append_inj eq.2 (by omega)
    obtain ⟨c, d⟩ := List.append_inj b (by rw [Crc.le_length, Crc.le_length])
    have c := Crc.le_inj 4 _ _ (by omega) (by omega) c
    obtain ⟨rfl, rfl, -⟩ := h3
    obtain ⟨rfl, rfl, -⟩ := h3'
    subst a c d
    exact ⟨rfl, rfl⟩
theorem encs_free {leaf : Bool} {es es' : List Ee} {r : List Int} (h : ∀ e ∈ es, e.Rok leaf) (h' : ∀ e ∈ es', e.Rok leaf) (hl : es.length ≤ es'.length) (eq : encs leaf es ++ r = encs leaf es') : ∃ t, es' = es ++ t ∧ r = encs leaf t := by
  induction es generalizing es' with
  | nil => exact ⟨es', rfl, by simpa [encs] using eq⟩
  | cons e es ih =>
    cases es' with
    | nil => simp at hl
    | cons e' es' =>
      rw [encs_cons, encs_cons, List.append_assoc] at eq
      obtain ⟨rfl, b⟩ := enc_free (h e (List.mem_cons_self ..)) (h' e' (List.mem_cons_self ..)) eq
      obtain ⟨t, ht, hr⟩ := ih (fun x hx => h x (List.mem_cons_of_mem _ hx)) (fun x hx => h' x (List.mem_cons_of_mem _ hx)) (by simpa using hl) b
      exact ⟨t, by rw [ht]; rfl, hr⟩
theorem rok_of_may {leaf : Bool} {es : List Ee} (h : mayB leaf es = true) (hb : ∀ e ∈ es, Byts e.key ∧ Byts e.val) : ∀ e ∈ es, e.Rok leaf := by
  intro e he
  obtain ⟨m1, m2, m3⟩ := mayB_mem h e he
  refine ⟨by omega, (hb e he).1, ?_⟩
  cases leaf with
  | true =>
    simp only [if_true]
    refine ⟨(hb e he).2, ?_⟩
    have := m2 rfl
    simp only [Ee.valOk, Bool.or_eq_true] at this
    rcases this with hs | hg
    · simp [Ee.small] at hs
      exact .inl ⟨hs.2.1, hs.2.2, by omega⟩
    · exact .inr hg
  | false =>
    simp only [Bool.false_eq_true, if_false]
    have := m3 rfl
    simp [Ee.kid, pageOk] at this
    exact ⟨this.1, this.2.2, by omega⟩
theorem len_small {leaf : Bool} {es : List Ee} (h : chk leaf es = 0) : es.length ≤ 1008 := by
  have := (chk_zero h).2
  have := len_le_esum leaf es
  unfold nsz at *
  omega
/-- bytes that are a node's. -/
def IsNode (leaf : Bool) (zs : List Int) (es : List Ee) : Prop := zs = nenc leaf es ∧ chk leaf es = 0 ∧ ∀ e ∈ es, Byts e.key ∧ Byts e.val
theorem isnode_one {leaf : Bool} {zs : List Int} {es es' : List Ee} (h : IsNode leaf zs es) (h' : IsNode leaf zs es') : es = es' := by
  obtain ⟨h1, h2, h3⟩ := h
  obtain ⟨h1', h2', h3'⟩ := h'
  have l := len_small h2
  have l' := len_small h2'
  rw [h1] at h1'
  unfold nenc at h1'
  obtain ⟨a, b⟩ := List.append_inj h1' (by rw [Crc.le_length, Crc.le_length])
  have hl := Crc.le_inj 2 _ _ (by omega) (by omega) a
  obtain ⟨t, ht, hr⟩ := encs_free (r := []) (rok_of_may (chk_zero h2).1 h3) (rok_of_may (chk_zero h2').1 h3') (by omega) (by simpa using b)
  have : t = [] := List.eq_nil_of_length_eq_zero (by have := congrArg List.length ht; simp at this; omega)
  rw [ht, this, List.append_nil]
end Go.Proofs.Ytjojpohnmfkanaa
