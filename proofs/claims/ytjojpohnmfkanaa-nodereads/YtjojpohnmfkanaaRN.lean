/- Bytes are never a leaf's and a branch's; what both Decodes read is the same. -/
import Derived.Test.YtjojpohnmfkanaaRM
namespace Go.Proofs.Ytjojpohnmfkanaa
open Go.RowKit
set_option linter.unusedVariables false

theorem head_len {leaf : Bool} {es : List Ee} (h : mayB leaf es = true) : ∃ (e : Ee) (t : List Int), encs leaf es = (e.key.length : Int) :: t ∧ (e.key.length = 0 ↔ leaf = false) := by
  obtain ⟨hne, hp⟩ := (mayB_iff leaf es).1 h
  cases es with
  | nil => exact absurd rfl hne
  | cons e r =>
    have p := hp 0 e rfl
    refine ⟨e, ?_⟩
    rw [encs_cons]
    cases leaf with
    | true => exact ⟨_, by rw [enc_tail]; rfl, ⟨fun h => (p.first.1 h).2, fun h => by cases h⟩⟩
    | false => exact ⟨_, by rw [enc_branch]; rfl, ⟨fun _ => rfl, fun _ => p.first.2 ⟨rfl, rfl⟩⟩⟩
theorem kinds_apart {zs : List Int} {es es' : List Ee} (h : IsNode true zs es) (h' : IsNode false zs es') : False := by
  obtain ⟨e, t, h1, h2⟩ := head_len (chk_zero h.2.1).1
  obtain ⟨e', t', h1', h2'⟩ := head_len (chk_zero h'.2.1).1
  have a := h.1
  rw [h'.1] at a
  unfold nenc at a
  rw [h1, h1'] at a
  obtain ⟨_, b⟩ := List.append_inj a (by rw [Crc.le_length, Crc.le_length])
  simp only [List.cons.injEq] at b
  have k1 : e.key.length ≠ 0 := fun h => by have := h2.1 h; cases this
  have k2 : e'.key.length = 0 := h2'.2 rfl
  omega
/-- bytes of a kind are one node's alone. -/
theorem isk_one {kind : Nat} {zs : List Int} {leaf leaf' : Bool} {es es' : List Ee} (h : IsK kind zs leaf es) (h' : IsK kind zs leaf' es') : leaf = leaf' ∧ es = es' := by
  have e : leaf = leaf' := by
    rcases h.1 with ⟨a, rfl⟩ | ⟨a, rfl⟩ <;> rcases h'.1 with ⟨b, rfl⟩ | ⟨b, rfl⟩
    · rfl
    · omega
    · omega
    · rfl
  subst e
  exact ⟨rfl, isnode_one h.2 h'.2⟩
/-- what was written is a node's bytes. -/
theorem eb_isnode {leaf : Bool} {es : List Ee} (h : chk leaf es = 0) (h8 : ∀ e ∈ es, Byts e.key ∧ Byts e.val) : IsNode leaf (eb leaf es) es := ⟨if_pos h, h, h8⟩
/-- of the other kind they are none's. -/
theorem isk_other {zs : List Int} {leaf : Bool} {es : List Ee} (h : IsNode leaf zs es) (l : Bool) (es' : List Ee) : ¬ IsK (if leaf then 2 else 1) zs l es' := fun k => by
  cases leaf with
  | true =>
    simp only [if_true] at k
    rcases k.1 with ⟨a, _⟩ | ⟨_, rfl⟩
    · omega
    · exact kinds_apart h k.2
  | false =>
    simp only [Bool.false_eq_true, if_false] at k
    rcases k.1 with ⟨_, rfl⟩ | ⟨a, _⟩
    · exact kinds_apart k.2 h
    · omega
end Go.Proofs.Ytjojpohnmfkanaa
