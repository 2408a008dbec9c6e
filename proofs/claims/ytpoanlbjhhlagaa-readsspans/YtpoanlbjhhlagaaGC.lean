/- Marks in lists of numbers: what a book that is asked writes into them. -/
import Derived.Test.YtpoanlbjhhlagaaGB
namespace Go.Proofs.Ytpoanlbjhhlagaa.Bo
open Go.RowKit
set_option linter.unusedVariables false

def mks (mk : Nat → Nat → Int) (i n : Nat) : List Int := (List.range n).map (mk i)
section
variable {mk : Nat → Nat → Int}
theorem mks_len (i n : Nat) : (mks mk i n).length = n := by simp [mks]
theorem mks_at (i n k : Nat) (h : k < n) : (mks mk i n).getD k 0 = mk i k := by simp [mks, h]
theorem mks_succ (i k : Nat) : mks mk i (k + 1) = mks mk i k ++ [mk i k] := by simp [mks, List.range_succ]
/-- the lists when the first i of them, and k bytes of the next one, have their marks. -/
def zf (mk : Nat → Nat → Int) (Z : Nat → List Int) (i k : Nat) : Nat → List Int := fun j => if j < i then mks mk j (Z j).length else if j = i then (mks mk i (Z i).length).take k ++ (Z i).drop k else Z j
theorem zf_start (Z : Nat → List Int) : zf mk Z 0 0 = Z := by
  funext j
  unfold zf
  by_cases h : j = 0
  · subst h; simp
  · simp [h]
theorem zf_next (Z : Nat → List Int) (i : Nat) : zf mk Z i (Z i).length = zf mk Z (i + 1) 0 := by
  funext j
  unfold zf
  rcases Nat.lt_trichotomy j i with h | h | h
  · rw [if_pos h, if_pos (by omega)]
  · subst h
    rw [if_neg (by omega), if_pos rfl, if_pos (by omega), List.take_of_length_le (by rw [mks_len]; exact Nat.le_refl _), List.drop_of_length_le (Nat.le_refl _), List.append_nil]
  · rw [if_neg (by omega), if_neg (by omega), if_neg (by omega)]
    by_cases e : j = i + 1
    · subst e; rw [if_pos rfl]; simp
    · rw [if_neg e]
theorem zf_len (Z : Nat → List Int) (i k j : Nat) (hk : k ≤ (Z i).length) : (zf mk Z i k j).length = (Z j).length := by
  unfold zf
  split
  · exact mks_len _ _
  · split
    · rename_i h; subst h
      rw [List.length_append, List.length_take, List.length_drop, mks_len]; omega
    · rfl
theorem zf_set (Z : Nat → List Int) (i k : Nat) (hk : k < (Z i).length) : putf (zf mk Z i k) i ((zf mk Z i k i).set k (mk i k)) = zf mk Z i (k + 1) := by
  funext j
  by_cases h : j = i
  · subst h
    rw [putf_same]
    unfold zf
    rw [if_neg (by omega), if_pos rfl, if_neg (by omega), if_pos rfl]
    have e1 : ((mks mk j (Z j).length).take k).length = k := by rw [List.length_take, mks_len]; omega
    have e2 : (Z j).drop k = (Z j)[k] :: (Z j).drop (k + 1) := List.drop_eq_getElem_cons hk
    have e3 : (mks mk j (Z j).length).take (k + 1) = (mks mk j (Z j).length).take k ++ [mk j k] := by
      rw [take_snoc _ _ (by rw [mks_len]; exact hk), mks_at _ _ _ hk]
    rw [e2, e3, List.set_append_right _ _ (by omega), e1, Nat.sub_self, List.set_cons_zero, List.append_assoc]
    rfl
  · rw [putf_other _ _ _ _ h]
    unfold zf
    split
    · rfl
    · rfl
theorem zf_end (Z : Nat → List Int) (n j : Nat) (h : j < n) : zf mk Z n 0 j = mks mk j (Z j).length := by unfold zf; rw [if_pos h]

end
section
variable {K : IntKind} {et lty : TypeId} {w : World} {lb n cap : Nat} {A : Nat → Option Addr} {C : Nat → Nat} {Z : Nat → List Int}
theorem list_cell {v : Value} {xs : List Value} {m : Nat} (h : w.ownsRow 0 lty 1 v m xs) {c : Nat} (hv : v = .slice (some ⟨lb, 0, none⟩) m c) (i : Nat) (x : Value) (hx : xs[i]? = some x) : w.cell? ⟨lb, i, none⟩ = some x := by
  subst hv
  have := h.cells (g := lb) rfl i x hx
  rw [Addr.add_lit] at this
  simpa using this
theorem Fam.cell (h : Fam K et lty w (.slice (some ⟨lb, 0, none⟩) n cap) n A C Z) (i : Nat) (hi : i < n) : w.cell? ⟨lb, i, none⟩ = some (.slice (A i) (Z i).length (C i)) :=
  list_cell h.list rfl i _ (by simp [hi, rv])
theorem row_at {a : Option Addr} {c : Nat} {zs : List Int} (h : OwnK K et w (rv a c zs) zs) (k : Nat) (hk : k < zs.length) : ∃ b, a = some ⟨b, 0, none⟩ ∧ w.cell? ⟨b, k, none⟩ = some (.int K (zs.getD k 0)) ∧ w.frozen? ⟨b, k, none⟩ = false := by
  unfold rv at h
  cases a with
  | none =>
    rcases h.2 with ⟨e, h0⟩ | ⟨g, cap, cur, e, _⟩
    · omega
    · cases e
  | some ad =>
    obtain ⟨b, off, spot⟩ := ad
    rcases h.2 with ⟨e, _⟩ | ⟨g, cap, cur, e, _⟩
    · cases e
    · simp at e
      obtain ⟨⟨rfl, rfl, rfl⟩, _⟩ := e
      obtain ⟨_, _, _, h4, h5⟩ := h.at_
      exact ⟨b, rfl, h4 k hk, h5 k⟩
theorem Fam.set {v : Value} (h : Fam K et lty w v n A C Z) (i k b : Nat) (hi : i < n) (hk : k < (Z i).length) (ha : A i = some ⟨b, 0, none⟩) (x : Int) :
    Fam K et lty (w.setCell ⟨b, k, none⟩ (.int K x)) v n A C (putf Z i ((Z i).set k x)) ∧ Kp (rft n A) w (w.setCell ⟨b, k, none⟩ (.int K x)) := by
  have hrow := h.rows i hi
  have hbl : blks (rv (A i) (C i) (Z i)) b := (blks_rv _ _ _ b).2 ⟨_, ha, rfl⟩
  have hlen : ∀ j, (putf Z i ((Z i).set k x) j).length = (Z j).length := by
    intro j
    by_cases e : j = i
    · subst e; rw [putf_same, List.length_set]
    · rw [putf_other _ _ _ _ e]
  have hrv : ∀ j, rv (A j) (C j) (putf Z i ((Z i).set k x) j) = rv (A j) (C j) (Z j) := by intro j; unfold rv; rw [hlen j]
  refine ⟨⟨h.ne, ?_, ?_, ?_⟩, Kp.grown (grown_setCell w b k _) (fun m hm => by cases hm; exact ⟨i, hi, _, ha, rfl⟩)⟩
  · simp only [hrv]
    refine list_of_block h.list fun m hm => Below.heap_setCell _ _ _ _ (fun e => ?_)
    subst e
    exact list_ne_row h.ne h.list hrow _ hm hbl
  · intro j hj
    rw [hrv j]
    by_cases e : j = i
    · subst e
      rw [putf_same]
      have h2 := hrow
      unfold rv at h2 ⊢
      rw [ha] at h2 ⊢
      exact h2.set k hk x
    · rw [putf_other _ _ _ _ e]
      refine (h.rows j hj).of_block fun m hm => Below.heap_setCell _ _ _ _ (fun e2 => ?_)
      subst e2
      exact h.apart i j hi hj (fun e2 => e e2.symm) _ hbl hm
  · intro j l hj hl hne m
    rw [hrv j, hrv l]
    exact h.apart j l hj hl hne m
end
end Go.Proofs.Ytpoanlbjhhlagaa.Bo
