/- Lists of values: one behind the other, the first of them; an append of values to a row of the call's own. -/
import Derived.Test.YtegoeaofjnpehabWB
import Derived.Test.YtegoeaofjnpehabVQ
import Derived.Laws.AppendOwnNone
namespace Go.Proofs.Ytegoeaofjnpehab
open Go.RowKit
set_option linter.unusedVariables false

def TL.app : TL → TL → TL
  | .nil, m => m
  | .cons v r, m => .cons v (r.app m)
theorem TL.app_list : ∀ (l m : TL), (l.app m).list = l.list ++ m.list
  | .nil, m => rfl
  | .cons v r, m => by simp only [TL.app, TL.list, TL.app_list r m, List.cons_append]
def TL.first : Nat → TL → TL
  | 0, _ => .nil
  | _, .nil => .nil
  | k + 1, .cons v r => .cons v (r.first k)
theorem TL.first_list : ∀ (k : Nat) (l : TL), (l.first k).list = l.list.take k
  | 0, l => by simp [TL.first, TL.list]
  | k + 1, .nil => by simp [TL.first, TL.list]
  | k + 1, .cons v r => by simp only [TL.first, TL.list, TL.first_list k r, List.take_succ_cons]
theorem TL.first_mem {n₀ : Nat} {W : World} {a : Option Addr} : ∀ (k : Nat) (l : TL) (i : Nat), l.Mem n₀ W a i → (l.first k).Mem n₀ W a i
  | 0, l, i, _ => trivial
  | k + 1, .nil, i, _ => trivial
  | k + 1, .cons v r, i, ⟨h1, h2, h3⟩ => ⟨h1, h2, TL.first_mem k r (i + 1) h3⟩
/-- all cells of a list. -/
def TL.cells : TL → List Value
  | .nil => []
  | .cons v r => v.cells ++ r.cells
theorem T.cells_len (v : T) : v.cells.length = 7 := by cases v; rfl
theorem TL.cells_len : ∀ l : TL, l.cells.length = l.list.length * 7
  | .nil => rfl
  | .cons v r => by simp only [TL.cells, TL.list, List.length_append, List.length_cons, T.cells_len, TL.cells_len r]; omega
theorem TL.app_cells : ∀ (l m : TL), (l.app m).cells = l.cells ++ m.cells
  | .nil, m => rfl
  | .cons v r, m => by simp only [TL.app, TL.cells, TL.app_cells r m, List.append_assoc]
theorem TL.one : ∀ (l : TL), ∀ u ∈ l.cells, u.oneCell' = true
  | .nil, u, h => by simp [TL.cells] at h
  | .cons v r, u, h => by
    simp only [TL.cells, List.mem_append] at h
    rcases h with h | h
    · cases v
      simp only [T.cells, List.mem_cons, List.not_mem_nil, or_false] at h
      rcases h with rfl | rfl | rfl | rfl | rfl | rfl | rfl <;> rfl
    · exact TL.one r u h
theorem TL.news {n₀ : Nat} {W : World} {b o : Nat} : ∀ (l : TL) (i : Nat), l.Mem n₀ W (some ⟨b, o, none⟩) i → ∀ j u, l.cells[j]? = some u → W.cell? ⟨b, o + i * 7 + j, none⟩ = some u
  | .nil, i, _, j, u, h => by simp [TL.cells] at h
  | .cons v r, i, ⟨⟨b', o', e, _, h1⟩, _, h3⟩, j, u, h => by
    cases e
    simp only [TL.cells] at h
    by_cases hj : j < 7
    · rw [List.getElem?_append_left (by rw [T.cells_len]; exact hj)] at h
      exact h1 j u h
    · rw [List.getElem?_append_right (by rw [T.cells_len]; omega), T.cells_len] at h
      have := TL.news r (i + 1) h3 (j - 7) u h
      rwa [show o + (i + 1) * 7 + (j - 7) = o + i * 7 + j by omega] at this
theorem TL.mem_of {N g : Nat} {W : World} (hg : g < N) : ∀ (l : TL) (i : Nat), (∀ j u, l.cells[j]? = some u → W.cell? ⟨g, 0 + i * 7 + j, none⟩ = some u) → (∀ c ∈ l.list, c.Mem N W) → l.Mem N W (some ⟨g, 0, none⟩) i
  | .nil, i, _, _ => trivial
  | .cons v r, i, h, hc => by
    refine ⟨⟨g, 0, rfl, hg, fun j u hu => h j u ?_⟩, hc v (by simp [TL.list]), TL.mem_of hg r (i + 1) (fun j u hu => ?_) (fun c h => hc c (by simp [TL.list, h]))⟩
    · simp only [TL.cells]
      rw [List.getElem?_append_left (List.getElem?_eq_some_iff.1 hu).1]
      exact hu
    · have := h (j + 7) u (by simp only [TL.cells]; rw [List.getElem?_append_right (by rw [T.cells_len]; omega), T.cells_len, Nat.add_sub_cancel]; exact hu)
      rwa [show 0 + i * 7 + (j + 7) = 0 + (i + 1) * 7 + j by omega] at this
theorem owns_mem {W : World} {B : Nat} {v : Value} (l : TL) (h : W.ownsRow B 32 7 v l.list.length l.cells) (hc : ∀ c ∈ l.list, c.Mem W.heap.size W) : ∃ a c, v = .slice a l.list.length c ∧ l.Mem W.heap.size W a 0 := by
  have h' := h
  rcases h.2 with ⟨rfl, h0⟩ | ⟨g, cap, cur, rfl, _, hg, hn, _⟩
  · refine ⟨none, 0, by rw [h0], ?_⟩
    rw [TL.nil_of l (List.length_eq_zero_iff.1 h0)]
    trivial
  · refine ⟨_, _, rfl, TL.mem_of (lt_of_block hg) l 0 (fun j u hu => ?_) hc⟩
    have := h'.cells (g := g) rfl j u hu
    rw [Addr.add_lit] at this
    rwa [show 0 + 0 * 7 + j = 0 + j by omega]
theorem wpList_append_vals {w : World} {ops : Array Oper} {rest : List Oper} {o : Oper} {a : Act} {Q : Exit → Act → World → Prop} (hgd : o.guard = none) (s x : Operand)
    (ho : o.op = .call { callee := .builtin .append, args := #[s, x], argTypes := #[24, 24] }) (B n₀ : Nat)
    (v : Value) (n : Nat) (xs : List Value) (hs : a.eval s = v) (hown : w.ownsRow B 32 7 v n xs) (la : Option Addr) (lc : Nat) (l : TL) (hx : a.eval x = .slice la l.list.length lc) (hm : l.Mem n₀ w la 0) (hnil : la = none → l.list = [] ∧ lc = 0)
    (hb : n + l.list.length ≤ 100000) (hbase : B ≤ w.heap.size)
    (h : ∀ v' w', w'.ownsRow B 32 7 v' (n + l.list.length) (xs ++ l.cells) → w.grownBy w' v.ownBlock → wpList Try.prog ops Q rest (a.put o.dst v') w') : wpList Try.prog ops Q (o :: rest) a w := by
  obtain ⟨i0, hi, hz0, hz1, hz2⟩ := info_parts Try.info41
  cases la with
  | none =>
    obtain ⟨h1, rfl⟩ := hnil rfl
    rw [h1] at hx
    have e := TL.nil_of l h1
    subst e
    exact wpList_append_own_none hgd s x 24 ho B 32 i0 7 Try.underlying24 hi v n xs hs hown hx (h v w (by simpa [TL.list, TL.cells] using hown) (grown_refl w _))
  | some ad =>
    refine wpList_append_own w hgd s x 24 ho B 32 i0 _ 7 104 Try.underlying24 hi hz0 hz1 hz2 (by rfl) (by omega) v n xs hs hown ad l.list.length lc l.cells hx (TL.cells_len l) (fun j u hu => ?_) (TL.one l) (by unfold maxLen; omega) (by omega) hbase (fun v' w' h2 h3 _ => h v' w' h2 h3)
    cases l with
    | nil => simp [TL.cells] at hu
    | cons c r =>
      obtain ⟨b, o', e, _⟩ := hm.1
      cases e
      have := TL.news (.cons c r) 0 hm j u hu
      rw [Addr.add_lit]
      rwa [show o' + 0 * 7 + j = o' + j by omega] at this
end Go.Proofs.Ytegoeaofjnpehab
