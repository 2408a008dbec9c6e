/- Spans in memory: their blocks. -/
import Derived.Test.YtpoanlbjhhlagaaHA
import Derived.Laws.EntriesVeiled
import Derived.Laws.AppendOwnNone
import Derived.Laws.OwnMore
namespace Go.Proofs.Ytpoanlbjhhlagaa
open Go.RowKit
set_option linter.unusedVariables false

theorem Try.infoE : (Try.prog.info? 65).map (fun i => (i.zero, i.size, i.bytes)) = some (some (.agg #[.slice none 0 0, .slice none 0 0, .bool false]), 3, 56) := by kernel_rfl
/-- the entry's bytes lie in block k. -/
def En.has (y : En) (k : Nat) : Prop := (Value.slice y.ka y.e.key.length y.kc).ownBlock = some k ∨ (Value.slice y.va y.e.val.length y.vc).ownBlock = some k
theorem Own.u8 {w : World} {v : Value} {zs : List Int} (h : Own w v zs) {k : Nat} (hk : v.ownBlock = some k) : ∃ cur, w.heap[k]? = some (.cells cur 5 (0, 0)) := by
  rcases h.2 with ⟨rfl, _⟩ | ⟨g, cap, cur, rfl, _, hg, _⟩
  · simp [Value.ownBlock] at hk
  · simp [Value.ownBlock] at hk; subst hk; exact ⟨cur, hg⟩
theorem En.Own.lt {y : En} {B k : Nat} {w : World} (h : y.Own B w) (hk : y.has k) : k < w.heap.size := hk.elim h.key.lt h.val.lt
theorem En.Own.ge {y : En} {B k : Nat} {w : World} (h : y.Own B w) (hk : y.has k) : B ≤ k := hk.elim (h.kb k) (h.vb k)
theorem En.Own.u8 {y : En} {B k : Nat} {w : World} (h : y.Own B w) (hk : y.has k) : ∃ cur, w.heap[k]? = some (.cells cur 5 (0, 0)) := hk.elim h.key.u8 h.val.u8
theorem En.Own.of_block {y : En} {B : Nat} {w w' : World} (h : y.Own B w) (hb : ∀ k, y.has k → w'.heap[k]? = w.heap[k]?) : y.Own B w' :=
  ⟨h.key.of_block fun k hk => hb k (.inl hk), h.val.of_block fun k hk => hb k (.inr hk), h.kb, h.vb, h.ne, h.k8, h.v8⟩
theorem En.Own.below {y : En} {B : Nat} {w w' : World} (h : y.Own B w) (hb : Below w.heap.size w w') : y.Own B w' := h.of_block fun k hk => hb.block k (h.lt hk)
theorem En.Own.mono {y : En} {B C : Nat} {w : World} (h : y.Own C w) (hb : B ≤ C) : y.Own B w := ⟨h.key, h.val, fun k hk => Nat.le_trans hb (h.kb k hk), fun k hk => Nat.le_trans hb (h.vb k hk), h.ne, h.k8, h.v8⟩
theorem own_inn {w : World} {a : Option Addr} {n c : Nat} {zs : List Int} (h : Own w (.slice a n c) zs) (h8 : Byts zs) : Inn w a n c zs := by
  obtain ⟨a', c', e, h1, h2, h3, h4, _⟩ := h.shape
  cases e
  exact ⟨rfl, h1, by unfold maxLen at h2; omega, h3, h4, h8⟩
theorem En.Own.ok {y : En} {B : Nat} {w : World} (h : y.Own B w) : y.Ok w := ⟨own_inn h.key h.k8, own_inn h.val h.v8⟩
theorem obj_type {c c' : Array Value} {t t' : TypeId} (h : (some (Obj.cells c t (0, 0)) : Option Obj) = some (.cells c' t' (0, 0))) : t = t' := by
  have := congrArg (fun o : Option Obj => match o with | some (.cells _ t _) => t | _ => 0) h
  simpa using this
/-- a row's block, its type. -/
theorem row_at {B t m : Nat} {w : World} {v : Value} {n : Nat} {cs : List Value} (h : w.ownsRow B t m v n cs) {k : Nat} (hk : v.ownBlock = some k) : B ≤ k ∧ k < w.heap.size ∧ ∃ cur, w.heap[k]? = some (.cells cur t (0, 0)) := by
  rcases h.2 with ⟨rfl, _⟩ | ⟨g, cap, cur, rfl, hb, hg, _⟩
  · simp [Value.ownBlock] at hk
  · simp [Value.ownBlock] at hk; subst hk; exact ⟨hb, lt_of_block hg, cur, hg⟩
theorem row_of_block {B t m : Nat} {w w' : World} {v : Value} {n : Nat} {cs : List Value} (h : w.ownsRow B t m v n cs) (hb : ∀ k, v.ownBlock = some k → w'.heap[k]? = w.heap[k]?) : w'.ownsRow B t m v n cs := by
  refine ⟨h.1, ?_⟩
  rcases h.2 with h2 | ⟨g, cap, cur, rfl, hg, hh, r⟩
  · exact .inl h2
  · exact .inr ⟨g, cap, cur, rfl, hg, by rw [hb g rfl]; exact hh, r⟩
theorem row_shape {B t m : Nat} {w : World} {v : Value} {n : Nat} {cs : List Value} (h : w.ownsRow B t m v n cs) : ∃ a c, v = .slice a n c ∧ n ≤ c ∧ c ≤ 9223372036854775807 ∧ (a = none → n = 0 ∧ c = 0) ∧ (a = none ∨ ∃ g, a = some ⟨g, 0, none⟩) := by
  rcases h.2 with ⟨rfl, h0⟩ | ⟨g, cap, cur, rfl, hb, hg, hn, hm, _⟩
  · exact ⟨none, 0, by rw [h0], by omega, by omega, fun _ => ⟨h0, rfl⟩, .inl rfl⟩
  · exact ⟨_, cap, rfl, hn, by unfold maxLen at hm; omega, by (intro e; cases e), .inr ⟨g, rfl⟩⟩
theorem row_ens {B : Nat} {w : World} {a : Option Addr} {n c : Nat} {xs : List En} (hl : xs.length = n) (h : w.ownsRow B 65 3 (.slice a n c) n (rowc xs)) (he : ∀ x ∈ xs, x.Ok w) : Ens w a n c xs := by
  obtain ⟨a', c', e, h1, h2, h3, h4⟩ := row_shape h
  cases e
  refine ⟨hl, h1, h2, h3, ?_, he⟩
  rcases h4 with rfl | ⟨g, rfl⟩
  · left; obtain ⟨rfl, _⟩ := h3 rfl; exact List.eq_nil_of_length_eq_zero hl
  · right
    refine ⟨g, 0, rfl, ?_, fun j u hu => ?_⟩
    · exact (row_at h (k := g) (by simp [Value.ownBlock])).2.1
    · have := h.cells (g := g) rfl j u hu
      rwa [Addr.add_lit] at this
end Go.Proofs.Ytpoanlbjhhlagaa
