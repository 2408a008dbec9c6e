/- A buffer in memory: what is said, and what undoes it. -/
import Derived.Test.YtfcebpenjdhgbaaFA
import Derived.Laws.EntriesVeiled
import Derived.Laws.AppendOwnNone
import Derived.Laws.OwnMore
namespace Go.Proofs.Ytfcebpenjdhgbaa
open Go.RowKit
set_option linter.unusedVariables false

theorem Try.infoE : (Try.prog.info? 36).map (fun i => (i.zero, i.size, i.bytes)) = some (some (.agg #[.slice none 0 0, .slice none 0 0, .bool false]), 3, 56) := by kernel_rfl
theorem Try.infoF : (Try.prog.info? 1).map (fun i => (i.zero, i.size, i.bytes)) = some (some .nilFunc, 1, 8) := by kernel_rfl
/-- the entry's bytes lie in block k. -/
def En.has (y : En) (k : Nat) : Prop := (Value.slice y.ka y.e.key.length y.kc).ownBlock = some k ∨ (Value.slice y.va y.e.val.length y.vc).ownBlock = some k
theorem Own.u8 {w : World} {v : Value} {zs : List Int} (h : Own w v zs) {k : Nat} (hk : v.ownBlock = some k) : ∃ cur, w.heap[k]? = some (.cells cur 5 (0, 0)) := by
  rcases h.2 with ⟨rfl, _⟩ | ⟨g, cap, cur, rfl, _, hg, _⟩
  · simp [Value.ownBlock] at hk
  · simp [Value.ownBlock] at hk; subst hk; exact ⟨cur, hg⟩
theorem En.Own.lt {y : En} {B k : Nat} {w : World} (h : y.Own B w) (hk : y.has k) : k < w.heap.size := hk.elim h.key.lt h.val.lt
theorem En.Own.ge {y : En} {B k : Nat} {w : World} (h : y.Own B w) (hk : y.has k) : B ≤ k := hk.elim (h.kb k) (h.vb k)
theorem En.Own.u8 {y : En} {B k : Nat} {w : World} (h : y.Own B w) (hk : y.has k) : ∃ cur, w.heap[k]? = some (.cells cur 5 (0, 0)) := hk.elim h.key.u8 h.val.u8
theorem En.Own.of_block {y : En} {B : Nat} {w w' : World} (h : y.Own B w) (hb : ∀ k, y.has k → w'.heap[k]? = w.heap[k]?) : y.Own B w' :=
  ⟨h.key.of_block fun k hk => hb k (.inl hk), h.val.of_block fun k hk => hb k (.inr hk), h.kb, h.vb, h.ne, h.k8, h.v8⟩
theorem En.Own.below {y : En} {B : Nat} {w w' : World} (h : y.Own B w) (hb : Below w.heap.size w w') : y.Own B w' := h.of_block fun k hk => hb.block k (h.lt hk)
theorem En.Own.mono {y : En} {B C : Nat} {w : World} (h : y.Own C w) (hb : B ≤ C) : y.Own B w := ⟨h.key, h.val, fun k hk => Nat.le_trans hb (h.kb k hk), fun k hk => Nat.le_trans hb (h.vb k hk), h.ne, h.k8, h.v8⟩
theorem own_inn {w : World} {a : Option Addr} {n c : Nat} {zs : List Int} (h : Own w (.slice a n c) zs) (h8 : Byts zs) : Inn w a n c zs := by
  obtain ⟨a', c', e, h1, h2, h3, h4, _⟩ := h.shape
  cases e
  exact ⟨rfl, h1, by unfold maxLen at h2; omega, h3, h4, h8⟩
theorem En.Own.ok {y : En} {B : Nat} {w : World} (h : y.Own B w) : y.Ok w := ⟨own_inn h.key h.k8, own_inn h.val h.v8⟩
theorem obj_type {c c' : Array Value} {t t' : TypeId} (h : (some (Obj.cells c t (0, 0)) : Option Obj) = some (.cells c' t' (0, 0))) : t = t' := by
  have := congrArg (fun o : Option Obj => match o with | some (.cells _ t _) => t | _ => 0) h
  simpa using this
/-- a row's block, its type. -/
theorem row_at {B t m : Nat} {w : World} {v : Value} {n : Nat} {cs : List Value} (h : w.ownsRow B t m v n cs) {k : Nat} (hk : v.ownBlock = some k) : B ≤ k ∧ k < w.heap.size ∧ ∃ cur, w.heap[k]? = some (.cells cur t (0, 0)) := by
  rcases h.2 with ⟨rfl, _⟩ | ⟨g, cap, cur, rfl, hb, hg, _⟩
  · simp [Value.ownBlock] at hk
  · simp [Value.ownBlock] at hk; subst hk; exact ⟨hb, lt_of_block hg, cur, hg⟩
theorem row_of_block {B t m : Nat} {w w' : World} {v : Value} {n : Nat} {cs : List Value} (h : w.ownsRow B t m v n cs) (hb : ∀ k, v.ownBlock = some k → w'.heap[k]? = w.heap[k]?) : w'.ownsRow B t m v n cs := by
  refine ⟨h.1, ?_⟩
  rcases h.2 with h2 | ⟨g, cap, cur, rfl, hg, hh, r⟩
  · exact .inl h2
  · exact .inr ⟨g, cap, cur, rfl, hg, by rw [hb g rfl]; exact hh, r⟩
theorem row_shape {B t m : Nat} {w : World} {v : Value} {n : Nat} {cs : List Value} (h : w.ownsRow B t m v n cs) : ∃ a c, v = .slice a n c ∧ n ≤ c ∧ c ≤ 9223372036854775807 ∧ (a = none → n = 0 ∧ c = 0) ∧ (a = none ∨ ∃ g, a = some ⟨g, 0, none⟩) := by
  rcases h.2 with ⟨rfl, h0⟩ | ⟨g, cap, cur, rfl, hb, hg, hn, hm, _⟩
  · exact ⟨none, 0, by rw [h0], by omega, by omega, fun _ => ⟨h0, rfl⟩, .inl rfl⟩
  · exact ⟨_, cap, rfl, hn, by unfold maxLen at hm; omega, by (intro e; cases e), .inr ⟨g, rfl⟩⟩
theorem row_ens {B : Nat} {w : World} {a : Option Addr} {n c : Nat} {xs : List En} (hl : xs.length = n) (h : w.ownsRow B 36 3 (.slice a n c) n (rowc xs)) (he : ∀ x ∈ xs, x.Ok w) : Ens w a n c xs := by
  obtain ⟨a', c', e, h1, h2, h3, h4⟩ := row_shape h
  cases e
  refine ⟨hl, h1, h2, h3, ?_, he⟩
  rcases h4 with rfl | ⟨g, rfl⟩
  · left; obtain ⟨rfl, _⟩ := h3 rfl; exact List.eq_nil_of_length_eq_zero hl
  · right
    refine ⟨g, 0, rfl, ?_, fun j u hu => ?_⟩
    · exact (row_at h (k := g) (by simp [Value.ownBlock])).2.1
    · have := h.cells (g := g) rfl j u hu
      rwa [Addr.add_lit] at this
/-- a buffer at p: its list sv of xs, and its row uv of what undoes. -/
structure Bf (w : World) (p B : Nat) (sv uv : Value) (xs : List En) (us : List Value) : Prop where
  blk : w.heap[p]? = some (.cells #[sv, uv] 59 (0, 0))
  said : w.ownsRow B 36 3 sv xs.length (rowc xs)
  undo : w.ownsRow B 1 1 uv us.length us
  each : ∀ x ∈ xs, x.Own B w
  base : B ≤ p
/-- the blocks that a buffer writes. -/
def Bo (p : Nat) (sv uv : Value) (k : Nat) : Prop := k = p ∨ sv.ownBlock = some k ∨ uv.ownBlock = some k
section
variable {w w' : World} {p B : Nat} {sv uv : Value} {xs : List En} {us : List Value}
theorem Bf.lt (h : Bf w p B sv uv xs us) {k : Nat} (hk : Bo p sv uv k) : k < w.heap.size := by
  rcases hk with rfl | hk | hk
  · exact lt_of_block h.blk
  · exact (row_at h.said hk).2.1
  · exact (row_at h.undo hk).2.1
theorem Bf.ge (h : Bf w p B sv uv xs us) {k : Nat} (hk : Bo p sv uv k) : B ≤ k := by
  rcases hk with rfl | hk | hk
  · exact h.base
  · exact (row_at h.said hk).1
  · exact (row_at h.undo hk).1
/-- a block of bytes is none that a buffer writes. -/
theorem Bf.not_u8 (h : Bf w p B sv uv xs us) {k : Nat} {cur : Array Value} (hk : w.heap[k]? = some (.cells cur 5 (0, 0))) : ¬ Bo p sv uv k := by
  rintro (rfl | e | e)
  · rw [h.blk] at hk; have := obj_type hk; simp at this
  · obtain ⟨_, _, c, hc⟩ := row_at h.said e; rw [hc] at hk; have := obj_type hk; simp at this
  · obtain ⟨_, _, c, hc⟩ := row_at h.undo e; rw [hc] at hk; have := obj_type hk; simp at this
theorem Bf.sne (h : Bf w p B sv uv xs us) : sv.ownBlock ≠ some p := fun e => by
  obtain ⟨_, _, c, hc⟩ := row_at h.said e; rw [h.blk] at hc; have := obj_type hc; simp at this
theorem Bf.une (h : Bf w p B sv uv xs us) : uv.ownBlock ≠ some p := fun e => by
  obtain ⟨_, _, c, hc⟩ := row_at h.undo e; rw [h.blk] at hc; have := obj_type hc; simp at this
theorem Bf.sune (h : Bf w p B sv uv xs us) {k : Nat} (e : sv.ownBlock = some k) : uv.ownBlock ≠ some k := fun e2 => by
  obtain ⟨_, _, c, hc⟩ := row_at h.said e
  obtain ⟨_, _, c2, hc2⟩ := row_at h.undo e2
  rw [hc] at hc2; have := obj_type hc2; simp at this
theorem Bf.of_block (h : Bf w p B sv uv xs us) (hb : ∀ k, Bo p sv uv k ∨ (∃ x ∈ xs, x.has k) → w'.heap[k]? = w.heap[k]?) : Bf w' p B sv uv xs us :=
  ⟨(hb p (.inl (.inl rfl))).trans h.blk, row_of_block h.said fun k hk => hb k (.inl (.inr (.inl hk))), row_of_block h.undo fun k hk => hb k (.inl (.inr (.inr hk))),
    fun x hx => (h.each x hx).of_block fun k hk => hb k (.inr ⟨x, hx, hk⟩), h.base⟩
theorem Bf.below (h : Bf w p B sv uv xs us) (hb : Below w.heap.size w w') : Bf w' p B sv uv xs us :=
  h.of_block fun k hk => hb.block k (hk.elim h.lt fun ⟨x, hx, hh⟩ => (h.each x hx).lt hh)
theorem Bf.ens (h : Bf w p B sv uv xs us) : ∃ a c, sv = .slice a xs.length c ∧ Ens w a xs.length c xs := by
  obtain ⟨a, c, e, _⟩ := row_shape h.said
  have := h.said
  rw [e] at this
  exact ⟨a, c, e, row_ens rfl this fun x hx => (h.each x hx).ok⟩
end
set_option maxHeartbeats 1600000 in
set_option maxRecDepth 1000000 in
theorem find_any {w : World} {p B : Nat} {sv uv : Value} {xs : List En} {us : List Value} (h : Bf w p B sv uv xs us) (ka : Option Addr) (kn kc : Nat) (key : List Int) (hk : Inn w ka kn kc key) (hn : xs.length ≤ 1000000) :
    Calls Try.prog 41 #[.pointer (some ⟨p, 0, none⟩), .slice ka kn kc] w fun e w' => ∃ i : Nat, e = .returned (.tuple #[.int .i64 (i : Int), .bool (ther xs i key)]) ∧ At (pge key) xs i ∧ Below w.heap.size w w' := by
  obtain ⟨a, c, rfl, hE⟩ := h.ens
  have HS := hide (search_any ka kn kc key a xs.length c xs w hk hE hn)
  obtain ⟨c0, c1, f0⟩ := cells_two h.blk
  clear h hE hk
  generalize xs.length = n at *
  go_enter Try.func41, Try.ntmps41
  go_wp2_with (go_at_call 50; refine HS.out.mono ?_; rintro e w2 ⟨i, rfl, hat, hb2⟩; have HAt := hide hat; have HB2 := hide hb2; clear hat hb2)
  go_ret2
  exact ⟨i, rfl, HAt.out, HB2.out⟩
end Go.Proofs.Ytfcebpenjdhgbaa
