/- What undoes a Put or a Delete; a buffer with all that it was. -/
import Derived.Test.YtfcebpenjdhgbaaID
namespace Go.Proofs.Ytfcebpenjdhgbaa
open Go.RowKit Go.Maps
set_option linter.unusedVariables false

def ptr (p : Nat) : Value := .pointer (some ⟨p, 0, none⟩)
/-- the boxes that a function which undoes holds on to. -/
def Und1 (w : World) (p : Nat) (sv u : Value) (xs xs' : List En) : Prop := ∃ (ob bb ab i : Nat) (old : En), u = .func (.func 45) #[] #[.pointer (some ⟨ob, 0, none⟩), .pointer (some ⟨bb, 0, none⟩), .pointer (some ⟨ab, 0, none⟩)] ∧
  w.heap[ob]? = some (.cells #[.slice old.ka old.e.key.length old.kc, .slice old.va old.e.val.length old.vc, .bool old.e.del] 36 (0, 0)) ∧ w.heap[bb]? = some (.cells #[.pointer (some ⟨p, 0, none⟩)] 25 (0, 0)) ∧ w.heap[ab]? = some (.cells #[.int .i64 (i : Int)] 3 (0, 0)) ∧
  i < xs.length ∧ xs' = xs.set i old ∧ sv.ownBlock ≠ some ob
def Und2 (w : World) (p : Nat) (u : Value) (xs xs' : List En) : Prop := ∃ (bb ab i : Nat), u = .func (.func 47) #[] #[.pointer (some ⟨bb, 0, none⟩), .pointer (some ⟨ab, 0, none⟩)] ∧
  w.heap[bb]? = some (.cells #[.pointer (some ⟨p, 0, none⟩)] 25 (0, 0)) ∧ w.heap[ab]? = some (.cells #[.int .i64 (i : Int)] 3 (0, 0)) ∧
  i < xs.length ∧ xs' = xs.eraseIdx i
def Und (w : World) (p : Nat) (sv u : Value) (xs xs' : List En) : Prop := Und1 w p sv u xs xs' ∨ Und2 w p u xs xs'
/-- a buffer, with all that it was ahead of each Put and Delete. -/
structure Bh (w : World) (p B : Nat) (sv uv : Value) (xs : List En) (us : List Value) (hs : List (List En)) : Prop where
  bf : Bf w p B sv uv xs us
  len : hs.length = us.length
  und : ∀ (k : Nat) u, us[k]? = some u → ∃ a b, (hs ++ [xs])[k]? = some a ∧ (hs ++ [xs])[k + 1]? = some b ∧ Und w p sv u b a
  olds : ∀ l ∈ hs, ∀ x ∈ l, x.Own B w
section
variable {w w' : World} {p B : Nat} {sv uv sv' uv' u : Value} {xs xs' : List En} {us : List Value} {hs : List (List En)}
theorem Und.move (hb : Bf w p B sv uv xs us) (hm : Mv (Bo p sv uv) w w') (hs' : ∀ k, sv'.ownBlock = some k → sv.ownBlock = some k ∨ w.heap.size ≤ k) {ys ys' : List En} (h : Und w p sv u ys ys') : Und w' p sv' u ys ys' := by
  have st : ∀ (k : Nat) (c : Array Value) (t : TypeId), w.heap[k]? = some (.cells c t (0, 0)) → t ≠ 59 → t ≠ 1 → (t = 36 → sv.ownBlock ≠ some k) → w'.heap[k]? = some (.cells c t (0, 0)) := by
    intro k c t hk h1 h2 h3
    rw [hm.block k (lt_of_block hk) ?_]
    · exact hk
    · rintro (rfl | e | e)
      · rw [hb.blk] at hk; exact h1 (obj_type hk).symm
      · obtain ⟨_, _, c2, hc⟩ := row_at hb.said e
        rw [hc] at hk
        exact h3 (obj_type hk).symm e
      · obtain ⟨_, _, c2, hc⟩ := row_at hb.undo e
        rw [hc] at hk
        exact h2 (obj_type hk).symm
  rcases h with ⟨ob, bb, ab, i, old, e, h1, h2, h3, h4, h5, h6⟩ | ⟨bb, ab, i, e, h2, h3, h4, h5⟩
  · refine .inl ⟨ob, bb, ab, i, old, e, st _ _ _ h1 (by decide) (by decide) (fun _ => h6), st _ _ _ h2 (by decide) (by decide) (fun e => absurd e (by decide)), st _ _ _ h3 (by decide) (by decide) (fun e => absurd e (by decide)), h4, h5, fun e => ?_⟩
    rcases hs' ob e with h | h
    · exact h6 h
    · have := lt_of_block h1; omega
  · exact .inr ⟨bb, ab, i, e, st _ _ _ h2 (by decide) (by decide) (fun e => absurd e (by decide)), st _ _ _ h3 (by decide) (by decide) (fun e => absurd e (by decide)), h4, h5⟩
/-- bytes stay. -/
theorem Bf.own_move (hb : Bf w p B sv uv xs us) (hm : Mv (Bo p sv uv) w w') {x : En} (hx : x.Own B w) : x.Own B w' :=
  hx.of_block fun k hk => hm.block k (hx.lt hk) (by obtain ⟨c, hc⟩ := hx.u8 hk; exact hb.not_u8 hc)
/-- one more Put or Delete. -/
theorem Bh.more (h : Bh w p B sv uv xs us hs) (hm : Mv (Bo p sv uv) w w') (hs' : ∀ k, sv'.ownBlock = some k → sv.ownBlock = some k ∨ w.heap.size ≤ k) (hb : Bf w' p B sv' uv' xs' (us ++ [u])) (hu : Und w' p sv' u xs' xs) : Bh w' p B sv' uv' xs' (us ++ [u]) (hs ++ [xs]) := by
  refine ⟨hb, by simp [h.len], fun k v hk => ?_, fun l hl x hx => ?_⟩
  · by_cases hlt : k < us.length
    · rw [List.getElem?_append_left hlt] at hk
      obtain ⟨a, b, h1, h2, h3⟩ := h.und k v hk
      refine ⟨a, b, ?_, ?_, h3.move h.bf hm hs'⟩
      · rw [List.getElem?_append_left (by simp [h.len]; omega)]; exact h1
      · rw [List.getElem?_append_left (by simp [h.len]; omega)]; exact h2
    · have hk' : k = us.length := by
        have := (List.getElem?_eq_some_iff.1 hk).1
        simp at this; omega
      subst hk'
      simp at hk
      subst hk
      refine ⟨xs, xs', ?_, ?_, hu⟩
      · rw [List.append_assoc, List.getElem?_append_right (by rw [h.len]; omega), h.len]; simp
      · rw [List.append_assoc, List.getElem?_append_right (by rw [h.len]; omega), h.len]; simp
  · rcases List.mem_append.1 hl with hl | hl
    · exact h.bf.own_move hm (h.olds l hl x hx)
    · simp at hl; subst hl; exact h.bf.own_move hm (h.bf.each x hx)
theorem Bh.below (h : Bh w p B sv uv xs us hs) (hb : Below w.heap.size w w') : Bh w' p B sv uv xs us hs :=
  ⟨h.bf.below hb, h.len, fun k v hk => by
    obtain ⟨a, b, h1, h2, h3⟩ := h.und k v hk
    exact ⟨a, b, h1, h2, h3.move h.bf (Mv.of_below hb) fun k hk => .inl hk⟩, fun l hl x hx => (h.olds l hl x hx).below hb⟩
end
/-- the list that a change makes. -/
def putAt (xs : List En) (i : Nat) (y : En) : List En := if ther xs i y.e.key then xs.set i y else xs.take i ++ y :: xs.drop i
end Go.Proofs.Ytfcebpenjdhgbaa
