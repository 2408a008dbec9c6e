/- Rows that begin somewhere in their block: what a slice of a row is; appends to it. -/
import Derived.Test.YtfcebpenjdhgbaaHA
import Derived.Deep.AppendSrc
namespace Go.Proofs.Ytfcebpenjdhgbaa
open Go.RowKit Go.Maps
set_option linter.unusedVariables false

/-- a row of a type of sz cells, from some place of its block on; the room behind it is its own. -/
def Rof (w : World) (e : TypeId) (sz : Nat) (v : Value) (n : Nat) (xs : List Value) : Prop :=
  xs.length = n * sz ∧ ((v = .slice none 0 0 ∧ n = 0) ∨ ∃ g o cap cur, v = .slice (some ⟨g, o, none⟩) n cap ∧ w.heap[g]? = some (.cells cur e (0, 0)) ∧ n ≤ cap ∧ cap ≤ maxLen ∧ o + cap * sz ≤ cur.size ∧ (cur.toList.drop o).take (n * sz) = xs)
variable {w w' : World} {e : TypeId} {sz n : Nat} {v : Value} {xs : List Value}
theorem Rof.nil (w : World) (e : TypeId) (sz : Nat) : Rof w e sz (.slice none 0 0) 0 [] := ⟨by simp, .inl ⟨rfl, rfl⟩⟩
theorem Rof.lt (h : Rof w e sz v n xs) {k : Nat} (hk : v.ownBlock = some k) : k < w.heap.size := by
  rcases h.2 with ⟨rfl, _⟩ | ⟨g, o, cap, cur, rfl, hg, _⟩
  · simp [Value.ownBlock] at hk
  · simp only [Value.ownBlock, Option.some.injEq] at hk
    subst hk
    exact lt_of_block hg
theorem Rof.keep (h : Rof w e sz v n xs) (hb : ∀ k, v.ownBlock = some k → w'.heap[k]? = w.heap[k]?) : Rof w' e sz v n xs := by
  refine ⟨h.1, ?_⟩
  rcases h.2 with h0 | ⟨g, o, cap, cur, rfl, hg, h3⟩
  · exact .inl h0
  · exact .inr ⟨g, o, cap, cur, rfl, (hb g rfl).trans hg, h3⟩
theorem Rof.type (h : Rof w e sz v n xs) {k : Nat} (hk : v.ownBlock = some k) : ∃ cur g, w.heap[k]? = some (.cells cur e g) := by
  rcases h.2 with ⟨rfl, _⟩ | ⟨g, o, cap, cur, rfl, hg, _⟩
  · simp [Value.ownBlock] at hk
  · simp only [Value.ownBlock, Option.some.injEq] at hk
    subst hk
    exact ⟨cur, _, hg⟩
theorem Rof.shape (h : Rof w e sz v n xs) : ∃ a c, v = .slice a n c ∧ n ≤ c ∧ c ≤ maxLen ∧ (a = none → n = 0 ∧ c = 0) ∧ ∀ ad, a = some ad → ad.spot = none := by
  rcases h.2 with ⟨rfl, h0⟩ | ⟨g, o, cap, cur, rfl, hg, h3, h4, _⟩
  · exact ⟨none, 0, by rw [h0], by omega, by unfold maxLen; omega, fun _ => ⟨h0, rfl⟩, by simp⟩
  · exact ⟨_, cap, rfl, h3, h4, (by intro h; cases h), (by intro ad h; cases h; rfl)⟩
theorem Rof.cell {g o c : Nat} (h : Rof w e sz (.slice (some ⟨g, o, none⟩) n c) n xs) {j : Nat} {u : Value} (hu : xs[j]? = some u) : w.cell? ⟨g, o + j, none⟩ = some u := by
  rcases h.2 with ⟨h1, _⟩ | ⟨g', o', cap, cur, h1, hg, _, _, _, ht⟩
  · cases h1
  · cases h1
    rw [cell_of_row w g (o + j) cur e (0, 0) hg]
    rw [← ht, List.getElem?_take] at hu
    split at hu
    · rw [List.getElem?_drop] at hu
      simpa using hu
    · cases hu
theorem Rof.frozen {g o c : Nat} (h : Rof w e sz (.slice (some ⟨g, o, none⟩) n c) n xs) (j : Nat) : w.frozen? ⟨g, j, none⟩ = false := by
  rcases h.2 with ⟨h1, _⟩ | ⟨g', o', cap, cur, h1, hg, _⟩
  · cases h1
  · cases h1
    simp [World.frozen?, hg]
theorem Rof.lies (h : Rof w e sz v n xs) (hn : n ≠ 0) : ∃ g o c, v = .slice (some ⟨g, o, none⟩) n c ∧ n ≤ c := by
  rcases h.2 with ⟨rfl, h0⟩ | ⟨g, o, cap, cur, rfl, hg, h3, h4, _⟩
  · exact absurd h0 hn
  · exact ⟨g, o, cap, rfl, h3⟩
/-- the last ones of a row. -/
theorem Rof.drop {g o c k : Nat} (h : Rof w e sz (.slice (some ⟨g, o, none⟩) n c) n xs) (hk : k ≤ n) : Rof w e sz (.slice (some ⟨g, o + k * sz, none⟩) (n - k) (c - k)) (n - k) (xs.drop (k * sz)) := by
  rcases h.2 with ⟨h1, _⟩ | ⟨g', o', cap, cur, h1, hg, h2, h3, h4, ht⟩
  · cases h1
  · cases h1
    have hm : (n - k) * sz = n * sz - k * sz := Nat.sub_mul n k sz
    have hc : (c - k) * sz = c * sz - k * sz := Nat.sub_mul c k sz
    have hkn : k * sz ≤ n * sz := Nat.mul_le_mul_right sz hk
    have hkc : n * sz ≤ c * sz := Nat.mul_le_mul_right sz h2
    refine ⟨by rw [List.length_drop, h.1, hm], .inr ⟨g, o + k * sz, c - k, cur, rfl, hg, by omega, by omega, by omega, ?_⟩⟩
    rw [← ht, hm, List.drop_take, List.drop_drop]
/-- the first ones of a row, as the source of an append. -/
theorem Rof.src {P : Program} {tx e' : TypeId} {g o c k : Nat} (h : Rof w e sz (.slice (some ⟨g, o, none⟩) n c) n xs) (hk : k ≤ n) (c' : Nat) (hu : P.underlying tx = some (.slice e')) (h1 : ∀ u ∈ xs, u.oneCell' = true) : Src P sz tx (.slice (some ⟨g, o, none⟩) k c') k (xs.take (k * sz)) w := by
  have hkn : k * sz ≤ n * sz := Nat.mul_le_mul_right sz hk
  refine Src.ofSlice w hu ⟨g, o, none⟩ k c' _ (by rw [List.length_take, h.1]; omega) (fun j u hj => ?_) (fun u hm => h1 u (List.mem_of_mem_take hm))
  rw [List.getElem?_take] at hj
  split at hj
  · rw [Addr.add_lit]
    exact h.cell hj
  · cases hj
/-- an append to such a row. -/
theorem run_append_off {P : Program} (w : World) (t tx ty e : TypeId) (i : TypeInfo) (z : Value) (sz : Nat) (ht : P.underlying t = some (.slice e)) (hi : P.info? e = some i) (hz : i.zero = some z) (h1 : i.size = sz) (hzc : z.cells.size = sz) (hs0 : 0 < sz)
    (v : Value) (m : Nat) (xs : List Value) (hown : Rof w e sz v m xs) (x : Value) (n : Nat) (news : List Value) (hs : Src P sz tx x n news w) (hb : (m + n) * i.bytes ≤ 140737488355328) (hm : m + n ≤ 140737488355328) :
    ∃ v' w', (Builtin.append_ #[t, tx] ty #[v, x]).run P w = .ok v' w' ∧ Rof w' e sz v' (m + n) (xs ++ news) ∧ w.grownBy w' v.ownBlock ∧ (∀ k, v'.ownBlock = some k → v.ownBlock = some k ∨ w.heap.size ≤ k) := by
  have hnl : news.length = n * sz := hs.newsLen
  have hxl : xs.length = m * sz := hown.1
  have hlen : (xs ++ news).length = (m + n) * sz := by rw [List.length_append, hnl, hxl, Nat.add_mul]
  have hs' : Src P i.size tx x n news w := by rw [h1]; exact hs
  have hgrow : ∀ (old : Nat) (row : Option Nat), old < m + n →
      Rof (w.drew.alloc (.cells ((xs ++ news).toArray ++ Builtin.zeroCells z.cells (grownCap w (m + n) old e - (m + n))) e)) e sz (.slice (some ⟨w.heap.size, 0, none⟩) (m + n) (grownCap w (m + n) old e)) (m + n) (xs ++ news) ∧
      w.grownBy (w.drew.alloc (.cells ((xs ++ news).toArray ++ Builtin.zeroCells z.cells (grownCap w (m + n) old e - (m + n))) e)) row := by
    intro old row ho
    have hge := grownCap_ge w (m + n) old e
    have hcm : grownCap w (m + n) old e ≤ maxLen := grownCap_le_maxLen w _ old e (by unfold maxLen; omega)
    refine ⟨⟨hlen, .inr ⟨w.heap.size, 0, _, _, rfl, heap_alloc_new w.drew _, hge, hcm, ?_, ?_⟩⟩, ⟨rfl, rfl, rfl, by simp, fun k hk _ => Below.heap_alloc w.drew _ k hk⟩⟩
    · have : (grownCap w (m + n) old e - (m + n)) * sz = grownCap w (m + n) old e * sz - (m + n) * sz := Nat.sub_mul _ _ _
      have h2 : (m + n) * sz ≤ grownCap w (m + n) old e * sz := Nat.mul_le_mul_right sz hge
      simp only [Array.size_append, List.size_toArray, size_zeroCells, hlen, hzc]
      omega
    · rw [Array.toList_append, List.drop_zero, ← hlen]
      exact List.take_left
  rcases hown.2 with ⟨rfl, h0⟩ | ⟨g, off, cap, cur, rfl, hg, hnc, hcm, hcs, htake⟩
  · subst h0
    have hx : xs = [] := List.eq_nil_of_length_eq_zero (by omega)
    subst hx
    by_cases hm0 : n = 0
    · subst hm0
      have hn : news = [] := List.eq_nil_of_length_eq_zero (by omega)
      subst hn
      refine ⟨.slice none 0 0, w, ?_, Rof.nil w e sz, ⟨rfl, rfl, rfl, Nat.le_refl _, fun _ _ _ => rfl⟩, fun k hk => .inl hk⟩
      have hsl := hs'.len
      have hsc := hs'.cells
      rcases hs.kind with ⟨e', hk⟩ | hk <;> simp [Builtin.append_, run_underlying ht, run_underlying hk, sizeOf, typeInfo, hi, hsl, hsc]
    · have hr := run_append_grow_src (P := P) w t tx ty e i z ht hi hz none 0 0 [] (by simp [Builtin.firstCells]) x n _ hs' (by omega) (by omega) (growslice_fits (by omega) (by simpa using hb))
      have hgr := hgrow 0 (Value.ownBlock (.slice none 0 0)) (by omega)
      simp only [Nat.zero_add, List.nil_append] at hgr hr ⊢
      exact ⟨_, _, hr, hgr.1, hgr.2, fun k hk => .inr (by simp [Value.ownBlock] at hk; omega)⟩
  · by_cases hroom : m + n ≤ cap
    · have hmc : (m + n) * sz ≤ cap * sz := Nat.mul_le_mul_right sz hroom
      have hmn : (m + n) * sz = m * sz + n * sz := Nat.add_mul m n sz
      have hfit : off + m * sz + news.length ≤ cur.size := by rw [hnl]; omega
      have hst := run_storeCells_at P g (off + m * sz) e news 0 cur w hg (by simpa using hfit) hs.one
      simp only [Nat.add_zero] at hst
      have hsl := hs.len
      have hsc := hs.cells
      refine ⟨.slice (some ⟨g, off, none⟩) (m + n) cap, w.setRow g (cur.toList.take (off + m * sz) ++ news ++ cur.toList.drop (off + m * sz + news.length)).toArray, ?_, ⟨hlen, .inr ⟨g, off, cap, _, rfl, setRow_heap w g cur _ e _ hg, hroom, hcm, ?_, ?_⟩⟩, ⟨rfl, rfl, rfl, by simp, fun k _ hk => setRow_other w g k _ (fun e => hk (by simp [Value.ownBlock, e]))⟩, fun k hk => .inl (by simpa [Value.ownBlock] using hk)⟩
      · rcases hs.kind with ⟨e', hk⟩ | hk <;> simp [Builtin.append_, run_underlying ht, run_underlying hk, sizeOf, typeInfo, hi, h1, hsl, hroom, hsc, Addr.add_lit] <;> simp at hst <;> simp [hst]
      · simp only [List.size_toArray, List.length_append, List.length_take, List.length_drop, Array.length_toList] at hfit ⊢
        omega
      · have hl0 : (cur.toList.take (off + m * sz)).length = off + m * sz := by rw [List.length_take, Array.length_toList]; omega
        have e1 : cur.toList.take (off + m * sz) = cur.toList.take off ++ xs := by rw [← htake, List.take_add]
        have hlo : (cur.toList.take off).length = off := by rw [List.length_take, Array.length_toList]; omega
        show ((cur.toList.take (off + m * sz) ++ news ++ cur.toList.drop (off + m * sz + news.length)).drop off).take ((m + n) * sz) = xs ++ news
        rw [e1, List.append_assoc, List.append_assoc, List.drop_left' hlo, ← List.append_assoc, ← hlen]
        exact List.take_left
    · have holds : ∀ j u, xs[j]? = some u → w.drew.cell? ((⟨g, off, none⟩ : Addr).add j) = some u := fun j u hu => by
        rw [Addr.add_lit]
        exact hown.cell hu
      have hr := run_append_grow_src (P := P) w t tx ty e i z ht hi hz (some ⟨g, off, none⟩) m cap xs (run_firstCells_some w.drew i.size m ⟨g, off, none⟩ m cap _ (by rw [h1]; exact hxl) holds) x n _ hs' (by omega) (by omega) (growslice_fits (by omega) hb)
      have hgr := hgrow cap (Value.ownBlock (.slice (some ⟨g, off, none⟩) m cap)) (by omega)
      exact ⟨_, _, hr, hgr.1, hgr.2, fun k hk => .inr (by simp [Value.ownBlock] at hk; omega)⟩
theorem wp_append_off {P : Program} {w : World} {o : Oper} {a : Act} {K : Act → World → Prop} {Q : Exit → Act → World → Prop} (s x : Operand) (t tx e : TypeId) (ho : o.op = .call { callee := .builtin .append, args := #[s, x], argTypes := #[t, tx] })
    (i : TypeInfo) (z : Value) (sz : Nat) (ht : P.underlying t = some (.slice e)) (hi : P.info? e = some i) (hz : i.zero = some z) (h1 : i.size = sz) (hzc : z.cells.size = sz) (hs0 : 0 < sz)
    (v : Value) (m : Nat) (xs : List Value) (hs : a.eval s = v) (hown : Rof w e sz v m xs) (xv : Value) (n : Nat) (news : List Value) (hx : a.eval x = xv) (hsrc : Src P sz tx xv n news w) (hb : (m + n) * i.bytes ≤ 140737488355328) (hm : m + n ≤ 140737488355328)
    (h : ∀ v' w', Rof w' e sz v' (m + n) (xs ++ news) → w.grownBy w' v.ownBlock → (∀ k, v'.ownBlock = some k → v.ownBlock = some k ∨ w.heap.size ≤ k) → K (a.put o.dst v') w') : o.wp P a w K Q := by
  obtain ⟨v', w', hr, h2, h3, h4⟩ := run_append_off (P := P) w t tx o.type e i z sz ht hi hz h1 hzc hs0 v m xs hown xv n news hsrc hb hm
  unfold Oper.wp execOp
  simp only [ho, resolve, invoke, builtin, Sem.run_bind, Sem.run_pure, Result.andThen_ok, List.map_toArray, List.map_cons, List.map_nil, hs, hx, hr]
  exact h v' w' h2 h3 h4
theorem wpList_append_off {P : Program} {w : World} {ops : Array Oper} {rest : List Oper} {o : Oper} {a : Act} {Q : Exit → Act → World → Prop} (hgd : o.guard = none) (s x : Operand) (t tx e : TypeId) (ho : o.op = .call { callee := .builtin .append, args := #[s, x], argTypes := #[t, tx] })
    (i : TypeInfo) (z : Value) (sz : Nat) (ht : P.underlying t = some (.slice e)) (hi : P.info? e = some i) (hz : i.zero = some z) (h1 : i.size = sz) (hzc : z.cells.size = sz) (hs0 : 0 < sz)
    (v : Value) (m : Nat) (xs : List Value) (hs : a.eval s = v) (hown : Rof w e sz v m xs) (xv : Value) (n : Nat) (news : List Value) (hx : a.eval x = xv) (hsrc : Src P sz tx xv n news w) (hb : (m + n) * i.bytes ≤ 140737488355328) (hm : m + n ≤ 140737488355328)
    (h : ∀ v' w', Rof w' e sz v' (m + n) (xs ++ news) → w.grownBy w' v.ownBlock → (∀ k, v'.ownBlock = some k → v.ownBlock = some k ∨ w.heap.size ≤ k) → wpList P ops Q rest (a.put o.dst v') w') : wpList P ops Q (o :: rest) a w :=
  wpList_plain hgd fun _ hK => wp_append_off s x t tx e ho i z sz ht hi hz h1 hzc hs0 v m xs hs hown xv n news hx hsrc hb hm fun v' w' h2 h3 h4 => hK _ _ (h v' w' h2 h3 h4)
end Go.Proofs.Ytfcebpenjdhgbaa
