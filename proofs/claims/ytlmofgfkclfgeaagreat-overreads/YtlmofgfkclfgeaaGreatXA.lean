/- Rows that begin somewhere in their block: what a slice of a row is; appends to it. -/
import Derived.Test.YtlmofgfkclfgeaaGreatDT
import Derived.Deep.AppendSrc
namespace Go.Proofs.YtlmofgfkclfgeaaGreat
open Go.RowKit Go.Maps
set_option linter.unusedVariables false

/-- a row of a type of sz cells, from some place of its block on; the room behind it is its own. -/
def Rof (w : World) (e : TypeId) (sz : Nat) (v : Value) (n : Nat) (xs : List Value) : Prop :=
  xs.length = n * sz ∧ ((v = .slice none 0 0 ∧ n = 0) ∨ ∃ g o cap cur, v = .slice (some ⟨g, o, none⟩) n cap ∧ w.heap[g]? = some (.cells cur e (0, 0)) ∧ n ≤ cap ∧ cap ≤ maxLen ∧ o + cap * sz ≤ cur.size ∧ (cur.toList.drop o).take (n * sz) = xs)
variable {w w' : World} {e : TypeId} {sz n : Nat} {v : Value} {xs : List Value}
theorem Rof.nil (w : World) (e : TypeId) (sz : Nat) : Rof w e sz (.slice none 0 0) 0 [] := ⟨by simp, .inl ⟨rfl, rfl⟩⟩
theorem Rof.lt (h : Rof w e sz v n xs) {k : Nat} (hk : v.ownBlock = some k) : k < w.heap.size := by
  rcases h.2 with ⟨rfl, _⟩ | ⟨g, o, cap, cur, rfl, hg, _⟩
  · simp [Value.ownBlock] at hk
  · simp only [Value.ownBlock, Option.some.injEq] at hk
    subst hk
    exact lt_of_block hg
theorem Rof.keep (h : Rof w e sz v n xs) (hb : ∀ k, v.ownBlock = some k → w'.heap[k]? = w.heap[k]?) : Rof w' e sz v n xs := by
  refine ⟨h.1, ?_⟩
  rcases h.2 with h0 | ⟨g, o, cap, cur, rfl, hg, h3⟩
  · exact .inl h0
  · exact .inr ⟨g, o, cap, cur, rfl, (hb g rfl).trans hg, h3⟩
theorem Rof.type (h : Rof w e sz v n xs) {k : Nat} (hk : v.ownBlock = some k) : ∃ cur g, w.heap[k]? = some (.cells cur e g) := by
  rcases h.2 with ⟨rfl, _⟩ | ⟨g, o, cap, cur, rfl, hg, _⟩
  · simp [Value.ownBlock] at hk
  · simp only [Value.ownBlock, Option.some.injEq] at hk
    subst hk
    exact ⟨cur, _, hg⟩
theorem Rof.shape (h : Rof w e sz v n xs) : ∃ a c, v = .slice a n c ∧ n ≤ c ∧ c ≤ maxLen ∧ (a = none → n = 0 ∧ c = 0) ∧ ∀ ad, a = some ad → ad.spot = none := by
  rcases h.2 with ⟨rfl, h0⟩ | ⟨g, o, cap, cur, rfl, hg, h3, h4, _⟩
  · exact ⟨none, 0, by rw [h0], by omega, by unfold maxLen; omega, fun _ => ⟨h0, rfl⟩, by simp⟩
  · exact ⟨_, cap, rfl, h3, h4, (by intro h; cases h), (by intro ad h; cases h; rfl)⟩
theorem Rof.cell {g o c : Nat} (h : Rof w e sz (.slice (some ⟨g, o, none⟩) n c) n xs) {j : Nat} {u : Value} (hu : xs[j]? = some u) : w.cell? ⟨g, o + j, none⟩ = some u := by
  rcases h.2 with ⟨h1, _⟩ | ⟨g', o', cap, cur, h1, hg, _, _, _, ht⟩
  · cases h1
  · cases h1
    rw [cell_of_row w g (o + j) cur e (0, 0) hg]
    rw [← ht, List.getElem?_take] at hu
    split at hu
    · rw [List.getElem?_drop] at hu
      simpa using hu
    · cases hu
theorem Rof.frozen {g o c : Nat} (h : Rof w e sz (.slice (some ⟨g, o, none⟩) n c) n xs) (j : Nat) : w.frozen? ⟨g, j, none⟩ = false := by
  rcases h.2 with ⟨h1, _⟩ | ⟨g', o', cap, cur, h1, hg, _⟩
  · cases h1
  · cases h1
    simp [World.frozen?, hg]
theorem Rof.lies (h : Rof w e sz v n xs) (hn : n ≠ 0) : ∃ g o c, v = .slice (some ⟨g, o, none⟩) n c ∧ n ≤ c := by
  rcases h.2 with ⟨rfl, h0⟩ | ⟨g, o, cap, cur, rfl, hg, h3, h4, _⟩
  · exact absurd h0 hn
  · exact ⟨g, o, cap, rfl, h3⟩
/-- the last ones of a row. -/
theorem Rof.drop {g o c k : Nat} (h : Rof w e sz (.slice (some ⟨g, o, none⟩) n c) n xs) (hk : k ≤ n) : Rof w e sz (.slice (some ⟨g, o + k * sz, none⟩) (n - k) (c - k)) (n - k) (xs.drop (k * sz)) := by
  rcases h.2 with ⟨h1, _⟩ | ⟨g', o', cap, cur, h1, hg, h2, h3, h4, ht⟩
  · cases h1
  · cases h1
    have hm : (n - k) * sz = n * sz - k * sz := Nat.sub_mul n k sz
    have hc : (c - k) * sz = c * sz - k * sz := Nat.sub_mul c k sz
    have hkn : k * sz ≤ n * sz := Nat.mul_le_mul_right sz hk
    have hkc : n * sz ≤ c * sz := Nat.mul_le_mul_right sz h2
    refine ⟨by rw [List.length_drop, h.1, hm], .inr ⟨g, o + k * sz, c - k, cur, rfl, hg, by omega, by omega, by omega, ?_⟩⟩
    rw [← ht, hm, List.drop_take, List.drop_drop]
/-- the first ones of a row, as the source of an append. -/
theorem Rof.src {P : Program} {tx e' : TypeId} {g o c k : Nat} (h : Rof w e sz (.slice (some ⟨g, o, none⟩) n c) n xs) (hk : k ≤ n) (c' : Nat) (hu : P.underlying tx = some (.slice e')) (h1 : ∀ u ∈ xs, u.oneCell' = true) : Src P sz tx (.slice (some ⟨g, o, none⟩) k c') k (xs.take (k * sz)) w := by
  have hkn : k * sz ≤ n * sz := Nat.mul_le_mul_right sz hk
  refine Src.ofSlice w hu ⟨g, o, none⟩ k c' _ (by rw [List.length_take, h.1]; omega) (fun j u hj => ?_) (fun u hm => h1 u (List.mem_of_mem_take hm))
  rw [List.getElem?_take] at hj
  split at hj
  · rw [Addr.add_lit]
    exact h.cell hj
  · cases hj
/-- an append to such a row. -/
theorem run_append_off {P : Program} (w : World) (t tx ty e : TypeId) (i : TypeInfo) (z : Value) (sz : Nat) (ht : P.underlying t = some (.slice e)) (hi : P.info? e = some i) (hz : i.zero = some z) (h1 : i.size = sz) (hzc : z.cells.size = sz) (hs0 : 0 < sz)
    (v : Value) (m : Nat) (xs : List Value) (hown : Rof w e sz v m xs) (x : Value) (n : Nat) (news : List Value) (hs : Src P sz tx x n news w) (hb : (m + n) * i.bytes ≤ 140737488355328) (hm : m + n ≤ 140737488355328) :
    ∃ v' w', (Builtin.append_ #[t, tx] ty #[v, x]).run P w = .ok v' w' ∧ Rof w' e sz v' (m + n) (xs ++ news) ∧ w.grownBy w' v.ownBlock ∧ (∀ k, v'.ownBlock = some k → v.ownBlock = some k ∨ w.heap.size ≤ k) := by
  have hnl : news.length = n * sz := hs.newsLen
  have hxl : xs.length = m * sz := hown.1
  have hlen : (xs ++ news).length = (m + n) * sz := by rw [List.length_append, hnl, hxl, Nat.add_mul]
  have hs' : Src P i.size tx x n news w := by rw [h1]; exact hs
  have hgrow : ∀ (old : Nat) (row : Option Nat), old < m + n →
      Rof (w.drew.alloc (.cells ((xs ++ news).toArray ++ Builtin.zeroCells z.cells (grownCap w (m + n) old e - (m + n))) e)) e sz (.slice (some ⟨w.heap.size, 0, none⟩) (m + n) (grownCap w (m + n) old e)) (m + n) (xs ++ news) ∧
      w.grownBy (w.drew.alloc (.cells ((xs ++ news).toArray ++ Builtin.zeroCells z.cells (grownCap w (m + n) old e - (m + n))) e)) row := by
    intro old row ho
    have hge := grownCap_ge w (m + n) old e
    have hcm : grownCap w (m + n) old e ≤ maxLen := grownCap_le_maxLen w _ old e (by unfold maxLen; omega)
    refine ⟨⟨hlen, .inr ⟨w.heap.size, 0, _, _, rfl, heap_alloc_new w.drew _, hge, hcm, ?_, ?_⟩⟩, ⟨rfl, rfl, rfl, by simp, fun k hk _ => Below.heap_alloc w.drew _ k hk⟩⟩
    · have : (grownCap w (m + n) old e - (m + n)) * sz = grownCap w (m + n) old e * sz - (m + n) * sz := Nat.sub_mul _ _ _
      have h2 : (m + n) * sz ≤ grownCap w (m + n) old e * sz := Nat.mul_le_mul_right sz hge
      simp only [Array.size_append, List.size_toArray, size_zeroCells, hlen, hzc]
      omega
    · rw [Array.toList_append, List.drop_zero, ← hlen]
      exact List.take_left
  rcases hown.2 with ⟨rfl, h0⟩ | ⟨g, off, cap, cur, rfl, hg, hnc, hcm, hcs, htake⟩
  · subst h0
    have hx : xs = [] := List.eq_nil_of_length_eq_zero (by omega)
    subst hx
    by_cases hm0 : n = 0
    · subst hm0
      have hn : news = [] := List.eq_nil_of_length_eq_zero (by omega)
      subst hn
      refine ⟨.slice none 0 0, w, ?_, Rof.nil w e sz, ⟨rfl, rfl, rfl, Nat.le_refl _, fun _ _ _ => rfl⟩, fun k hk => .inl hk⟩
      have hsl := hs'.len
      have hsc := hs'.cells
      rcases hs.kind with ⟨e', hk⟩ | hk <;> simp [Builtin.append_, run_underlying ht, run_underlying hk, sizeOf, typeInfo, hi, hsl, hsc]
    · have hr := run_append_grow_src (P := P) w t tx ty e i z ht hi hz none 0 0 [] (by simp [Builtin.firstCells]) x n _ hs' (by omega) (by omega) (growslice_fits (by omega) (by simpa using hb))
      have hgr := hgrow 0 (Value.ownBlock (.slice none 0 0)) (by omega)
      simp only [Nat.zero_add, List.nil_append] at hgr hr ⊢
      exact ⟨_, _, hr, hgr.1, hgr.2, fun k hk => .inr (by simp [Value.ownBlock] at hk; omega)⟩
  · by_cases hroom : m + n ≤ cap
    · have hmc : (m + n) * sz ≤ cap * sz := Nat.mul_le_mul_right sz hroom
      have hmn : (m + n) * sz = m * sz + n * sz := Nat.add_mul m n sz
      have hfit : off + m * sz + news.length ≤ cur.size := by rw [hnl]; omega
      have hst := run_storeCells_at P g (off + m * sz) e news 0 cur w hg (by simpa using hfit) hs.one
      simp only [Nat.add_zero] at hst
      have hsl := hs.len
      have hsc := hs.cells
      refine ⟨.slice (some ⟨g, off, none⟩) (m + n) cap, w.setRow g (cur.toList.take (off + m * sz) ++ news ++ cur.toList.drop (off + m * sz + news.length)).toArray, ?_, ⟨hlen, .inr ⟨g, off, cap, _, rfl, setRow_heap w g cur _ e _ hg, hroom, hcm, ?_, ?_⟩⟩, ⟨rfl, rfl, rfl, by simp, fun k _ hk => setRow_other w g k _ (fun e => hk (by simp [Value.ownBlock, e]))⟩, fun k hk => .inl (by simpa [Value.ownBlock] using hk)⟩
      · rcases hs.kind with ⟨e', hk⟩ | hk <;> simp [Builtin.append_, run_underlying ht, run_underlying hk, sizeOf, typeInfo, hi, h1, hsl, hroom, hsc, Addr.add_lit] <;> simp at hst <;> simp [hst]
      · simp only [List.size_toArray, List.length_append, List.length_take, List.length_drop, Array.length_toList] at hfit ⊢
        omega
      · have hl0 : (cur.toList.take (off + m * sz)).length = off + m * sz := by rw [List.length_take, Array.length_toList]; omega
        have e1 : cur.toList.take (off + m * sz) = cur.toList.take off ++ xs := by rw [← htake, List.take_add]
        have hlo : (cur.toList.take off).length = off := by rw [List.length_take, Array.length_toList]; omega
        show ((cur.toList.take (off + m * sz) ++ news ++ cur.toList.drop (off + m * sz + news.length)).drop off).take ((m + n) * sz) = xs ++ news
        rw [e1, List.append_assoc, List.append_assoc, List.drop_left' hlo, ← List.append_assoc, ← hlen]
        exact List.take_left
    · have holds : ∀ j u, xs[j]? = some u → w.drew.cell? ((⟨g, off, none⟩ : Addr).add j) = some u := fun j u hu => by
        rw [Addr.add_lit]
        exact hown.cell hu
      have hr := run_append_grow_src (P := P) w t tx ty e i z ht hi hz (some ⟨g, off, none⟩) m cap xs (run_firstCells_some w.drew i.size m ⟨g, off, none⟩ m cap _ (by rw [h1]; exact hxl) holds) x n _ hs' (by omega) (by omega) (growslice_fits (by omega) hb)
      have hgr := hgrow cap (Value.ownBlock (.slice (some ⟨g, off, none⟩) m cap)) (by omega)
      exact ⟨_, _, hr, hgr.1, hgr.2, fun k hk => .inr (by simp [Value.ownBlock] at hk; omega)⟩
theorem wp_append_off {P : Program} {w : World} {o : Oper} {a : Act} {K : Act → World → Prop} {Q : Exit → Act → World → Prop} (s x : Operand) (t tx e : TypeId) (ho : o.op = .call { callee := .builtin .append, args := #[s, x], argTypes := #[t, tx] })
    (i : TypeInfo) (z : Value) (sz : Nat) (ht : P.underlying t = some (.slice e)) (hi : P.info? e = some i) (hz : i.zero = some z) (h1 : i.size = sz) (hzc : z.cells.size = sz) (hs0 : 0 < sz)
    (v : Value) (m : Nat) (xs : List Value) (hs : a.eval s = v) (hown : Rof w e sz v m xs) (xv : Value) (n : Nat) (news : List Value) (hx : a.eval x = xv) (hsrc : Src P sz tx xv n news w) (hb : (m + n) * i.bytes ≤ 140737488355328) (hm : m + n ≤ 140737488355328)
    (h : ∀ v' w', Rof w' e sz v' (m + n) (xs ++ news) → w.grownBy w' v.ownBlock → (∀ k, v'.ownBlock = some k → v.ownBlock = some k ∨ w.heap.size ≤ k) → K (a.put o.dst v') w') : o.wp P a w K Q := by
  obtain ⟨v', w', hr, h2, h3, h4⟩ := run_append_off (P := P) w t tx o.type e i z sz ht hi hz h1 hzc hs0 v m xs hown xv n news hsrc hb hm
  unfold Oper.wp execOp
  simp only [ho, resolve, invoke, builtin, Sem.run_bind, Sem.run_pure, Result.andThen_ok, List.map_toArray, List.map_cons, List.map_nil, hs, hx, hr]
  exact h v' w' h2 h3 h4
theorem wpList_append_off {P : Program} {w : World} {ops : Array Oper} {rest : List Oper} {o : Oper} {a : Act} {Q : Exit → Act → World → Prop} (hgd : o.guard = none) (s x : Operand) (t tx e : TypeId) (ho : o.op = .call { callee := .builtin .append, args := #[s, x], argTypes := #[t, tx] })
    (i : TypeInfo) (z : Value) (sz : Nat) (ht : P.underlying t = some (.slice e)) (hi : P.info? e = some i) (hz : i.zero = some z) (h1 : i.size = sz) (hzc : z.cells.size = sz) (hs0 : 0 < sz)
    (v : Value) (m : Nat) (xs : List Value) (hs : a.eval s = v) (hown : Rof w e sz v m xs) (xv : Value) (n : Nat) (news : List Value) (hx : a.eval x = xv) (hsrc : Src P sz tx xv n news w) (hb : (m + n) * i.bytes ≤ 140737488355328) (hm : m + n ≤ 140737488355328)
    (h : ∀ v' w', Rof w' e sz v' (m + n) (xs ++ news) → w.grownBy w' v.ownBlock → (∀ k, v'.ownBlock = some k → v.ownBlock = some k ∨ w.heap.size ≤ k) → wpList P ops Q rest (a.put o.dst v') w') : wpList P ops Q (o :: rest) a w :=
  wpList_plain hgd fun _ hK => wp_append_off s x t tx e ho i z sz ht hi hz h1 hzc hs0 v m xs hs hown xv n news hx hsrc hb hm fun v' w' h2 h3 h4 => hK _ _ (h v' w' h2 h3 h4)
end Go.Proofs.YtlmofgfkclfgeaaGreat
/- The document's own disk in memory: it has the same states. -/
namespace Go.Proofs.YtlmofgfkclfgeaaGreat
open Go.RowKit Go.Maps
set_option linter.unusedVariables false

/-- a countdown as the document has it: -1 where there is none. -/
def ft (s : Bool) (l : Int) : Int := if s then l else -1
/-- a sector's bytes: a row that is never turned. -/
def Sl (w : World) (v : Value) (zs : List Int) : Prop := Own w v zs
theorem Sl.stays {w w' : World} {v : Value} {zs : List Int} (h : Sl w v zs) (hb : ∀ k, v.ownBlock = some k → k < w.heap.size → w'.heap[k]? = w.heap[k]?) (hs : w.heap.size ≤ w'.heap.size) : Sl w' v zs := Own.of_block h fun k hk => hb k hk (Own.lt h hk)
theorem Own.sl {w : World} {v : Value} {zs : List Int} (h : Own w v zs) : Sl w v zs := h
theorem Sl.shape {w : World} {v : Value} {zs : List Int} (h : Sl w v zs) : ∃ a c, v = .slice a zs.length c ∧ zs.length ≤ c ∧ c ≤ maxLen ∧ (a = none → zs.length = 0 ∧ c = 0) ∧ Row w a zs := by
  obtain ⟨a, c, e, h1, h2, h3, h4, -⟩ := Own.shape h
  exact ⟨a, c, e, h1, h2, h3, h4⟩
/-- the cells of the cache's writes. -/
def rwc : List (Nat × List Int) → List Value → List Value
  | x :: ws, v :: vs => .int .i64 (x.1 : Int) :: v :: rwc ws vs
  | _, _ => []
theorem rwc_len : ∀ (ws : List (Nat × List Int)) (vs : List Value), ws.length = vs.length → (rwc ws vs).length = ws.length * 2
  | [], [], _ => rfl
  | x :: ws, v :: vs, h => by simp [rwc, rwc_len ws vs (by simpa using h)]; omega
  | [], _ :: _, h => by simp at h
  | _ :: _, [], h => by simp at h
theorem rwc_at : ∀ (ws : List (Nat × List Int)) (vs : List Value) (i : Nat) (x : Nat × List Int) (v : Value), ws[i]? = some x → vs[i]? = some v → (rwc ws vs)[i * 2]? = some (.int .i64 (x.1 : Int)) ∧ (rwc ws vs)[i * 2 + 1]? = some v
  | [], _, i, x, v, h, _ => by simp at h
  | _ :: _, [], i, x, v, _, h => by simp at h
  | y :: ws, u :: vs, 0, x, v, h1, h2 => by simp at h1 h2; subst h1 h2; exact ⟨rfl, rfl⟩
  | y :: ws, u :: vs, i + 1, x, v, h1, h2 => by
    have := rwc_at ws vs i x v (by simpa using h1) (by simpa using h2)
    rw [show (i + 1) * 2 = i * 2 + 1 + 1 by omega]
    exact this
theorem rwc_snoc : ∀ (ws : List (Nat × List Int)) (vs : List Value) (x : Nat × List Int) (v : Value), ws.length = vs.length → rwc (ws ++ [x]) (vs ++ [v]) = rwc ws vs ++ [.int .i64 (x.1 : Int), v]
  | [], [], x, v, _ => rfl
  | y :: ws, u :: vs, x, v, h => by simp [rwc, rwc_snoc ws vs x v (by simpa using h)]
  | [], _ :: _, _, _, h => by simp at h
  | _ :: _, [], _, _, h => by simp at h
/-- the struct's cells. -/
def rcells (vl vc : Value) (f : Nat) (S : DS) : Array Value := #[vl, vc, .bool S.dk, .int .i64 (ft S.ts S.tl), .slice (some ⟨f, 0, none⟩) 4 4, .int .i64 S.n1, .int .i64 S.n2, .int .i64 S.n3]
def fcells (S : DS) : Array Value := #[.int .i64 (-1), .int .i64 (ft S.s1 S.l1), .int .i64 (ft S.s2 S.l2), .int .i64 (ft S.s3 S.l3)]
structure RD (w : World) (p : Nat) (vl : Value) (Ls : List Value) (vc : Value) (Cs : List Value) (f : Nat) (S : DS) : Prop where
  blk : w.heap[p]? = some (.cells (rcells vl vc f S) 79 (0, 0))
  las : w.ownsRow 0 22 1 vl S.ls.length Ls
  lle : Ls.length = S.ls.length
  lsl : ∀ (i : Nat) (zs : List Int) (v : Value), S.ls[i]? = some zs → Ls[i]? = some v → Sl w v zs
  cac : w.ownsRow 0 223 2 vc S.ws.length (rwc S.ws Cs)
  cle : Cs.length = S.ws.length
  csl : ∀ (i : Nat) (x : Nat × List Int) (v : Value), S.ws[i]? = some x → Cs[i]? = some v → Sl w v x.2
  fau : w.heap[f]? = some (.cells (fcells S) 3 (0, 0))
  good : S.Good
/-- the blocks of the document's disk. -/
def OwR (p : Nat) (vl : Value) (Ls : List Value) (vc : Value) (Cs : List Value) (f : Nat) (k : Nat) : Prop := k = p ∨ vl.ownBlock = some k ∨ vc.ownBlock = some k ∨ k = f ∨ (∃ v ∈ Ls, v.ownBlock = some k) ∨ (∃ v ∈ Cs, v.ownBlock = some k)
variable {w w' : World} {p f : Nat} {vl vc : Value} {Ls Cs : List Value} {S S' : DS}
theorem RD.c (h : RD w p vl Ls vc Cs f S) (i : Nat) (v : Value) (hv : (rcells vl vc f S)[i]? = some v) : w.cell? ⟨p, i, none⟩ = some v := by simp [World.cell?, h.blk, hv]
theorem RD.fz (h : RD w p vl Ls vc Cs f S) (i : Nat) : w.frozen? ⟨p, i, none⟩ = false := by simp [World.frozen?, h.blk]
theorem RD.fc (h : RD w p vl Ls vc Cs f S) (i : Nat) (v : Value) (hv : (fcells S)[i]? = some v) : w.cell? ⟨f, i, none⟩ = some v := by simp [World.cell?, h.fau, hv]
theorem RD.ff (h : RD w p vl Ls vc Cs f S) (i : Nat) : w.frozen? ⟨f, i, none⟩ = false := by simp [World.frozen?, h.fau]
theorem row_type {w : World} {t sz : Nat} {v : Value} {n : Nat} {xs : List Value} (h : w.ownsRow 0 t sz v n xs) {k : Nat} (hk : v.ownBlock = some k) : ∃ cur g, w.heap[k]? = some (.cells cur t g) := by
  rcases h.2 with ⟨rfl, _⟩ | ⟨g, cap, cur, rfl, _, hh, _⟩
  · simp [Value.ownBlock] at hk
  · simp [Value.ownBlock] at hk
    subst hk
    exact ⟨_, _, hh⟩
theorem row_keep {w w' : World} {t sz : Nat} {v : Value} {n : Nat} {xs : List Value} (h : w.ownsRow 0 t sz v n xs) (hb : ∀ k, v.ownBlock = some k → w'.heap[k]? = w.heap[k]?) : w'.ownsRow 0 t sz v n xs := by
  obtain ⟨h1, h2⟩ := h
  refine ⟨h1, ?_⟩
  rcases h2 with h2 | ⟨g, cap, cur, rfl, hg, hh, r⟩
  · exact .inl h2
  · exact .inr ⟨g, cap, cur, rfl, hg, by rw [hb g rfl]; exact hh, r⟩
theorem RD.lt (h : RD w p vl Ls vc Cs f S) (k : Nat) (hk : k = p ∨ vl.ownBlock = some k ∨ vc.ownBlock = some k ∨ k = f) : k < w.heap.size := by
  rcases hk with rfl | hk | hk | rfl
  · exact lt_of_block h.blk
  · exact (h.las.lt k hk).2
  · exact (h.cac.lt k hk).2
  · exact lt_of_block h.fau
/-- a disk whose own blocks are as they were is as it was. -/
theorem RD.stays (h : RD w p vl Ls vc Cs f S) (hb : ∀ k, OwR p vl Ls vc Cs f k → k < w.heap.size → w'.heap[k]? = w.heap[k]?) (hs : w.heap.size ≤ w'.heap.size) : RD w' p vl Ls vc Cs f S := by
  refine ⟨(hb p (.inl rfl) (h.lt p (.inl rfl))).trans h.blk, row_keep h.las fun k hk => hb k (.inr (.inl hk)) (h.lt k (.inr (.inl hk))), h.lle, fun i zs v h1 h2 => (h.lsl i zs v h1 h2).stays (fun k hk hl => hb k (.inr (.inr (.inr (.inr (.inl ⟨v, List.mem_of_getElem? h2, hk⟩))))) hl) hs, row_keep h.cac fun k hk => hb k (.inr (.inr (.inl hk))) (h.lt k (.inr (.inr (.inl hk)))), h.cle, fun i x v h1 h2 => (h.csl i x v h1 h2).stays (fun k hk hl => hb k (.inr (.inr (.inr (.inr (.inr ⟨v, List.mem_of_getElem? h2, hk⟩))))) hl) hs, (hb f (.inr (.inr (.inr (.inl rfl)))) (h.lt f (.inr (.inr (.inr rfl))))).trans h.fau, h.good⟩
theorem RD.below (h : RD w p vl Ls vc Cs f S) (hb : Below w.heap.size w w') : RD w' p vl Ls vc Cs f S := h.stays (fun k _ hl => hb.block k hl) hb.size
theorem RD.pf (h : RD w p vl Ls vc Cs f S) : p ≠ f := fun e => by
  have := h.blk
  rw [e, h.fau] at this
  simp at this
/-- bytes lie in no block of another kind. -/
theorem Sl.type {v : Value} {zs : List Int} (h : Sl w v zs) {k : Nat} (hk : v.ownBlock = some k) : ∃ cur g, w.heap[k]? = some (.cells cur 5 g) := row_type h hk
/-- fields of the struct and faults are turned, all else stays. -/
theorem RD.fields (h : RD w p vl Ls vc Cs f S) (h1 : S'.ls = S.ls) (h2 : S'.ws = S.ws) (hg : S'.Good) (hbp : w'.heap[p]? = some (.cells (rcells vl vc f S') 79 (0, 0))) (hbf : w'.heap[f]? = some (.cells (fcells S') 3 (0, 0))) (hm : Mv (fun k => k = p ∨ k = f) w w') : RD w' p vl Ls vc Cs f S' := by
  have hnb : ∀ {t sz : Nat} {v : Value} {n : Nat} {xs : List Value}, w.ownsRow 0 t sz v n xs → t ≠ 79 → t ≠ 3 → ∀ k, v.ownBlock = some k → w'.heap[k]? = w.heap[k]? := fun ho ht1 ht2 k hk => by
    obtain ⟨cur, g, hh⟩ := row_type ho hk
    refine hm.block k (lt_of_block hh) (fun hx => ?_)
    rcases hx with rfl | rfl
    · rw [h.blk] at hh; simp at hh; exact ht1 hh.2.1.symm
    · rw [h.fau] at hh; simp at hh; exact ht2 hh.2.1.symm
  have hsl : ∀ v zs, Sl w v zs → Sl w' v zs := fun v zs hs => hs.stays (fun k hk hl => hm.block k hl (fun hx => by
    obtain ⟨cur, g, hh⟩ := hs.type hk
    rcases hx with rfl | rfl
    · rw [h.blk] at hh; simp at hh
    · rw [h.fau] at hh; simp at hh)) hm.size
  refine ⟨hbp, ?_, by rw [h1]; exact h.lle, fun i zs v g1 g2 => ?_, ?_, by rw [h2]; exact h.cle, fun i x v g1 g2 => ?_, hbf, hg⟩
  · rw [h1]; exact row_keep h.las (hnb h.las (by decide) (by decide))
  · rw [h1] at g1
    exact hsl v zs (h.lsl i zs v g1 g2)
  · rw [h2]; exact row_keep h.cac (hnb h.cac (by decide) (by decide))
  · rw [h2] at g1
    exact hsl v x.2 (h.csl i x v g1 g2)
end Go.Proofs.YtlmofgfkclfgeaaGreat
