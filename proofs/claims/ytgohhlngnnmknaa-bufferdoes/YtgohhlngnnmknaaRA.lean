/- BufferLast: the walk. -/
import Derived.Test.YtgohhlngnnmknaaLC
import Derived.Test.YtgohhlngnnmknaaHA
import Derived.Deep.AppendSrc
import Derived.Test.YtgohhlngnnmknaaE
namespace Go.Proofs.Ytgohhlngnnmknaa
open Go.RowKit Go.Maps
set_option linter.unusedVariables false

set_option maxHeartbeats 800000 in
theorem sameb_yes (a b : Option Addr) (n c d : Nat) (xs : List Int) (w : World) (h : Inn w a n c xs) (k : Inn w b n d xs) :
    Calls Try.prog 43 #[.slice a n c, .slice b n d] w fun e w' => e = .returned (.bool true) ∧ Below w.heap.size w w' := by
  have hl := h.len
  have hmx : n ≤ 9223372036854775807 := by have := h.cap; have := h.max; omega
  have HR := hide h.row
  have HR2 := hide k.row
  have HL := hide hl
  clear h k hl
  have hnb : ((n : Int) != (n : Int)) = false := by simp
  go_enter Try.func43, Try.ntmps43
  go_wp2
  go_loopw [5] (fun i wr => ∃ k : Nat, k ≤ n ∧ i = .int .i64 k ∧ Below w.heap.size w wr) (fun i _ => n - (intOf i).toNat)
  case atStart => exact ⟨0, Nat.zero_le _, rfl, Below.refl _ _⟩
  case round =>
    obtain ⟨k, hk, rfl, hbel⟩ := hrel
    have HBel := hide hbel
    clear hbel
    by_cases hlt : k < n
    · have hlk : k < xs.length := by have := HL.out; omega
      rcases HR.out.below HBel.out with h0 | ⟨b1, o1, rfl, _, hc1⟩
      · subst h0; simp at hlk
      rcases HR2.out.below HBel.out with h0 | ⟨b2, o2, rfl, _, hc2⟩
      · subst h0; simp at hlk
      have g1 := hc1 k hlk
      have g2 := hc2 k hlk
      clear hc1 hc2 hlk
      generalize xs.getD k 0 = cc at g1 g2
      have hbn : (cc != cc) = false := by simp
      go_wp2
      go_quiet (fail)
      go_wp2
      go_roundw
      case rel => exact ⟨k + 1, by omega, by go_num, below_drewN HBel.out _⟩
      case measure => simp [intOf]; omega
    · go_wp2
      go_ret
      exact ⟨rfl, HBel.out⟩
end Go.Proofs.Ytgohhlngnnmknaa
/- Rows that begin somewhere in their block: what a slice of a row is; appends to it. -/
namespace Go.Proofs.Ytgohhlngnnmknaa
open Go.RowKit Go.Maps
set_option linter.unusedVariables false

/-- a row of a type of sz cells, from some place of its block on; the room behind it is its own. -/
def Rof (w : World) (e : TypeId) (sz : Nat) (v : Value) (n : Nat) (xs : List Value) : Prop :=
  xs.length = n * sz ∧ ((v = .slice none 0 0 ∧ n = 0) ∨ ∃ g o cap cur, v = .slice (some ⟨g, o, none⟩) n cap ∧ w.heap[g]? = some (.cells cur e (0, 0)) ∧ n ≤ cap ∧ cap ≤ maxLen ∧ o + cap * sz ≤ cur.size ∧ (cur.toList.drop o).take (n * sz) = xs)
variable {w w' : World} {e : TypeId} {sz n : Nat} {v : Value} {xs : List Value}
theorem Rof.nil (w : World) (e : TypeId) (sz : Nat) : Rof w e sz (.slice none 0 0) 0 [] := ⟨by simp, .inl ⟨rfl, rfl⟩⟩
theorem Rof.lt (h : Rof w e sz v n xs) {k : Nat} (hk : v.ownBlock = some k) : k < w.heap.size := by
  rcases h.2 with ⟨rfl, _⟩ | ⟨g, o, cap, cur, rfl, hg, _⟩
  · simp [Value.ownBlock] at hk
  · simp only [Value.ownBlock, Option.some.injEq] at hk
    subst hk
    exact lt_of_block hg
theorem Rof.keep (h : Rof w e sz v n xs) (hb : ∀ k, v.ownBlock = some k → w'.heap[k]? = w.heap[k]?) : Rof w' e sz v n xs := by
  refine ⟨h.1, ?_⟩
  rcases h.2 with h0 | ⟨g, o, cap, cur, rfl, hg, h3⟩
  · exact .inl h0
  · exact .inr ⟨g, o, cap, cur, rfl, (hb g rfl).trans hg, h3⟩
theorem Rof.type (h : Rof w e sz v n xs) {k : Nat} (hk : v.ownBlock = some k) : ∃ cur g, w.heap[k]? = some (.cells cur e g) := by
  rcases h.2 with ⟨rfl, _⟩ | ⟨g, o, cap, cur, rfl, hg, _⟩
  · simp [Value.ownBlock] at hk
  · simp only [Value.ownBlock, Option.some.injEq] at hk
    subst hk
    exact ⟨cur, _, hg⟩
theorem Rof.shape (h : Rof w e sz v n xs) : ∃ a c, v = .slice a n c ∧ n ≤ c ∧ c ≤ maxLen ∧ (a = none → n = 0 ∧ c = 0) ∧ ∀ ad, a = some ad → ad.spot = none := by
  rcases h.2 with ⟨rfl, h0⟩ | ⟨g, o, cap, cur, rfl, hg, h3, h4, _⟩
  · exact ⟨none, 0, by rw [h0], by omega, by unfold maxLen; omega, fun _ => ⟨h0, rfl⟩, by simp⟩
  · exact ⟨_, cap, rfl, h3, h4, (by intro h; cases h), (by intro ad h; cases h; rfl)⟩
theorem Rof.cell {g o c : Nat} (h : Rof w e sz (.slice (some ⟨g, o, none⟩) n c) n xs) {j : Nat} {u : Value} (hu : xs[j]? = some u) : w.cell? ⟨g, o + j, none⟩ = some u := by
  rcases h.2 with ⟨h1, _⟩ | ⟨g', o', cap, cur, h1, hg, _, _, _, ht⟩
  · cases h1
  · cases h1
    rw [cell_of_row w g (o + j) cur e (0, 0) hg]
    rw [← ht, List.getElem?_take] at hu
    split at hu
    · rw [List.getElem?_drop] at hu
      simpa using hu
    · cases hu
theorem Rof.frozen {g o c : Nat} (h : Rof w e sz (.slice (some ⟨g, o, none⟩) n c) n xs) (j : Nat) : w.frozen? ⟨g, j, none⟩ = false := by
  rcases h.2 with ⟨h1, _⟩ | ⟨g', o', cap, cur, h1, hg, _⟩
  · cases h1
  · cases h1
    simp [World.frozen?, hg]
theorem Rof.lies (h : Rof w e sz v n xs) (hn : n ≠ 0) : ∃ g o c, v = .slice (some ⟨g, o, none⟩) n c ∧ n ≤ c := by
  rcases h.2 with ⟨rfl, h0⟩ | ⟨g, o, cap, cur, rfl, hg, h3, h4, _⟩
  · exact absurd h0 hn
  · exact ⟨g, o, cap, rfl, h3⟩
/-- the last ones of a row. -/
theorem Rof.drop {g o c k : Nat} (h : Rof w e sz (.slice (some ⟨g, o, none⟩) n c) n xs) (hk : k ≤ n) : Rof w e sz (.slice (some ⟨g, o + k * sz, none⟩) (n - k) (c - k)) (n - k) (xs.drop (k * sz)) := by
  rcases h.2 with ⟨h1, _⟩ | ⟨g', o', cap, cur, h1, hg, h2, h3, h4, ht⟩
  · cases h1
  · cases h1
    have hm : (n - k) * sz = n * sz - k * sz := Nat.sub_mul n k sz
    have hc : (c - k) * sz = c * sz - k * sz := Nat.sub_mul c k sz
    have hkn : k * sz ≤ n * sz := Nat.mul_le_mul_right sz hk
    have hkc : n * sz ≤ c * sz := Nat.mul_le_mul_right sz h2
    refine ⟨by rw [List.length_drop, h.1, hm], .inr ⟨g, o + k * sz, c - k, cur, rfl, hg, by omega, by omega, by omega, ?_⟩⟩
    rw [← ht, hm, List.drop_take, List.drop_drop]
/-- the first ones of a row, as the source of an append. -/
theorem Rof.src {P : Program} {tx e' : TypeId} {g o c k : Nat} (h : Rof w e sz (.slice (some ⟨g, o, none⟩) n c) n xs) (hk : k ≤ n) (c' : Nat) (hu : P.underlying tx = some (.slice e')) (h1 : ∀ u ∈ xs, u.oneCell' = true) : Src P sz tx (.slice (some ⟨g, o, none⟩) k c') k (xs.take (k * sz)) w := by
  have hkn : k * sz ≤ n * sz := Nat.mul_le_mul_right sz hk
  refine Src.ofSlice w hu ⟨g, o, none⟩ k c' _ (by rw [List.length_take, h.1]; omega) (fun j u hj => ?_) (fun u hm => h1 u (List.mem_of_mem_take hm))
  rw [List.getElem?_take] at hj
  split at hj
  · rw [Addr.add_lit]
    exact h.cell hj
  · cases hj
/-- an append to such a row. -/
theorem run_append_off {P : Program} (w : World) (t tx ty e : TypeId) (i : TypeInfo) (z : Value) (sz : Nat) (ht : P.underlying t = some (.slice e)) (hi : P.info? e = some i) (hz : i.zero = some z) (h1 : i.size = sz) (hzc : z.cells.size = sz) (hs0 : 0 < sz)
    (v : Value) (m : Nat) (xs : List Value) (hown : Rof w e sz v m xs) (x : Value) (n : Nat) (news : List Value) (hs : Src P sz tx x n news w) (hb : (m + n) * i.bytes ≤ 140737488355328) (hm : m + n ≤ 140737488355328) :
    ∃ v' w', (Builtin.append_ #[t, tx] ty #[v, x]).run P w = .ok v' w' ∧ Rof w' e sz v' (m + n) (xs ++ news) ∧ w.grownBy w' v.ownBlock ∧ (∀ k, v'.ownBlock = some k → v.ownBlock = some k ∨ w.heap.size ≤ k) := by
  have hnl : news.length = n * sz := hs.newsLen
  have hxl : xs.length = m * sz := hown.1
  have hlen : (xs ++ news).length = (m + n) * sz := by rw [List.length_append, hnl, hxl, Nat.add_mul]
  have hs' : Src P i.size tx x n news w := by rw [h1]; exact hs
  have hgrow : ∀ (old : Nat) (row : Option Nat), old < m + n →
      Rof (w.drew.alloc (.cells ((xs ++ news).toArray ++ Builtin.zeroCells z.cells (grownCap w (m + n) old e - (m + n))) e)) e sz (.slice (some ⟨w.heap.size, 0, none⟩) (m + n) (grownCap w (m + n) old e)) (m + n) (xs ++ news) ∧
      w.grownBy (w.drew.alloc (.cells ((xs ++ news).toArray ++ Builtin.zeroCells z.cells (grownCap w (m + n) old e - (m + n))) e)) row := by
    intro old row ho
    have hge := grownCap_ge w (m + n) old e
    have hcm : grownCap w (m + n) old e ≤ maxLen := grownCap_le_maxLen w _ old e (by unfold maxLen; omega)
    refine ⟨⟨hlen, .inr ⟨w.heap.size, 0, _, _, rfl, heap_alloc_new w.drew _, hge, hcm, ?_, ?_⟩⟩, ⟨rfl, rfl, rfl, by simp, fun k hk _ => Below.heap_alloc w.drew _ k hk⟩⟩
    · have : (grownCap w (m + n) old e - (m + n)) * sz = grownCap w (m + n) old e * sz - (m + n) * sz := Nat.sub_mul _ _ _
      have h2 : (m + n) * sz ≤ grownCap w (m + n) old e * sz := Nat.mul_le_mul_right sz hge
      simp only [Array.size_append, List.size_toArray, size_zeroCells, hlen, hzc]
      omega
    · rw [Array.toList_append, List.drop_zero, ← hlen]
      exact List.take_left
  rcases hown.2 with ⟨rfl, h0⟩ | ⟨g, off, cap, cur, rfl, hg, hnc, hcm, hcs, htake⟩
  · subst h0
    have hx : xs = [] := List.eq_nil_of_length_eq_zero (by omega)
    subst hx
    by_cases hm0 : n = 0
    · subst hm0
      have hn : news = [] := List.eq_nil_of_length_eq_zero (by omega)
      subst hn
      refine ⟨.slice none 0 0, w, ?_, Rof.nil w e sz, ⟨rfl, rfl, rfl, Nat.le_refl _, fun _ _ _ => rfl⟩, fun k hk => .inl hk⟩
      have hsl := hs'.len
      have hsc := hs'.cells
      rcases hs.kind with ⟨e', hk⟩ | hk <;> simp [Builtin.append_, run_underlying ht, run_underlying hk, sizeOf, typeInfo, hi, hsl, hsc]
    · have hr := run_append_grow_src (P := P) w t tx ty e i z ht hi hz none 0 0 [] (by simp [Builtin.firstCells]) x n _ hs' (by omega) (by omega) (growslice_fits (by omega) (by simpa using hb))
      have hgr := hgrow 0 (Value.ownBlock (.slice none 0 0)) (by omega)
      simp only [Nat.zero_add, List.nil_append] at hgr hr ⊢
      exact ⟨_, _, hr, hgr.1, hgr.2, fun k hk => .inr (by simp [Value.ownBlock] at hk; omega)⟩
  · by_cases hroom : m + n ≤ cap
    · have hmc : (m + n) * sz ≤ cap * sz := Nat.mul_le_mul_right sz hroom
      have hmn : (m + n) * sz = m * sz + n * sz := Nat.add_mul m n sz
      have hfit : off + m * sz + news.length ≤ cur.size := by rw [hnl]; omega
      have hst := run_storeCells_at P g (off + m * sz) e news 0 cur w hg (by simpa using hfit) hs.one
      simp only [Nat.add_zero] at hst
      have hsl := hs.len
      have hsc := hs.cells
      refine ⟨.slice (some ⟨g, off, none⟩) (m + n) cap, w.setRow g (cur.toList.take (off + m * sz) ++ news ++ cur.toList.drop (off + m * sz + news.length)).toArray, ?_, ⟨hlen, .inr ⟨g, off, cap, _, rfl, setRow_heap w g cur _ e _ hg, hroom, hcm, ?_, ?_⟩⟩, ⟨rfl, rfl, rfl, by simp, fun k _ hk => setRow_other w g k _ (fun e => hk (by simp [Value.ownBlock, e]))⟩, fun k hk => .inl (by simpa [Value.ownBlock] using hk)⟩
      · rcases hs.kind with ⟨e', hk⟩ | hk <;> simp [Builtin.append_, run_underlying ht, run_underlying hk, sizeOf, typeInfo, hi, h1, hsl, hroom, hsc, Addr.add_lit] <;> simp at hst <;> simp [hst]
      · simp only [List.size_toArray, List.length_append, List.length_take, List.length_drop, Array.length_toList] at hfit ⊢
        omega
      · have hl0 : (cur.toList.take (off + m * sz)).length = off + m * sz := by rw [List.length_take, Array.length_toList]; omega
        have e1 : cur.toList.take (off + m * sz) = cur.toList.take off ++ xs := by rw [← htake, List.take_add]
        have hlo : (cur.toList.take off).length = off := by rw [List.length_take, Array.length_toList]; omega
        show ((cur.toList.take (off + m * sz) ++ news ++ cur.toList.drop (off + m * sz + news.length)).drop off).take ((m + n) * sz) = xs ++ news
        rw [e1, List.append_assoc, List.append_assoc, List.drop_left' hlo, ← List.append_assoc, ← hlen]
        exact List.take_left
    · have holds : ∀ j u, xs[j]? = some u → w.drew.cell? ((⟨g, off, none⟩ : Addr).add j) = some u := fun j u hu => by
        rw [Addr.add_lit]
        exact hown.cell hu
      have hr := run_append_grow_src (P := P) w t tx ty e i z ht hi hz (some ⟨g, off, none⟩) m cap xs (run_firstCells_some w.drew i.size m ⟨g, off, none⟩ m cap _ (by rw [h1]; exact hxl) holds) x n _ hs' (by omega) (by omega) (growslice_fits (by omega) hb)
      have hgr := hgrow cap (Value.ownBlock (.slice (some ⟨g, off, none⟩) m cap)) (by omega)
      exact ⟨_, _, hr, hgr.1, hgr.2, fun k hk => .inr (by simp [Value.ownBlock] at hk; omega)⟩
theorem wp_append_off {P : Program} {w : World} {o : Oper} {a : Act} {K : Act → World → Prop} {Q : Exit → Act → World → Prop} (s x : Operand) (t tx e : TypeId) (ho : o.op = .call { callee := .builtin .append, args := #[s, x], argTypes := #[t, tx] })
    (i : TypeInfo) (z : Value) (sz : Nat) (ht : P.underlying t = some (.slice e)) (hi : P.info? e = some i) (hz : i.zero = some z) (h1 : i.size = sz) (hzc : z.cells.size = sz) (hs0 : 0 < sz)
    (v : Value) (m : Nat) (xs : List Value) (hs : a.eval s = v) (hown : Rof w e sz v m xs) (xv : Value) (n : Nat) (news : List Value) (hx : a.eval x = xv) (hsrc : Src P sz tx xv n news w) (hb : (m + n) * i.bytes ≤ 140737488355328) (hm : m + n ≤ 140737488355328)
    (h : ∀ v' w', Rof w' e sz v' (m + n) (xs ++ news) → w.grownBy w' v.ownBlock → (∀ k, v'.ownBlock = some k → v.ownBlock = some k ∨ w.heap.size ≤ k) → K (a.put o.dst v') w') : o.wp P a w K Q := by
  obtain ⟨v', w', hr, h2, h3, h4⟩ := run_append_off (P := P) w t tx o.type e i z sz ht hi hz h1 hzc hs0 v m xs hown xv n news hsrc hb hm
  unfold Oper.wp execOp
  simp only [ho, resolve, invoke, builtin, Sem.run_bind, Sem.run_pure, Result.andThen_ok, List.map_toArray, List.map_cons, List.map_nil, hs, hx, hr]
  exact h v' w' h2 h3 h4
theorem wpList_append_off {P : Program} {w : World} {ops : Array Oper} {rest : List Oper} {o : Oper} {a : Act} {Q : Exit → Act → World → Prop} (hgd : o.guard = none) (s x : Operand) (t tx e : TypeId) (ho : o.op = .call { callee := .builtin .append, args := #[s, x], argTypes := #[t, tx] })
    (i : TypeInfo) (z : Value) (sz : Nat) (ht : P.underlying t = some (.slice e)) (hi : P.info? e = some i) (hz : i.zero = some z) (h1 : i.size = sz) (hzc : z.cells.size = sz) (hs0 : 0 < sz)
    (v : Value) (m : Nat) (xs : List Value) (hs : a.eval s = v) (hown : Rof w e sz v m xs) (xv : Value) (n : Nat) (news : List Value) (hx : a.eval x = xv) (hsrc : Src P sz tx xv n news w) (hb : (m + n) * i.bytes ≤ 140737488355328) (hm : m + n ≤ 140737488355328)
    (h : ∀ v' w', Rof w' e sz v' (m + n) (xs ++ news) → w.grownBy w' v.ownBlock → (∀ k, v'.ownBlock = some k → v.ownBlock = some k ∨ w.heap.size ≤ k) → wpList P ops Q rest (a.put o.dst v') w') : wpList P ops Q (o :: rest) a w :=
  wpList_plain hgd fun _ hK => wp_append_off s x t tx e ho i z sz ht hi hz h1 hzc hs0 v m xs hs hown xv n news hx hsrc hb hm fun v' w' h2 h3 h4 => hK _ _ (h v' w' h2 h3 h4)
end Go.Proofs.Ytgohhlngnnmknaa
/- The document's own buffer in memory: what is copied, Put. -/
namespace Go.Proofs.Ytgohhlngnnmknaa
open Go.RowKit Go.Maps
set_option linter.unusedVariables false
abbrev zorax1 : Oper := { dst := some 6, op := Op.move (Operand.tmp 0), type := 29, pos := "ref.go:24", after := #[], guard := none }
abbrev zorax2 : Oper := { dst := some 7, op := Op.move (Operand.tmp 0), type := 29, pos := "ref.go:24", after := #[], guard := none }
abbrev zorax3 : Oper := { dst := some 8, op := Op.nilCheck (Operand.tmp 7), type := 0, pos := "ref.go:24", after := #[{ on := 1, ground := Ground.data }], guard := none }
abbrev zorax4 : Oper := { dst := some 9, op := Op.fieldAddr 32 (Operand.tmp 8) 0, type := 0, pos := "ref.go:24", after := #[{ on := 2, ground := Ground.data }], guard := none }
abbrev zorax5 : Oper := { dst := some 11, op := Op.move (Operand.tmp 1), type := 60, pos := "ref.go:24", after := #[], guard := none }
abbrev zorax6 : Oper := { dst := some 13, op := Op.move (Operand.tmp 2), type := 60, pos := "ref.go:24", after := #[], guard := none }
abbrev zorax7 : Oper := { dst := some 10, op := Op.load 30 (Operand.tmp 9), type := 30, pos := "ref.go:24", after := #[{ on := 3, ground := Ground.data }], guard := none }
abbrev zorax8 : Oper := { dst := some 12, op := Op.call { callee := Callee.value (Operand.func 73), args := #[Operand.tmp 11], argTypes := #[60] }, type := 60, pos := "ref.go:24", after := #[{ on := 5, ground := Ground.data }], guard := none }
abbrev zorax9 : Oper := { dst := some 14, op := Op.call { callee := Callee.value (Operand.func 73), args := #[Operand.tmp 13], argTypes := #[60] }, type := 60, pos := "ref.go:24", after := #[{ on := 7, ground := Ground.data }, { on := 6, ground := Ground.chain }], guard := none }
abbrev zorax10 : Oper := { dst := some 15, op := Op.build 85 #[(0, Operand.tmp 12), (1, Operand.tmp 14)], type := 85, pos := "ref.go:24", after := #[{ on := 6, ground := Ground.data }, { on := 8, ground := Ground.data }], guard := none }
abbrev zorax11 : Oper := { dst := some 16, op := Op.buildSlice 30 1 #[(0, Operand.tmp 15)], type := 30, pos := "ref.go:24", after := #[{ on := 9, ground := Ground.data }], guard := none }
abbrev zorax12 : Oper := { dst := some 17, op := Op.call { callee := Callee.builtin Builtin.append, args := #[Operand.tmp 10, Operand.tmp 16], argTypes := #[30, 30] }, type := 30, pos := "ref.go:24", after := #[{ on := 4, ground := Ground.data }, { on := 10, ground := Ground.data }, { on := 8, ground := Ground.chain }], guard := none }
abbrev zorax13 : Oper := { dst := some 18, op := Op.nilCheck (Operand.tmp 6), type := 0, pos := "ref.go:24", after := #[{ on := 0, ground := Ground.data }, { on := 0, ground := Ground.phase }, { on := 1, ground := Ground.phase }, { on := 2, ground := Ground.phase }, { on := 3, ground := Ground.phase }, { on := 4, ground := Ground.phase }, { on := 5, ground := Ground.phase }, { on := 6, ground := Ground.phase }, { on := 7, ground := Ground.phase }, { on := 8, ground := Ground.phase }, { on := 9, ground := Ground.phase }, { on := 10, ground := Ground.phase }, { on := 11, ground := Ground.phase }], guard := none }
abbrev zorax14 : Oper := { dst := some 19, op := Op.fieldAddr 32 (Operand.tmp 18) 0, type := 0, pos := "ref.go:24", after := #[{ on := 12, ground := Ground.data }, { on := 0, ground := Ground.phase }, { on := 1, ground := Ground.phase }, { on := 2, ground := Ground.phase }, { on := 3, ground := Ground.phase }, { on := 4, ground := Ground.phase }, { on := 5, ground := Ground.phase }, { on := 6, ground := Ground.phase }, { on := 7, ground := Ground.phase }, { on := 8, ground := Ground.phase }, { on := 9, ground := Ground.phase }, { on := 10, ground := Ground.phase }, { on := 11, ground := Ground.phase }], guard := none }
abbrev zorax15 : Oper := { dst := none, op := Op.store 30 (Operand.tmp 19) (Operand.tmp 17), type := 0, pos := "ref.go:24", after := #[{ on := 13, ground := Ground.data }, { on := 11, ground := Ground.data }, { on := 11, ground := Ground.chain }, { on := 0, ground := Ground.phase }, { on := 1, ground := Ground.phase }, { on := 2, ground := Ground.phase }, { on := 3, ground := Ground.phase }, { on := 4, ground := Ground.phase }, { on := 5, ground := Ground.phase }, { on := 6, ground := Ground.phase }, { on := 7, ground := Ground.phase }, { on := 8, ground := Ground.phase }, { on := 9, ground := Ground.phase }, { on := 10, ground := Ground.phase }, { on := 11, ground := Ground.phase }], guard := none }

set_option maxHeartbeats 800000 in
set_option maxRecDepth 1000000 in
theorem copied_any (a : Option Addr) (n c : Nat) (ys : List Int) (w : World) (h : Inn w a n c ys) (hb : n ≤ 140737488351232) :
    Calls Try.prog 73 #[.slice a n c] w fun e w' => ∃ v, e = .returned v ∧ Made w v ys w' := by
  have HS : Hid (Src Try.prog 1 60 (.slice a n c) n (ys.map (Value.int .u8)) w) := hide (src_row _ _ n c ys h.len h.bare h.row)
  have HB : Hid (([] : List Int).length + n ≤ 140737488355328) := by rw [Hid]; simp; omega
  obtain ⟨i0, hi, hz0, hz1, hz2⟩ := info_parts Try.info5
  clear h
  go_enter Try.func73, Try.ntmps73
  go_wp2_with (at_builtin; refine wpList_append_src (by rfl) (.tmp 4) (.tmp 5) 60 60 (by rfl) i0 Try.underlying60 hi hz0 hz1 hz2 (.slice none 0 0) [] (by rfl) (Own.nil _) (.slice a n c) n ys (by rfl) HS.out HB.out ?_; intro v' w1 hown1 hg1 hf1; obtain ⟨a2, n2, c2, rfl, HN2⟩ := hown1.shape2; have HO1 := hide hown1; have HG1 := hide hg1; have HF1 := hide hf1; clear hown1 hg1 hf1)
  go_ret
  refine ⟨_, rfl, HO1.out, fun k hk => ?_, (Below.refl _ w).grown HG1.out (Nat.le_refl _) (fun k hk => by simp [Value.ownBlock] at hk)⟩
  rcases HF1.out k hk with h | h
  · simp [Value.ownBlock] at h
  · exact h
/-- the document's buffer at p: all that was said, in order. -/
structure Rb (w : World) (p B : Nat) (v : Value) (ys : List En) : Prop where
  blk : w.heap[p]? = some (.cells #[v] 32 (0, 0))
  ge : B ≤ p
  cl : Cl B w v ys
theorem Rb.below {w w' : World} {p B : Nat} {v : Value} {ys : List En} (h : Rb w p B v ys) (hb : Below w.heap.size w w') : Rb w' p B v ys :=
  ⟨(hb.block _ (lt_of_block h.blk)).trans h.blk, h.ge, h.cl.below hb⟩
theorem infoE2 : (Try.prog.info? 85).map (fun i => (i.zero, i.size, i.bytes)) = some (some (.agg #[.slice none 0 0, .slice none 0 0, .bool false]), 3, 56) := by kernel_rfl
/-- what a call of it leaves: all but it stays. -/
def RbOut (w : World) (p B : Nat) (v : Value) (ys : List En) (e : Ee) (r : Ending) (w' : World) : Prop := r = .returned (.tuple #[]) ∧ ∃ v' y, y.e = e ∧ Rb w' p B v' (ys ++ [y]) ∧ Mv (fun k => k = p ∨ v.ownBlock = some k) w w' ∧ (∀ k, v'.ownBlock = some k → v.ownBlock = some k ∨ w.heap.size ≤ k)
theorem Rb.type_ne {w : World} {p B : Nat} {v : Value} {ys : List En} (h : Rb w p B v ys) : v.ownBlock ≠ some p := fun e => by
  obtain ⟨_, _, cur, h1⟩ := h.cl.block e
  rw [h.blk] at h1
  have := congrArg (fun o : Option Obj => match o with | some (.cells _ t _) => t | _ => 0) h1
  simp at this
theorem Rb.type_ne2 {w : World} {p B : Nat} {v : Value} {ys : List En} (h : Rb w p B v ys) {y : En} (hy : y ∈ ys) {k : Nat} (hk : y.has k) : k ≠ p := fun e => by
  subst e
  obtain ⟨cur, h1⟩ := (h.cl.each y hy).u8 hk
  rw [h.blk] at h1
  have := congrArg (fun o : Option Obj => match o with | some (.cells _ t _) => t | _ => 0) h1
  simp at this
/-- one more is said. -/
theorem Rb.snoc {w w1 w2 : World} {p B : Nat} {v v' : Value} {ys : List En} {y : En} (h : Rb w p B v ys) (hB : B ≤ w.heap.size) (hb : Below w.heap.size w w1) (hy : y.Own w.heap.size w1) (hg : w1.grownBy w2 v.ownBlock) (hr : w2.ownsRow B 85 3 v' (ys.length + 1) (rowc ys ++ y.cells)) (hf : ∀ k, v'.ownBlock = some k → v.ownBlock = some k ∨ w1.heap.size ≤ k) :
    RbOut w p B v ys y.e (.returned (.tuple #[])) (w2.setCell ⟨p, 0, none⟩ v') := by
  have hc := h.cl.snoc hB hb hy hg hr
  have hp := lt_of_block h.blk
  have hp1 : w1.heap[p]? = some (.cells #[v] 32 (0, 0)) := (hb.block p hp).trans h.blk
  have hp2 : w2.heap[p]? = some (.cells #[v] 32 (0, 0)) := (hg.block p (lt_of_block hp1) (fun e => h.type_ne e.symm)).trans hp1
  have hstay : ∀ k, k ≠ p → (w2.setCell ⟨p, 0, none⟩ v').heap[k]? = w2.heap[k]? := fun k hk => set_other _ _ _ _ _ hk
  refine ⟨rfl, v', y, rfl, ⟨?_, h.ge, hc.of_block (fun k hk => hstay k ?_) (fun z hz k hk => hstay k ?_)⟩, ?_, fun k hk => ?_⟩
  · rw [heap_setCell_same w2 p 0 _ 32 _ hp2]; rfl
  · rintro rfl
    rcases hf k hk with h1 | h1
    · exact h.type_ne h1
    · have := hb.size; omega
  · rintro rfl
    obtain ⟨cur, h1⟩ := (hc.each z hz).u8 hk
    rw [hp2] at h1
    have := congrArg (fun o : Option Obj => match o with | some (.cells _ t _) => t | _ => 0) h1
    simp at this
  · exact ((Mv.of_below hb).grown hg fun k hk => .inl (.inr hk)).setB (.inl rfl) 0 v'
  · exact (hf k hk).imp id fun h1 => by have := hb.size; omega
/-- two copies, the row that is to grow, and what comes behind. -/
theorem rput_end {w wK wV : World} {p B : Nat} {v : Value} {ys : List En} {a b : Option Addr} {c d : Nat} {key val : List Int} (h : Rb w p B v ys) (hB : B ≤ w.heap.size) (hK : Made w.drew (.slice a key.length c) key wK) (hV : Made wK (.slice b val.length d) val wV) (k8 : Byts key) (v8 : Byts val) (hBK : Below w.heap.size w wK) (hBV : Below w.heap.size w wV) :
    (wV.alloc (.cells #[.slice a key.length c, .slice b val.length d, .bool false] 85)).ownsRow B 85 3 v ys.length (rowc ys) ∧
    (∀ j u, ([.slice a key.length c, .slice b val.length d, .bool false] : List Value)[j]? = some u → (wV.alloc (.cells #[.slice a key.length c, .slice b val.length d, .bool false] 85)).cell? ((⟨wV.heap.size, 0, none⟩ : Addr).add j) = some u) ∧
    (∀ u ∈ ([.slice a key.length c, .slice b val.length d, .bool false] : List Value), u.oneCell' = true) ∧
    B ≤ (wV.alloc (.cells #[.slice a key.length c, .slice b val.length d, .bool false] 85)).heap.size ∧
    (∀ w6, (wV.alloc (.cells #[.slice a key.length c, .slice b val.length d, .bool false] 85)).grownBy w6 v.ownBlock → w6.heap[p]? = some (.cells #[v] 32 (0, 0))) ∧
    (∀ v6 w6, w6.ownsRow B 85 3 v6 (ys.length + 1) (rowc ys ++ [.slice a key.length c, .slice b val.length d, .bool false]) → (wV.alloc (.cells #[.slice a key.length c, .slice b val.length d, .bool false] 85)).grownBy w6 v.ownBlock → (v6.ownBlock = v.ownBlock ∨ v6.ownBlock = some (wV.alloc (.cells #[.slice a key.length c, .slice b val.length d, .bool false] 85)).heap.size) → RbOut w p B v ys ⟨key, val, false⟩ (.returned (.tuple #[])) (w6.setCell ⟨p, 0, none⟩ v6)) := by
  have hBA : Below w.heap.size w (wV.alloc (.cells #[.slice a key.length c, .slice b val.length d, .bool false] 85)) := hBV.trans ((below_alloc wV _).mono hBV.size)
  have hp := lt_of_block h.blk
  have hp1 := (hBA.block p hp).trans h.blk
  have hy : (⟨⟨key, val, false⟩, a, c, b, d⟩ : En).Own w.heap.size (wV.alloc (.cells #[.slice a key.length c, .slice b val.length d, .bool false] 85)) := by
    have b1 : Below wK.heap.size wK (wV.alloc (.cells #[.slice a key.length c, .slice b val.length d, .bool false] 85)) := hV.2.2.trans ((below_alloc wV _).mono hV.2.2.size)
    refine ⟨hK.1.below b1, hV.1.below (below_alloc wV _), fun k hk => hK.2.1 k hk, fun k hk => Nat.le_trans hBK.size (hV.2.1 k hk), fun k hk e => ?_, k8, v8⟩
    have h1 := hK.1.lt hk
    have h2 := hV.2.1 k e
    omega
  refine ⟨(h.cl.below hBA).row, fun j u hu => ?_, fun u hu => ?_, by have := hBA.size; omega, fun w6 hg => ?_, fun v6 w6 ho hg hl => ?_⟩
  · exact box_news wV (⟨⟨key, val, false⟩, a, c, b, d⟩ : En) j u hu
  · exact cells_one (⟨⟨key, val, false⟩, a, c, b, d⟩ : En) u hu
  · exact (hg.block p (lt_of_block hp1) (fun e => h.type_ne e.symm)).trans hp1
  · exact Rb.snoc (y := ⟨⟨key, val, false⟩, a, c, b, d⟩) h hB hBA hy hg ho (fun k hk => hl.elim (fun e => .inl (by rw [← e]; exact hk)) (fun e => .inr (by rw [e] at hk; cases hk; exact Nat.le_refl _)))
set_option maxHeartbeats 3200000 in
set_option maxRecDepth 1000000 in
theorem rput_any {w : World} {p B : Nat} {v : Value} {ys : List En} (h : Rb w p B v ys) (hB : B ≤ w.heap.size) (ka va : Option Addr) (kn kc vn vc : Nat) (key val : List Int) (hk : Inn w ka kn kc key) (hv : Inn w va vn vc val) (hkn : kn ≤ 140737488351232) (hvn : vn ≤ 140737488351232) (hn : ys.length ≤ 900000) :
    Calls Try.prog 22 #[.pointer (some ⟨p, 0, none⟩), .slice ka kn kc, .slice va vn vc] w (RbOut w p B v ys ⟨key, val, false⟩) := by
  obtain ⟨i0, hi, hz0, hz1, hz2⟩ := info_parts infoE2
  have k8 := hk.byts
  have v8 := hv.byts
  have HK := hide (fun W (hW : Below w.heap.size w W) => copied_any ka kn kc key W (hk.below hW) hkn)
  have HV := hide (fun W (hW : Below w.heap.size w W) => copied_any va vn vc val W (hv.below hW) hvn)
  have c0 := cell_of_one h.blk
  have f0 := free_of_one h.blk
  have H := hide h
  have HK8 := hide k8
  have HV8 := hide v8
  clear h hk hv k8 v8
  go_enter Try.func22, Try.ntmps22
  go_wp2
  refine wp_region_noPanic ?_
  refine wp_region_held_drew (S := (fun W => True)) (by kernel_rfl) trivial (fun _hS => ?_)
  refine wtk (i := 0) (oi := zorax1) (v := ?v0x101) rfl ⟨by rfl, ?hy0x101⟩ (by assumption) ?_
  case hy0x101 => (intro w s; (try dsimp only at s); first | (go_simp; with_reducible rfl) | go_simp)
  try simp only [Act.put, zps]
  refine wtk (i := 1) (oi := zorax2) (v := ?v1x102) rfl ⟨by rfl, ?hy1x102⟩ (by assumption) ?_
  case hy1x102 => (intro w s; (try dsimp only at s); first | (go_simp; with_reducible rfl) | go_simp)
  try simp only [Act.put, zps]
  refine wtk (i := 2) (oi := zorax3) (v := ?v2x103) rfl ⟨by rfl, ?hy2x103⟩ (by assumption) ?_
  case hy2x103 => (intro w s; (try dsimp only at s); first | (go_simp; with_reducible rfl) | go_simp)
  try simp only [Act.put, zps]
  refine wtk (i := 3) (oi := zorax4) (v := ?v3x104) rfl ⟨by rfl, ?hy3x104⟩ (by assumption) ?_
  case hy3x104 => (intro w s; (try dsimp only at s); first | (go_simp; with_reducible rfl) | go_simp)
  try simp only [Act.put, zps]
  refine wtk (i := 5) (oi := zorax5) (v := ?v5x105) rfl ⟨by rfl, ?hy5x105⟩ (by assumption) ?_
  case hy5x105 => (intro w s; (try dsimp only at s); first | (go_simp; with_reducible rfl) | go_simp)
  try simp only [Act.put, zps]
  refine wtk (i := 7) (oi := zorax6) (v := ?v7x106) rfl ⟨by rfl, ?hy7x106⟩ (by assumption) ?_
  case hy7x106 => (intro w s; (try dsimp only at s); first | (go_simp; with_reducible rfl) | go_simp)
  try simp only [Act.put, zps]
  refine wpAnyH_ready (rs := [4, 6]) (by kernel_rfl) (by simp) ?_
  refine AllReadyH.cons (o := zorax7) rfl (fun K hK => ?_) (AllReadyH.cons (o := zorax8) rfl (fun K hK => ?_) (AllReadyH.nil))
  · go_simp
    refine hK.out _ _ ?_ (fun _hS => ?_)
    · exact trivial
    clear hK K
    try simp only [Act.put, zps]
    refine wpAnyH_ready (rs := [6]) (by kernel_rfl) (by simp) ?_
    refine AllReadyH.cons (o := zorax8) rfl (fun K hK => ?_) (AllReadyH.nil)
    go_simp
    go_at_call_of 73 (Value.slice ka kn kc)
    refine (HK.out _ (Below.refl _ _).drew).mono ?_
    rintro e wK ⟨vK, rfl, hmK⟩
    obtain ⟨aK, cK, rfl, -⟩ := hmK.1.shape
    have HBK := hide ((Below.refl w.heap.size w).drew.trans hmK.2.2)
    have cK0 := one_below c0 HBK.out
    have HMK := hide hmK
    clear hmK
    go_simp
    refine hK.out _ _ ?_ (fun _hS => ?_)
    · exact trivial
    clear hK K
    try simp only [Act.put, zps]
    refine wpAnyH_ready (rs := [8]) (by kernel_rfl) (by simp) ?_
    refine AllReadyH.cons (o := zorax9) rfl (fun K hK => ?_) (AllReadyH.nil)
    go_simp
    go_at_call_of 73 (Value.slice va vn vc)
    refine (HV.out _ HBK.out).mono ?_
    rintro e wV ⟨vV, rfl, hmV⟩
    obtain ⟨aV, cV, rfl, -⟩ := hmV.1.shape
    have HBV := hide (HBK.out.trans (hmV.2.2.mono HBK.out.size))
    have cV0 := one_below c0 HBV.out
    have cA0 : (wV.alloc (.cells #[.slice aK key.length cK, .slice aV val.length cV, .bool false] 85)).cell? ⟨p, 0, none⟩ = some v := one_below cV0 (below_alloc wV _)
    have HMV := hide hmV
    clear hmV
    go_simp
    refine hK.out _ _ ?_ (fun _hS => ?_)
    · exact trivial
    clear hK K
    try simp only [Act.put, zps]
    refine wtk (i := 9) (oi := zorax10) (v := ?v9x107) rfl ⟨by rfl, ?hy9x107⟩ (by assumption) ?_
    case hy9x107 => (intro w s; (try dsimp only at s); first | (go_simp; with_reducible rfl) | go_simp)
    try simp only [Act.put, zps]
    refine wpAnyH_ready (rs := [10]) (by kernel_rfl) (by simp) ?_
    refine AllReadyH.cons (o := zorax11) rfl (fun K hK => ?_) (AllReadyH.nil)
    go_simp
    refine hK.out _ _ ?_ (fun _hS => ?_)
    · exact trivial
    clear hK K
    try simp only [Act.put, zps]
    have HFin := hide (rput_end (a := aK) (b := aV) (c := cK) (d := cV) H.out hB HMK.out HMV.out HK8.out HV8.out HBK.out HBV.out)
    refine wpAnyH_ready (rs := [11]) (by kernel_rfl) (by simp) ?_
    refine AllReadyH.cons (o := zorax12) rfl (fun K hK => ?_) (AllReadyH.nil)
    refine step_of rfl ?_
    refine wp_append_at (.tmp 10) (.tmp 16) 30 85 rfl B i0 _ 3 56 Try.underlying30 hi hz0 hz1 hz2 (by rfl) (by omega) v ys.length (rowc ys) rfl HFin.out.1 ⟨wV.heap.size, 0, none⟩ 1 1 [.slice aK key.length cK, .slice aV val.length cV, .bool false] rfl rfl HFin.out.2.1 HFin.out.2.2.1 (by unfold maxLen; omega) (by omega) HFin.out.2.2.2.1 ?_
    intro v6 w6 hown6 hg6 hloc6
    obtain ⟨a6, c6, rfl, -⟩ := row_shape hown6
    have k3 := HFin.out.2.2.2.2.1 w6 hg6
    have s2 := cell_of_one k3
    have f2 := free_of_one k3
    have HF6 := hide (HFin.out.2.2.2.2.2 _ w6 hown6 hg6 hloc6)
    clear hown6 hg6 hloc6 k3
    go_simp
    refine hK.out _ _ ?_ (fun _hS => ?_)
    · exact trivial
    clear hK K
    try simp only [Act.put, zps]
    refine wtk (i := 12) (oi := zorax13) (v := ?v12x108) rfl ⟨by rfl, ?hy12x108⟩ (by assumption) ?_
    case hy12x108 => (intro w s; (try dsimp only at s); first | (go_simp; with_reducible rfl) | go_simp)
    try simp only [Act.put, zps]
    refine wtk (i := 13) (oi := zorax14) (v := ?v13x109) rfl ⟨by rfl, ?hy13x109⟩ (by assumption) ?_
    case hy13x109 => (intro w s; (try dsimp only at s); first | (go_simp; with_reducible rfl) | go_simp)
    try simp only [Act.put, zps]
    refine wpAnyH_ready (rs := [14]) (by kernel_rfl) (by simp) ?_
    refine AllReadyH.cons (o := zorax15) rfl (fun K hK => ?_) (AllReadyH.nil)
    go_simp
    refine hK.out _ _ ?_ (fun _hS => ?_)
    · exact trivial
    clear hK K
    try simp only [Act.put, zps]
    refine wpAnyH_done (by kernel_rfl) ?_ _
    refine NoPanic.normal ?_
    go_wp2
    go_end0
    exact HF6.out
  · go_simp
    go_at_call_of 73 (Value.slice ka kn kc)
    refine (HK.out _ (Below.refl _ _).drew).mono ?_
    rintro e wK ⟨vK, rfl, hmK⟩
    obtain ⟨aK, cK, rfl, -⟩ := hmK.1.shape
    have HBK := hide ((Below.refl w.heap.size w).drew.trans hmK.2.2)
    have cK0 := one_below c0 HBK.out
    have HMK := hide hmK
    clear hmK
    go_simp
    refine hK.out _ _ ?_ (fun _hS => ?_)
    · exact trivial
    clear hK K
    try simp only [Act.put, zps]
    refine wpAnyH_ready (rs := [4, 8]) (by kernel_rfl) (by simp) ?_
    refine AllReadyH.cons (o := zorax7) rfl (fun K hK => ?_) (AllReadyH.cons (o := zorax9) rfl (fun K hK => ?_) (AllReadyH.nil))
    · go_simp
      refine hK.out _ _ ?_ (fun _hS => ?_)
      · exact trivial
      clear hK K
      try simp only [Act.put, zps]
      refine wpAnyH_ready (rs := [8]) (by kernel_rfl) (by simp) ?_
      refine AllReadyH.cons (o := zorax9) rfl (fun K hK => ?_) (AllReadyH.nil)
      go_simp
      go_at_call_of 73 (Value.slice va vn vc)
      refine (HV.out _ HBK.out).mono ?_
      rintro e wV ⟨vV, rfl, hmV⟩
      obtain ⟨aV, cV, rfl, -⟩ := hmV.1.shape
      have HBV := hide (HBK.out.trans (hmV.2.2.mono HBK.out.size))
      have cV0 := one_below c0 HBV.out
      have cA0 : (wV.alloc (.cells #[.slice aK key.length cK, .slice aV val.length cV, .bool false] 85)).cell? ⟨p, 0, none⟩ = some v := one_below cV0 (below_alloc wV _)
      have HMV := hide hmV
      clear hmV
      go_simp
      refine hK.out _ _ ?_ (fun _hS => ?_)
      · exact trivial
      clear hK K
      try simp only [Act.put, zps]
      refine wtk (i := 9) (oi := zorax10) (v := ?v9x110) rfl ⟨by rfl, ?hy9x110⟩ (by assumption) ?_
      case hy9x110 => (intro w s; (try dsimp only at s); first | (go_simp; with_reducible rfl) | go_simp)
      try simp only [Act.put, zps]
      refine wpAnyH_ready (rs := [10]) (by kernel_rfl) (by simp) ?_
      refine AllReadyH.cons (o := zorax11) rfl (fun K hK => ?_) (AllReadyH.nil)
      go_simp
      refine hK.out _ _ ?_ (fun _hS => ?_)
      · exact trivial
      clear hK K
      try simp only [Act.put, zps]
      have HFin := hide (rput_end (a := aK) (b := aV) (c := cK) (d := cV) H.out hB HMK.out HMV.out HK8.out HV8.out HBK.out HBV.out)
      refine wpAnyH_ready (rs := [11]) (by kernel_rfl) (by simp) ?_
      refine AllReadyH.cons (o := zorax12) rfl (fun K hK => ?_) (AllReadyH.nil)
      refine step_of rfl ?_
      refine wp_append_at (.tmp 10) (.tmp 16) 30 85 rfl B i0 _ 3 56 Try.underlying30 hi hz0 hz1 hz2 (by rfl) (by omega) v ys.length (rowc ys) rfl HFin.out.1 ⟨wV.heap.size, 0, none⟩ 1 1 [.slice aK key.length cK, .slice aV val.length cV, .bool false] rfl rfl HFin.out.2.1 HFin.out.2.2.1 (by unfold maxLen; omega) (by omega) HFin.out.2.2.2.1 ?_
      intro v6 w6 hown6 hg6 hloc6
      obtain ⟨a6, c6, rfl, -⟩ := row_shape hown6
      have k3 := HFin.out.2.2.2.2.1 w6 hg6
      have s2 := cell_of_one k3
      have f2 := free_of_one k3
      have HF6 := hide (HFin.out.2.2.2.2.2 _ w6 hown6 hg6 hloc6)
      clear hown6 hg6 hloc6 k3
      go_simp
      refine hK.out _ _ ?_ (fun _hS => ?_)
      · exact trivial
      clear hK K
      try simp only [Act.put, zps]
      refine wtk (i := 12) (oi := zorax13) (v := ?v12x111) rfl ⟨by rfl, ?hy12x111⟩ (by assumption) ?_
      case hy12x111 => (intro w s; (try dsimp only at s); first | (go_simp; with_reducible rfl) | go_simp)
      try simp only [Act.put, zps]
      refine wtk (i := 13) (oi := zorax14) (v := ?v13x112) rfl ⟨by rfl, ?hy13x112⟩ (by assumption) ?_
      case hy13x112 => (intro w s; (try dsimp only at s); first | (go_simp; with_reducible rfl) | go_simp)
      try simp only [Act.put, zps]
      refine wpAnyH_ready (rs := [14]) (by kernel_rfl) (by simp) ?_
      refine AllReadyH.cons (o := zorax15) rfl (fun K hK => ?_) (AllReadyH.nil)
      go_simp
      refine hK.out _ _ ?_ (fun _hS => ?_)
      · exact trivial
      clear hK K
      try simp only [Act.put, zps]
      refine wpAnyH_done (by kernel_rfl) ?_ _
      refine NoPanic.normal ?_
      go_wp2
      go_end0
      exact HF6.out
    · go_simp
      go_at_call_of 73 (Value.slice va vn vc)
      refine (HV.out _ HBK.out).mono ?_
      rintro e wV ⟨vV, rfl, hmV⟩
      obtain ⟨aV, cV, rfl, -⟩ := hmV.1.shape
      have HBV := hide (HBK.out.trans (hmV.2.2.mono HBK.out.size))
      have cV0 := one_below c0 HBV.out
      have cA0 : (wV.alloc (.cells #[.slice aK key.length cK, .slice aV val.length cV, .bool false] 85)).cell? ⟨p, 0, none⟩ = some v := one_below cV0 (below_alloc wV _)
      have HMV := hide hmV
      clear hmV
      go_simp
      refine hK.out _ _ ?_ (fun _hS => ?_)
      · exact trivial
      clear hK K
      try simp only [Act.put, zps]
      refine wtk (i := 9) (oi := zorax10) (v := ?v9x113) rfl ⟨by rfl, ?hy9x113⟩ (by assumption) ?_
      case hy9x113 => (intro w s; (try dsimp only at s); first | (go_simp; with_reducible rfl) | go_simp)
      try simp only [Act.put, zps]
      refine wpAnyH_ready (rs := [4, 10]) (by kernel_rfl) (by simp) ?_
      refine AllReadyH.cons (o := zorax7) rfl (fun K hK => ?_) (AllReadyH.cons (o := zorax11) rfl (fun K hK => ?_) (AllReadyH.nil))
      · go_simp
        refine hK.out _ _ ?_ (fun _hS => ?_)
        · exact trivial
        clear hK K
        try simp only [Act.put, zps]
        refine wpAnyH_ready (rs := [10]) (by kernel_rfl) (by simp) ?_
        refine AllReadyH.cons (o := zorax11) rfl (fun K hK => ?_) (AllReadyH.nil)
        go_simp
        refine hK.out _ _ ?_ (fun _hS => ?_)
        · exact trivial
        clear hK K
        try simp only [Act.put, zps]
        have HFin := hide (rput_end (a := aK) (b := aV) (c := cK) (d := cV) H.out hB HMK.out HMV.out HK8.out HV8.out HBK.out HBV.out)
        refine wpAnyH_ready (rs := [11]) (by kernel_rfl) (by simp) ?_
        refine AllReadyH.cons (o := zorax12) rfl (fun K hK => ?_) (AllReadyH.nil)
        refine step_of rfl ?_
        refine wp_append_at (.tmp 10) (.tmp 16) 30 85 rfl B i0 _ 3 56 Try.underlying30 hi hz0 hz1 hz2 (by rfl) (by omega) v ys.length (rowc ys) rfl HFin.out.1 ⟨wV.heap.size, 0, none⟩ 1 1 [.slice aK key.length cK, .slice aV val.length cV, .bool false] rfl rfl HFin.out.2.1 HFin.out.2.2.1 (by unfold maxLen; omega) (by omega) HFin.out.2.2.2.1 ?_
        intro v6 w6 hown6 hg6 hloc6
        obtain ⟨a6, c6, rfl, -⟩ := row_shape hown6
        have k3 := HFin.out.2.2.2.2.1 w6 hg6
        have s2 := cell_of_one k3
        have f2 := free_of_one k3
        have HF6 := hide (HFin.out.2.2.2.2.2 _ w6 hown6 hg6 hloc6)
        clear hown6 hg6 hloc6 k3
        go_simp
        refine hK.out _ _ ?_ (fun _hS => ?_)
        · exact trivial
        clear hK K
        try simp only [Act.put, zps]
        refine wtk (i := 12) (oi := zorax13) (v := ?v12x114) rfl ⟨by rfl, ?hy12x114⟩ (by assumption) ?_
        case hy12x114 => (intro w s; (try dsimp only at s); first | (go_simp; with_reducible rfl) | go_simp)
        try simp only [Act.put, zps]
        refine wtk (i := 13) (oi := zorax14) (v := ?v13x115) rfl ⟨by rfl, ?hy13x115⟩ (by assumption) ?_
        case hy13x115 => (intro w s; (try dsimp only at s); first | (go_simp; with_reducible rfl) | go_simp)
        try simp only [Act.put, zps]
        refine wpAnyH_ready (rs := [14]) (by kernel_rfl) (by simp) ?_
        refine AllReadyH.cons (o := zorax15) rfl (fun K hK => ?_) (AllReadyH.nil)
        go_simp
        refine hK.out _ _ ?_ (fun _hS => ?_)
        · exact trivial
        clear hK K
        try simp only [Act.put, zps]
        refine wpAnyH_done (by kernel_rfl) ?_ _
        refine NoPanic.normal ?_
        go_wp2
        go_end0
        exact HF6.out
      · go_simp
        refine hK.out _ _ ?_ (fun _hS => ?_)
        · exact trivial
        clear hK K
        try simp only [Act.put, zps]
        refine wpAnyH_ready (rs := [4]) (by kernel_rfl) (by simp) ?_
        refine AllReadyH.cons (o := zorax7) rfl (fun K hK => ?_) (AllReadyH.nil)
        go_simp
        refine hK.out _ _ ?_ (fun _hS => ?_)
        · exact trivial
        clear hK K
        try simp only [Act.put, zps]
        have HFin := hide (rput_end (a := aK) (b := aV) (c := cK) (d := cV) H.out hB HMK.out HMV.out HK8.out HV8.out HBK.out HBV.out)
        refine wpAnyH_ready (rs := [11]) (by kernel_rfl) (by simp) ?_
        refine AllReadyH.cons (o := zorax12) rfl (fun K hK => ?_) (AllReadyH.nil)
        refine step_of rfl ?_
        refine wp_append_at (.tmp 10) (.tmp 16) 30 85 rfl B i0 _ 3 56 Try.underlying30 hi hz0 hz1 hz2 (by rfl) (by omega) v ys.length (rowc ys) rfl HFin.out.1 ⟨wV.heap.size, 0, none⟩ 1 1 [.slice aK key.length cK, .slice aV val.length cV, .bool false] rfl rfl HFin.out.2.1 HFin.out.2.2.1 (by unfold maxLen; omega) (by omega) HFin.out.2.2.2.1 ?_
        intro v6 w6 hown6 hg6 hloc6
        obtain ⟨a6, c6, rfl, -⟩ := row_shape hown6
        have k3 := HFin.out.2.2.2.2.1 w6 hg6
        have s2 := cell_of_one k3
        have f2 := free_of_one k3
        have HF6 := hide (HFin.out.2.2.2.2.2 _ w6 hown6 hg6 hloc6)
        clear hown6 hg6 hloc6 k3
        go_simp
        refine hK.out _ _ ?_ (fun _hS => ?_)
        · exact trivial
        clear hK K
        try simp only [Act.put, zps]
        refine wtk (i := 12) (oi := zorax13) (v := ?v12x116) rfl ⟨by rfl, ?hy12x116⟩ (by assumption) ?_
        case hy12x116 => (intro w s; (try dsimp only at s); first | (go_simp; with_reducible rfl) | go_simp)
        try simp only [Act.put, zps]
        refine wtk (i := 13) (oi := zorax14) (v := ?v13x117) rfl ⟨by rfl, ?hy13x117⟩ (by assumption) ?_
        case hy13x117 => (intro w s; (try dsimp only at s); first | (go_simp; with_reducible rfl) | go_simp)
        try simp only [Act.put, zps]
        refine wpAnyH_ready (rs := [14]) (by kernel_rfl) (by simp) ?_
        refine AllReadyH.cons (o := zorax15) rfl (fun K hK => ?_) (AllReadyH.nil)
        go_simp
        refine hK.out _ _ ?_ (fun _hS => ?_)
        · exact trivial
        clear hK K
        try simp only [Act.put, zps]
        refine wpAnyH_done (by kernel_rfl) ?_ _
        refine NoPanic.normal ?_
        go_wp2
        go_end0
        exact HF6.out
end Go.Proofs.Ytgohhlngnnmknaa
