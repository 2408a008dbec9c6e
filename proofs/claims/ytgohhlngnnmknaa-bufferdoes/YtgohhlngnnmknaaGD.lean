/- Memory for a book of lists: rows of numbers of any kind, what turns is some blocks alone; appends to a row of any type of one cell, with what room it has. -/
import Derived.Test.YtgohhlngnnmknaaE
import Derived.Deep.AppendSrc
namespace Go.Proofs.Ytgohhlngnnmknaa.Bo
open Go.RowKit
set_option linter.unusedVariables false

theorem grown_setCell (w : World) (p j : Nat) (v : Value) : w.grownBy (w.setCell ⟨p, j, none⟩ v) (some p) :=
  ⟨rfl, rfl, rfl, by simp [World.setCell], fun k _ hne => Below.heap_setCell _ _ _ _ (fun e => hne (by rw [e]))⟩
theorem grown_refl (w : World) (r : Option Nat) : w.grownBy w r := ⟨rfl, rfl, rfl, Nat.le_refl _, fun _ _ _ => rfl⟩
theorem grown_trans {a b c : World} {r : Option Nat} (h : a.grownBy b r) (k : b.grownBy c r) : a.grownBy c r :=
  ⟨k.os.trans h.os, k.tape.trans h.tape, k.output.trans h.output, Nat.le_trans h.size k.size, fun i hi hn => (k.block i (Nat.lt_of_lt_of_le hi h.size) hn).trans (h.block i hi hn)⟩
/-- a row of numbers of any kind, of the call's own. -/
def OwnK (K : IntKind) (et : TypeId) (w : World) (v : Value) (zs : List Int) : Prop := w.ownsRow 0 et 1 v zs.length (zs.map (Value.int K))
section
variable {K : IntKind} {et : TypeId}
theorem OwnK.nil (w : World) : OwnK K et w (.slice none 0 0) [] := World.ownsRow_nil w 0 et 1
theorem OwnK.shape2 {w : World} {v : Value} {zs : List Int} (h : OwnK K et w v zs) : ∃ a n c, v = .slice a n c ∧ Hid (n = zs.length) := by
  rcases h.2 with ⟨rfl, h0⟩ | ⟨g, cap, cur, rfl, _⟩
  · exact ⟨none, 0, 0, rfl, h0.symm⟩
  · exact ⟨_, zs.length, cap, rfl, rfl⟩
theorem OwnK.lt {w : World} {v : Value} {zs : List Int} (h : OwnK K et w v zs) {k : Nat} (hk : v.ownBlock = some k) : k < w.heap.size := (World.ownsRow.lt h k hk).2
theorem OwnK.of_block {w w' : World} {v : Value} {zs : List Int} (h : OwnK K et w v zs) (hb : ∀ k, v.ownBlock = some k → w'.heap[k]? = w.heap[k]?) : OwnK K et w' v zs := by
  obtain ⟨h1, h2⟩ := h
  refine ⟨h1, ?_⟩
  rcases h2 with h2 | ⟨g, cap, cur, rfl, hg, hh, r⟩
  · exact .inl h2
  · exact .inr ⟨g, cap, cur, rfl, hg, by rw [hb g rfl]; exact hh, r⟩
theorem OwnK.alloc {w : World} {v : Value} {zs : List Int} (h : OwnK K et w v zs) (o : Obj) : OwnK K et (w.alloc o) v zs := h.of_block fun k hk => Below.heap_alloc w o k (h.lt hk)
theorem OwnK.below {w w' : World} {v : Value} {zs : List Int} (h : OwnK K et w v zs) (hb : Below w.heap.size w w') : OwnK K et w' v zs := h.of_block fun k hk => hb.block k (h.lt hk)
/-- the blocks of a slice's value. -/
def blks (v : Value) (k : Nat) : Prop := v.ownBlock = some k
theorem OwnK.blk_lt {w : World} {v : Value} {zs : List Int} (h : OwnK K et w v zs) (k : Nat) (hk : blks v k) : k < w.heap.size := h.lt hk

/-- a row of bytes without room behind it, one of which is written. -/
theorem OwnK.at_ {w : World} {b off n c : Nat} {zs : List Int} (h : OwnK K et w (.slice (some ⟨b, off, none⟩) n c) zs) : off = 0 ∧ n = zs.length ∧ b < w.heap.size ∧ (∀ i, i < zs.length → w.cell? ⟨b, i, none⟩ = some (.int K (zs.getD i 0))) ∧ ∀ i, w.frozen? ⟨b, i, none⟩ = false := by
  rcases h.2 with ⟨e, _⟩ | ⟨g, cap, cur, e, hb, hg, hn, hm, hs, ht⟩
  · cases e
  · simp at e
    obtain ⟨⟨rfl, rfl⟩, rfl, rfl⟩ := e
    refine ⟨rfl, rfl, lt_of_block hg, fun i hi => ?_, fun i => by simp [World.frozen?, hg]⟩
    have := h.cells (g := b) rfl i (.int K (zs.getD i 0)) (by simp [hi])
    rw [Addr.add_lit] at this
    simpa using this
theorem OwnK.set {w : World} {b n c : Nat} {zs : List Int} (h : OwnK K et w (.slice (some ⟨b, 0, none⟩) n c) zs) (i : Nat) (hi : i < zs.length) (x : Int) : OwnK K et (w.setCell ⟨b, i, none⟩ (.int K x)) (.slice (some ⟨b, 0, none⟩) n c) (zs.set i x) := by
  rcases h.2 with ⟨e, _⟩ | ⟨g, cap, cur, e, hb, hg, hn, hm, hs, ht⟩
  · cases e
  · simp at e
    obtain ⟨rfl, rfl, rfl⟩ := e
    refine ⟨by simp, .inr ⟨b, c, cur.setIfInBounds i (.int K x), by simp, hb, ?_, by simpa using hn, hm, by simpa using hs, ?_⟩⟩
    · rw [heap_setCell_same w b i _ et _ hg]
    · simp only [Nat.mul_one] at ht ⊢
      rw [List.length_set, Array.toList_setIfInBounds, List.take_set, ht, List.map_set]
/-- from w to w' only blocks of f have turned. -/
structure Kp (f : Nat → Prop) (w w' : World) : Prop where
  os : w'.os = w.os
  tape : w'.tape = w.tape
  output : w'.output = w.output
  size : w.heap.size ≤ w'.heap.size
  block : ∀ k, k < w.heap.size → ¬ f k → w'.heap[k]? = w.heap[k]?
theorem Kp.refl (f : Nat → Prop) (w : World) : Kp f w w := ⟨rfl, rfl, rfl, Nat.le_refl _, fun _ _ _ => rfl⟩
theorem Kp.trans {f : Nat → Prop} {a b c : World} (h : Kp f a b) (k : Kp f b c) : Kp f a c :=
  ⟨k.os.trans h.os, k.tape.trans h.tape, k.output.trans h.output, Nat.le_trans h.size k.size, fun i hi hn => (k.block i (Nat.lt_of_lt_of_le hi h.size) hn).trans (h.block i hi hn)⟩
theorem Kp.of_below {f : Nat → Prop} {w w' : World} (h : Below w.heap.size w w') : Kp f w w' := ⟨h.os, h.tape, h.output, h.size, fun k hk _ => h.block k hk⟩
theorem Kp.grown {f : Nat → Prop} {w w' : World} {r : Option Nat} (h : w.grownBy w' r) (hf : ∀ k, r = some k → f k) : Kp f w w' :=
  ⟨h.os, h.tape, h.output, h.size, fun k hk hn => h.block k hk (fun e => hn (hf k e.symm))⟩
theorem Kp.below {f : Nat → Prop} {w w' : World} {B : Nat} (h : Kp f w w') (hl : ∀ k, f k → B ≤ k) (hB : B ≤ w.heap.size) : Below B w w' :=
  ⟨h.os, h.tape, h.output, h.size, fun k hk => h.block k (by omega) (fun hf => by have := hl k hf; omega)⟩
theorem Kp.wider {f g : Nat → Prop} {w w' : World} (h : Kp f w w') (hf : ∀ k, f k → k < w.heap.size → g k) : Kp g w w' := ⟨h.os, h.tape, h.output, h.size, fun k hk hn => h.block k hk (fun h2 => hn (hf k h2 hk))⟩

end
/-- an append to a row of the call's own, of a type of one cell. -/
theorem run_append_one {P : Program} (w : World) (t tx ty e : TypeId) (i : TypeInfo) (z : Value) (ht : P.underlying t = some (.slice e)) (hi : P.info? e = some i) (hz : i.zero = some z) (h1 : i.size = 1) (hzc : z.cells.size = 1)
    (v : Value) (xs : List Value) (hown : w.ownsRow 0 e 1 v xs.length xs) (x : Value) (n : Nat) (news : List Value) (hs : Src P 1 tx x n news w) (hb : (xs.length + n) * i.bytes ≤ 140737488355328) (hm : xs.length + n ≤ 140737488355328) :
    ∃ v' w', (Builtin.append_ #[t, tx] ty #[v, x]).run P w = .ok v' w' ∧ w'.ownsRow 0 e 1 v' (xs ++ news).length (xs ++ news) ∧ w.grownBy w' v.ownBlock ∧ (∀ k, v'.ownBlock = some k → v.ownBlock = some k ∨ w.heap.size ≤ k) ∧
      (0 < n → (Below w.heap.size w w' ∧ ∀ k, v'.ownBlock = some k → w.heap.size ≤ k) ∨ ∃ a m c, v = .slice a m c ∧ v' = .slice a (m + n) c) := by
  have hnl : news.length = n := by simpa using hs.newsLen
  have hlen : (xs ++ news).length = xs.length + n := by simp [hnl]
  have hs' : Src P i.size tx x n news w := by rw [h1]; exact hs
  have hgrow : ∀ (old : Nat) (row : Option Nat), old < xs.length + n →
      (w.drew.alloc (.cells ((xs ++ news).toArray ++ Builtin.zeroCells z.cells (grownCap w (xs.length + n) old e - (xs.length + n))) e)).ownsRow 0 e 1 (.slice (some ⟨w.heap.size, 0, none⟩) (xs.length + n) (grownCap w (xs.length + n) old e)) (xs ++ news).length (xs ++ news) ∧
      w.grownBy (w.drew.alloc (.cells ((xs ++ news).toArray ++ Builtin.zeroCells z.cells (grownCap w (xs.length + n) old e - (xs.length + n))) e)) row := by
    intro old row ho
    have hge := grownCap_ge w (xs.length + n) old e
    have hcm : grownCap w (xs.length + n) old e ≤ maxLen := grownCap_le_maxLen w _ old e (by unfold maxLen; omega)
    refine ⟨⟨by simp, .inr ⟨w.heap.size, _, _, by rw [hlen], Nat.zero_le _, heap_alloc_new w.drew _, by rw [hlen]; exact hge, hcm, ?_, ?_⟩⟩, ⟨rfl, rfl, rfl, by simp, fun k hk _ => Below.heap_alloc w.drew _ k hk⟩⟩
    · simp only [Array.size_append, List.size_toArray, size_zeroCells, List.length_append, hnl, hzc]
      omega
    · rw [Array.toList_append, Nat.mul_one]
      exact List.take_left
  rcases hown.2 with ⟨rfl, h0⟩ | ⟨g, cap, cur, rfl, hbg, hg, hnc, hcm, hcs, htake⟩
  · have hx : xs = [] := List.eq_nil_of_length_eq_zero h0
    subst hx
    by_cases hm0 : n = 0
    · subst hm0
      have hn : news = [] := List.eq_nil_of_length_eq_zero hnl
      subst hn
      refine ⟨.slice none 0 0, w, ?_, World.ownsRow_nil w 0 e 1, ⟨rfl, rfl, rfl, Nat.le_refl _, fun _ _ _ => rfl⟩, fun k hk => .inl hk, fun h => by omega⟩
      have hsl := hs'.len
      have hsc := hs'.cells
      rcases hs.kind with ⟨e', hk⟩ | hk <;> simp [Builtin.append_, run_underlying ht, run_underlying hk, sizeOf, typeInfo, hi, hsl, hsc]
    · have hr := run_append_grow_src (P := P) w t tx ty e i z ht hi hz none 0 0 [] (by simp [Builtin.firstCells]) x n _ hs' (by omega) (by omega) (growslice_fits (by omega) (by simpa using hb))
      have hgr := hgrow 0 (Value.ownBlock (.slice none 0 0)) (by simp; omega)
      simp only [List.length_nil, Nat.zero_add, List.nil_append] at hgr hr ⊢
      exact ⟨_, _, hr, hgr.1, hgr.2, fun k hk => .inr (by simp [Value.ownBlock] at hk; omega), fun _ => .inl ⟨⟨rfl, rfl, rfl, by simp, fun k hk => Below.heap_alloc w.drew _ k hk⟩, fun k hk => by simp [Value.ownBlock] at hk; omega⟩⟩
  · by_cases hroom : xs.length + n ≤ cap
    · have hfit : xs.length * 1 + news.length ≤ cur.size := by rw [hnl, hcs]; omega
      have hst := run_storeCells_at P g (xs.length * 1) e news 0 cur w hg (by simpa using hfit) hs.one
      simp only [Nat.add_zero] at hst
      have hsl := hs.len
      have hsc := hs.cells
      refine ⟨.slice (some ⟨g, 0, none⟩) (xs.length + n) cap, w.setRow g (cur.toList.take (xs.length * 1) ++ news ++ cur.toList.drop (xs.length * 1 + news.length)).toArray, ?_, ⟨by simp, .inr ⟨g, cap, _, by rw [hlen], hbg, setRow_heap w g cur _ e _ hg, by rw [hlen]; exact hroom, hcm, ?_, ?_⟩⟩, ⟨rfl, rfl, rfl, by simp, fun k _ hk => setRow_other w g k _ (fun e => hk (by simp [Value.ownBlock, e]))⟩, fun k hk => .inl (by simpa [Value.ownBlock] using hk), fun _ => .inr ⟨_, _, _, rfl, rfl⟩⟩
      · rcases hs.kind with ⟨e', hk⟩ | hk <;> simp [Builtin.append_, run_underlying ht, run_underlying hk, sizeOf, typeInfo, hi, h1, hsl, hroom, hsc, Addr.add_lit] <;> simp at hst <;> simp [hst]
      · simp only [List.size_toArray, List.length_append, List.length_take, List.length_drop, Array.length_toList] at hfit ⊢
        omega
      · rw [htake, Nat.mul_one]
        exact List.take_left
    · have holds : ∀ j u, xs[j]? = some u → w.drew.cell? ((⟨g, 0, none⟩ : Addr).add j) = some u := hown.cells (g := g) rfl
      have hr := run_append_grow_src (P := P) w t tx ty e i z ht hi hz (some ⟨g, 0, none⟩) xs.length cap xs (run_firstCells_some w.drew i.size xs.length ⟨g, 0, none⟩ xs.length cap _ (by rw [h1]; simp) holds) x n _ hs' (by omega) (by omega) (growslice_fits (by omega) hb)
      have hgr := hgrow cap (Value.ownBlock (.slice (some ⟨g, 0, none⟩) xs.length cap)) (by omega)
      have e2 : (xs ++ news).toArray = xs.toArray ++ news.toArray := by simp
      exact ⟨_, _, hr, hgr.1, hgr.2, fun k hk => .inr (by simp [Value.ownBlock] at hk; omega), fun _ => .inl ⟨⟨rfl, rfl, rfl, by simp, fun k hk => Below.heap_alloc w.drew _ k hk⟩, fun k hk => by simp [Value.ownBlock] at hk; omega⟩⟩

theorem wpList_append_one {P : Program} {w : World} {ops : Array Oper} {rest : List Oper} {o : Oper} {a : Act} {Q : Exit → Act → World → Prop} (hgd : o.guard = none) (s x : Operand) (t tx e : TypeId) (ho : o.op = .call { callee := .builtin .append, args := #[s, x], argTypes := #[t, tx] })
    (i : TypeInfo) (z : Value) (ht : P.underlying t = some (.slice e)) (hi : P.info? e = some i) (hz : i.zero = some z) (h1 : i.size = 1) (hzc : z.cells.size = 1)
    (v : Value) (xs : List Value) (hs : a.eval s = v) (hown : w.ownsRow 0 e 1 v xs.length xs) (xv : Value) (n : Nat) (news : List Value) (hx : a.eval x = xv) (hsrc : Src P 1 tx xv n news w) (hb : (xs.length + n) * i.bytes ≤ 140737488355328) (hm : xs.length + n ≤ 140737488355328)
    (h : ∀ v' w', w'.ownsRow 0 e 1 v' (xs ++ news).length (xs ++ news) → w.grownBy w' v.ownBlock → (∀ k, v'.ownBlock = some k → v.ownBlock = some k ∨ w.heap.size ≤ k) → (0 < n → (Below w.heap.size w w' ∧ ∀ k, v'.ownBlock = some k → w.heap.size ≤ k) ∨ ∃ a m c, v = .slice a m c ∧ v' = .slice a (m + n) c) → wpList P ops Q rest (a.put o.dst v') w') : wpList P ops Q (o :: rest) a w :=
  wpList_plain hgd fun _ hK => by
    obtain ⟨v', w', hr, h2, h3, h4, h5⟩ := run_append_one (P := P) w t tx o.type e i z ht hi hz h1 hzc v xs hown xv n news hsrc hb hm
    unfold Oper.wp execOp
    simp only [ho, resolve, invoke, builtin, Sem.run_bind, Sem.run_pure, Result.andThen_ok, List.map_toArray, List.map_cons, List.map_nil, hs, hx, hr]
    exact hK _ _ (h v' w' h2 h3 h4 h5)
section
variable {K : IntKind} {et : TypeId}
/-- a row within a longer one of the same block and the same room. -/
theorem OwnK.front {w w' : World} {r v : Value} {b n m cr cv : Nat} {ms zs ts : List Int} (hr : OwnK K et w r ms) (er : r = .slice (some ⟨b, 0, none⟩) n cr) (hv : OwnK K et w' v zs) (ev : v = .slice (some ⟨b, 0, none⟩) m cv) (hc : cr = cv) (e : zs = ms ++ ts) : OwnK K et w' r ms := by
  subst er ev hc e
  rcases hr.2 with ⟨h, _⟩ | ⟨g, cap, cur, h, hb, hg, hn, hm, hs, ht⟩
  · cases h
  · simp only [Value.slice.injEq, Option.some.injEq, Addr.mk.injEq, and_true] at h
    obtain ⟨rfl, rfl, rfl⟩ := h
    rcases hv.2 with ⟨h, _⟩ | ⟨g', cap', cur', h, hb', hg', hn', hm', hs', ht'⟩
    · cases h
    · simp only [Value.slice.injEq, Option.some.injEq, Addr.mk.injEq, and_true] at h
      obtain ⟨rfl, rfl, rfl⟩ := h
      refine ⟨by simp, .inr ⟨b, cr, cur', rfl, hb', hg', hn, hm, hs', ?_⟩⟩
      rw [Nat.mul_one] at ht' ⊢
      have : cur'.toList.take ms.length = (cur'.toList.take (ms ++ ts).length).take ms.length := by rw [List.take_take, Nat.min_eq_left (by simp)]
      rw [this, ht', List.map_append, List.take_left' (by simp)]
/-- two rows of one block have the same room. -/
theorem OwnK.room {w : World} {r v : Value} {b n m cr cv : Nat} {ms zs : List Int} (hr : OwnK K et w r ms) (er : r = .slice (some ⟨b, 0, none⟩) n cr) (hv : OwnK K et w v zs) (ev : v = .slice (some ⟨b, 0, none⟩) m cv) : cr = cv := by
  subst er ev
  rcases hr.2 with ⟨h, _⟩ | ⟨g, cap, cur, h, hb, hg, hn, hm, hs, ht⟩
  · cases h
  · simp only [Value.slice.injEq, Option.some.injEq, Addr.mk.injEq, and_true] at h
    obtain ⟨rfl, rfl, rfl⟩ := h
    rcases hv.2 with ⟨h, _⟩ | ⟨g', cap', cur', h, hb', hg', hn', hm', hs', ht'⟩
    · cases h
    · simp only [Value.slice.injEq, Option.some.injEq, Addr.mk.injEq, and_true] at h
      obtain ⟨rfl, rfl, rfl⟩ := h
      rw [hg] at hg'
      cases hg'
      omega
theorem OwnK.some_at {w : World} {v : Value} {zs : List Int} {k : Nat} (h : OwnK K et w v zs) (hk : blks v k) : ∃ c, v = .slice (some ⟨k, 0, none⟩) zs.length c := by
  rcases h.2 with ⟨rfl, _⟩ | ⟨g, cap, cur, rfl, _⟩
  · cases hk
  · cases hk; exact ⟨cap, rfl⟩
end
/-- the one-element slice that is laid for what is appended. -/
theorem src_laid {P : Program} {t et : TypeId} (w : World) (x : Value) (hu : P.underlying t = some (.slice et)) (hx : x.oneCell' = true) : Src P 1 t (.slice (some ⟨w.heap.size, 0, none⟩) 1 1) 1 [x] (w.alloc (.cells #[x] et)) :=
  Src.ofSlice _ hu ⟨w.heap.size, 0, none⟩ 1 1 [x] rfl (by intro j u hj; match j, hj with | 0, hj => simp at hj; subst hj; simp [Addr.add]) (by intro u hu; simp at hu; subst hu; exact hx)
/-- blocks of other types are other blocks. -/
theorem rows_ne {w : World} {t t' : TypeId} {v u : Value} {n m : Nat} {xs ys : List Value} (h : w.ownsRow 0 t 1 v n xs) (h' : w.ownsRow 0 t' 1 u m ys) (hne : t ≠ t') (k : Nat) (h1 : blks v k) : ¬ blks u k := by
  intro h2
  rcases h.2 with ⟨rfl, _⟩ | ⟨g, cap, cur, rfl, _, hg, _⟩
  · cases h1
  · rcases h'.2 with ⟨rfl, _⟩ | ⟨g', cap', cur', rfl, _, hg', _⟩
    · cases h2
    · cases h1; cases h2
      rw [hg] at hg'
      simp at hg'
      exact hne hg'.2
end Go.Proofs.Ytgohhlngnnmknaa.Bo
/- A book of lists of numbers of any kind, with what room they have. -/
namespace Go.Proofs.Ytgohhlngnnmknaa.Bo
open Go.RowKit
set_option linter.unusedVariables false

section
variable {K : IntKind} {et lty : TypeId}
/-- a list of bytes with its room, as a value. -/
def rv (a : Option Addr) (c : Nat) (zs : List Int) : Value := .slice a zs.length c
/-- n lists of bytes, that no two share memory of, in a row of the call's own. -/
structure Fam (K : IntKind) (et lty : TypeId) (w : World) (v : Value) (n : Nat) (A : Nat → Option Addr) (C : Nat → Nat) (Z : Nat → List Int) : Prop where
  ne : lty ≠ et
  list : w.ownsRow 0 lty 1 v n ((List.range n).map fun i => rv (A i) (C i) (Z i))
  rows : ∀ i, i < n → OwnK K et w (rv (A i) (C i) (Z i)) (Z i)
  apart : ∀ i j, i < n → j < n → i ≠ j → ∀ k, blks (rv (A i) (C i) (Z i)) k → ¬ blks (rv (A j) (C j) (Z j)) k
/-- the blocks of the lists. -/
def rft (n : Nat) (A : Nat → Option Addr) (k : Nat) : Prop := ∃ i, i < n ∧ ∃ ad, A i = some ad ∧ ad.block = k
theorem blks_rv (a : Option Addr) (c : Nat) (zs : List Int) (k : Nat) : blks (rv a c zs) k ↔ ∃ ad, a = some ad ∧ ad.block = k := by
  unfold blks rv
  cases a <;> simp [Value.ownBlock]
theorem list_shape {w : World} {v : Value} {n : Nat} {xs : List Value} (h : w.ownsRow 0 lty 1 v n xs) : ∃ a m c, v = .slice a m c ∧ Hid (m = n) := by
  rcases h.2 with ⟨rfl, h0⟩ | ⟨g, cap, cur, rfl, _⟩
  · exact ⟨none, 0, 0, rfl, h0.symm⟩
  · exact ⟨_, n, cap, rfl, rfl⟩
theorem list_lt {w : World} {v : Value} {n : Nat} {xs : List Value} (h : w.ownsRow 0 lty 1 v n xs) (k : Nat) (hk : blks v k) : k < w.heap.size := (h.lt k hk).2
theorem list_of_block {w w' : World} {v : Value} {n : Nat} {xs : List Value} (h : w.ownsRow 0 lty 1 v n xs) (hb : ∀ k, blks v k → w'.heap[k]? = w.heap[k]?) : w'.ownsRow 0 lty 1 v n xs := by
  obtain ⟨h1, h2⟩ := h
  refine ⟨h1, ?_⟩
  rcases h2 with h2 | ⟨g, cap, cur, rfl, hg, hh, r⟩
  · exact .inl h2
  · exact .inr ⟨g, cap, cur, rfl, hg, by rw [hb g rfl]; exact hh, r⟩
theorem Fam.of_block {w w' : World} {v : Value} {n : Nat} {A : Nat → Option Addr} {C : Nat → Nat} {Z : Nat → List Int} (h : Fam K et lty w v n A C Z) (hb : ∀ k, blks v k ∨ rft n A k → w'.heap[k]? = w.heap[k]?) : Fam K et lty w' v n A C Z :=
  ⟨h.ne, list_of_block h.list fun k hk => hb k (.inl hk), fun i hi => (h.rows i hi).of_block fun k hk => hb k (.inr ⟨i, hi, (blks_rv _ _ _ k).1 hk⟩), h.apart⟩
theorem Fam.lt {w : World} {v : Value} {n : Nat} {A : Nat → Option Addr} {C : Nat → Nat} {Z : Nat → List Int} (h : Fam K et lty w v n A C Z) (k : Nat) (hk : blks v k ∨ rft n A k) : k < w.heap.size := by
  rcases hk with hk | ⟨i, hi, hk⟩
  · exact list_lt h.list k hk
  · exact (h.rows i hi).lt ((blks_rv _ _ (Z i) k).2 hk)
theorem list_ne_row {w : World} {v : Value} {n : Nat} {xs : List Value} {u : Value} {zs : List Int} (hne : lty ≠ et) (h : w.ownsRow 0 lty 1 v n xs) (ho : OwnK K et w u zs) (k : Nat) (h1 : blks v k) : ¬ blks u k := rows_ne h ho hne k h1
def putf {α : Type} (f : Nat → α) (n : Nat) (x : α) : Nat → α := fun i => if i = n then x else f i
theorem putf_same {α : Type} (f : Nat → α) (n : Nat) (x : α) : putf f n x n = x := by simp [putf]
theorem putf_other {α : Type} (f : Nat → α) (n i : Nat) (x : α) (h : i ≠ n) : putf f n x i = f i := by simp [putf, h]
theorem fam_list (n : Nat) (A : Nat → Option Addr) (C : Nat → Nat) (Z : Nat → List Int) (a : Option Addr) (c : Nat) (zs : List Int) : (List.range (n + 1)).map (fun i => rv (putf A n a i) (putf C n c i) (putf Z n zs i)) = (List.range n).map (fun i => rv (A i) (C i) (Z i)) ++ [rv a c zs] := by
  rw [List.range_succ, List.map_append]
  congr 1
  · apply List.map_congr_left
    intro i hi
    have : i ≠ n := by have := List.mem_range.1 hi; omega
    rw [putf_other _ _ _ _ this, putf_other _ _ _ _ this, putf_other _ _ _ _ this]
  · simp [putf_same]
theorem rft_putf (n : Nat) (A : Nat → Option Addr) (a : Option Addr) (k : Nat) (h : rft (n + 1) (putf A n a) k) : rft n A k ∨ ∃ ad, a = some ad ∧ ad.block = k := by
  obtain ⟨i, hi, hk⟩ := h
  by_cases e : i = n
  · subst e
    rw [putf_same] at hk
    exact .inr hk
  · rw [putf_other _ _ _ _ e] at hk
    exact .inl ⟨i, by omega, hk⟩

/-- the book's block: its lists. -/
def Bk (w : World) (q : Nat) (f : Nat → Value) : Prop := w.heap[q]? = some (.cells ((List.range 23).map f).toArray 58 (0, 0))
theorem Bk.lt {w : World} {q : Nat} {f : Nat → Value} (h : Bk w q f) : q < w.heap.size := lt_of_block h
theorem book_ne {w : World} {q : Nat} {f : Nat → Value} {u : Value} {n : Nat} {t : TypeId} {xs : List Value} (hb : Bk w q f) (h : w.ownsRow 0 t 1 u n xs) (hne : t ≠ 58) : ¬ blks u q := by
  intro h1
  rcases h.2 with ⟨rfl, _⟩ | ⟨g, cap, cur, rfl, _, hg, _⟩
  · cases h1
  · cases h1
    unfold Bk at hb
    rw [hg] at hb
    simp at hb
    exact hne hb.2
theorem Bk.c {w : World} {q : Nat} {f : Nat → Value} (h : Bk w q f) (j : Nat) (hj : j < 23) : w.cell? ⟨q, j, none⟩ = some (f j) := by unfold Bk at h; simp [World.cell?, h, hj]
theorem Bk.f {w : World} {q : Nat} {f : Nat → Value} (h : Bk w q f) (j : Nat) : w.frozen? ⟨q, j, none⟩ = false := by unfold Bk at h; simp [World.frozen?, h]
theorem putf_map (f : Nat → Value) (n j : Nat) (u : Value) : ((List.range n).map f).set j u = (List.range n).map (putf f j u) := by
  apply List.ext_getElem? 
  intro i
  rw [List.getElem?_set]
  by_cases hi : i < n
  · by_cases e : j = i
    · subst e; simp [hi, putf]
    · have e2 : ¬ i = j := fun h => e h.symm
      simp [hi, e, e2, putf]
  · by_cases e : j = i
    · subst e; simp [hi]
    · simp [hi, e]
theorem Bk.set {w : World} {q : Nat} {f : Nat → Value} {u : Value} (j : Nat) (h : Bk w q f) : Bk (w.setCell ⟨q, j, none⟩ u) q (putf f j u) := by
  unfold Bk at h ⊢
  rw [heap_setCell_same w q j _ 58 _ h, List.setIfInBounds_toArray, putf_map]
theorem Bk.of_block {w w' : World} {q : Nat} {f : Nat → Value} (h : Bk w q f) (hb : w'.heap[q]? = w.heap[q]?) : Bk w' q f := hb.trans h
theorem Bk.below {w w' : World} {q : Nat} {f : Nat → Value} (h : Bk w q f) (hb : Below w.heap.size w w') : Bk w' q f := (hb.block q h.lt).trans h
def nilf : Nat → Value := fun _ => .slice none 0 0
/-- a book that is laid. -/
theorem book_new (w : World) : Bk (w.alloc (.cells #[.slice none 0 0, .slice none 0 0, .slice none 0 0, .slice none 0 0, .slice none 0 0, .slice none 0 0, .slice none 0 0, .slice none 0 0, .slice none 0 0, .slice none 0 0, .slice none 0 0, .slice none 0 0, .slice none 0 0, .slice none 0 0, .slice none 0 0, .slice none 0 0, .slice none 0 0, .slice none 0 0, .slice none 0 0, .slice none 0 0, .slice none 0 0, .slice none 0 0, .slice none 0 0] 58)) w.heap.size nilf := heap_alloc_new w _
/-- a list more. -/
theorem Fam.more {w w' : World} {v v' : Value} {n : Nat} {A : Nat → Option Addr} {C : Nat → Nat} {Z : Nat → List Int} {a : Option Addr} {c : Nat} {zs : List Int} (h : Fam K et lty w v n A C Z) (ho : OwnK K et w (rv a c zs) zs) (hap : ∀ k, rft n A k → ¬ blks (rv a c zs) k)
    (hl : w'.ownsRow 0 lty 1 v' ((List.range n).map (fun i => rv (A i) (C i) (Z i)) ++ [rv a c zs]).length ((List.range n).map (fun i => rv (A i) (C i) (Z i)) ++ [rv a c zs]))
    (hbt : et ≠ 58) (hb : ∀ k, k < w.heap.size → ¬ blks v k → (w'.heap[k]? = w.heap[k]? ∨ ∃ q, k = q ∧ ∃ u, Bk w q u)) : Fam K et lty w' v' (n + 1) (putf A n a) (putf C n c) (putf Z n zs) := by
  have keep : ∀ u ys, OwnK K et w u ys → OwnK K et w' u ys := by
    intro u ys hu
    refine hu.of_block fun k hk => ?_
    rcases hb k (hu.lt hk) (fun hv => list_ne_row h.ne h.list hu k hv hk) with h1 | ⟨q, rfl, x, hx⟩
    · exact h1
    · exact absurd hk (book_ne hx hu hbt)
  refine ⟨h.ne, ?_, ?_, ?_⟩
  · rw [fam_list]
    have e : ((List.range n).map (fun i => rv (A i) (C i) (Z i)) ++ [rv a c zs]).length = n + 1 := by simp
    rw [e] at hl
    exact hl
  · intro i hi
    by_cases e : i = n
    · subst e
      rw [putf_same, putf_same, putf_same]
      exact keep _ _ ho
    · rw [putf_other _ _ _ _ e, putf_other _ _ _ _ e, putf_other _ _ _ _ e]
      exact keep _ _ (h.rows i (by omega))
  · intro i j hi hj hne k h1 h2
    by_cases e : i = n
    · subst e
      rw [putf_same, putf_same, putf_same] at h1
      rw [putf_other _ _ _ _ (fun e => hne e.symm), putf_other _ _ _ _ (fun e => hne e.symm), putf_other _ _ _ _ (fun e => hne e.symm)] at h2
      exact hap k ⟨j, by omega, (blks_rv _ _ _ k).1 h2⟩ h1
    · rw [putf_other _ _ _ _ e, putf_other _ _ _ _ e, putf_other _ _ _ _ e] at h1
      by_cases e2 : j = n
      · subst e2
        rw [putf_same, putf_same, putf_same] at h2
        exact hap k ⟨i, by omega, (blks_rv _ _ _ k).1 h1⟩ h2
      · rw [putf_other _ _ _ _ e2, putf_other _ _ _ _ e2, putf_other _ _ _ _ e2] at h2
        exact h.apart i j (by omega) (by omega) hne k h1 h2

theorem Fam.below {w w' : World} {v : Value} {n : Nat} {A : Nat → Option Addr} {C : Nat → Nat} {Z : Nat → List Int} (h : Fam K et lty w v n A C Z) (hb : Below w.heap.size w w') : Fam K et lty w' v n A C Z := h.of_block fun k hk => hb.block k (h.lt k hk)
theorem fam_none (w : World) (hne : lty ≠ et) : Fam K et lty w (.slice none 0 0) 0 (fun _ => none) (fun _ => 0) (fun _ => []) :=
  ⟨hne, World.ownsRow_nil _ _ _ _, fun i hi => by omega, fun i j hi => by omega⟩
end
end Go.Proofs.Ytgohhlngnnmknaa.Bo
/- Marks in lists of numbers: what a book that is asked writes into them. -/
namespace Go.Proofs.Ytgohhlngnnmknaa.Bo
open Go.RowKit
set_option linter.unusedVariables false

def mks (mk : Nat → Nat → Int) (i n : Nat) : List Int := (List.range n).map (mk i)
section
variable {mk : Nat → Nat → Int}
theorem mks_len (i n : Nat) : (mks mk i n).length = n := by simp [mks]
theorem mks_at (i n k : Nat) (h : k < n) : (mks mk i n).getD k 0 = mk i k := by simp [mks, h]
theorem mks_succ (i k : Nat) : mks mk i (k + 1) = mks mk i k ++ [mk i k] := by simp [mks, List.range_succ]
/-- the lists when the first i of them, and k bytes of the next one, have their marks. -/
def zf (mk : Nat → Nat → Int) (Z : Nat → List Int) (i k : Nat) : Nat → List Int := fun j => if j < i then mks mk j (Z j).length else if j = i then (mks mk i (Z i).length).take k ++ (Z i).drop k else Z j
theorem zf_start (Z : Nat → List Int) : zf mk Z 0 0 = Z := by
  funext j
  unfold zf
  by_cases h : j = 0
  · subst h; simp
  · simp [h]
theorem zf_next (Z : Nat → List Int) (i : Nat) : zf mk Z i (Z i).length = zf mk Z (i + 1) 0 := by
  funext j
  unfold zf
  rcases Nat.lt_trichotomy j i with h | h | h
  · rw [if_pos h, if_pos (by omega)]
  · subst h
    rw [if_neg (by omega), if_pos rfl, if_pos (by omega), List.take_of_length_le (by rw [mks_len]; exact Nat.le_refl _), List.drop_of_length_le (Nat.le_refl _), List.append_nil]
  · rw [if_neg (by omega), if_neg (by omega), if_neg (by omega)]
    by_cases e : j = i + 1
    · subst e; rw [if_pos rfl]; simp
    · rw [if_neg e]
theorem zf_len (Z : Nat → List Int) (i k j : Nat) (hk : k ≤ (Z i).length) : (zf mk Z i k j).length = (Z j).length := by
  unfold zf
  split
  · exact mks_len _ _
  · split
    · rename_i h; subst h
      rw [List.length_append, List.length_take, List.length_drop, mks_len]; omega
    · rfl
theorem zf_set (Z : Nat → List Int) (i k : Nat) (hk : k < (Z i).length) : putf (zf mk Z i k) i ((zf mk Z i k i).set k (mk i k)) = zf mk Z i (k + 1) := by
  funext j
  by_cases h : j = i
  · subst h
    rw [putf_same]
    unfold zf
    rw [if_neg (by omega), if_pos rfl, if_neg (by omega), if_pos rfl]
    have e1 : ((mks mk j (Z j).length).take k).length = k := by rw [List.length_take, mks_len]; omega
    have e2 : (Z j).drop k = (Z j)[k] :: (Z j).drop (k + 1) := List.drop_eq_getElem_cons hk
    have e3 : (mks mk j (Z j).length).take (k + 1) = (mks mk j (Z j).length).take k ++ [mk j k] := by
      rw [take_snoc _ _ (by rw [mks_len]; exact hk), mks_at _ _ _ hk]
    rw [e2, e3, List.set_append_right _ _ (by omega), e1, Nat.sub_self, List.set_cons_zero, List.append_assoc]
    rfl
  · rw [putf_other _ _ _ _ h]
    unfold zf
    split
    · rfl
    · rfl
theorem zf_end (Z : Nat → List Int) (n j : Nat) (h : j < n) : zf mk Z n 0 j = mks mk j (Z j).length := by unfold zf; rw [if_pos h]

end
section
variable {K : IntKind} {et lty : TypeId} {w : World} {lb n cap : Nat} {A : Nat → Option Addr} {C : Nat → Nat} {Z : Nat → List Int}
theorem list_cell {v : Value} {xs : List Value} {m : Nat} (h : w.ownsRow 0 lty 1 v m xs) {c : Nat} (hv : v = .slice (some ⟨lb, 0, none⟩) m c) (i : Nat) (x : Value) (hx : xs[i]? = some x) : w.cell? ⟨lb, i, none⟩ = some x := by
  subst hv
  have := h.cells (g := lb) rfl i x hx
  rw [Addr.add_lit] at this
  simpa using this
theorem Fam.cell (h : Fam K et lty w (.slice (some ⟨lb, 0, none⟩) n cap) n A C Z) (i : Nat) (hi : i < n) : w.cell? ⟨lb, i, none⟩ = some (.slice (A i) (Z i).length (C i)) :=
  list_cell h.list rfl i _ (by simp [hi, rv])
theorem row_at {a : Option Addr} {c : Nat} {zs : List Int} (h : OwnK K et w (rv a c zs) zs) (k : Nat) (hk : k < zs.length) : ∃ b, a = some ⟨b, 0, none⟩ ∧ w.cell? ⟨b, k, none⟩ = some (.int K (zs.getD k 0)) ∧ w.frozen? ⟨b, k, none⟩ = false := by
  unfold rv at h
  cases a with
  | none =>
    rcases h.2 with ⟨e, h0⟩ | ⟨g, cap, cur, e, _⟩
    · omega
    · cases e
  | some ad =>
    obtain ⟨b, off, spot⟩ := ad
    rcases h.2 with ⟨e, _⟩ | ⟨g, cap, cur, e, _⟩
    · cases e
    · simp at e
      obtain ⟨⟨rfl, rfl, rfl⟩, _⟩ := e
      obtain ⟨_, _, _, h4, h5⟩ := h.at_
      exact ⟨b, rfl, h4 k hk, h5 k⟩
theorem Fam.set {v : Value} (h : Fam K et lty w v n A C Z) (i k b : Nat) (hi : i < n) (hk : k < (Z i).length) (ha : A i = some ⟨b, 0, none⟩) (x : Int) :
    Fam K et lty (w.setCell ⟨b, k, none⟩ (.int K x)) v n A C (putf Z i ((Z i).set k x)) ∧ Kp (rft n A) w (w.setCell ⟨b, k, none⟩ (.int K x)) := by
  have hrow := h.rows i hi
  have hbl : blks (rv (A i) (C i) (Z i)) b := (blks_rv _ _ _ b).2 ⟨_, ha, rfl⟩
  have hlen : ∀ j, (putf Z i ((Z i).set k x) j).length = (Z j).length := by
    intro j
    by_cases e : j = i
    · subst e; rw [putf_same, List.length_set]
    · rw [putf_other _ _ _ _ e]
  have hrv : ∀ j, rv (A j) (C j) (putf Z i ((Z i).set k x) j) = rv (A j) (C j) (Z j) := by intro j; unfold rv; rw [hlen j]
  refine ⟨⟨h.ne, ?_, ?_, ?_⟩, Kp.grown (grown_setCell w b k _) (fun m hm => by cases hm; exact ⟨i, hi, _, ha, rfl⟩)⟩
  · simp only [hrv]
    refine list_of_block h.list fun m hm => Below.heap_setCell _ _ _ _ (fun e => ?_)
    subst e
    exact list_ne_row h.ne h.list hrow _ hm hbl
  · intro j hj
    rw [hrv j]
    by_cases e : j = i
    · subst e
      rw [putf_same]
      have h2 := hrow
      unfold rv at h2 ⊢
      rw [ha] at h2 ⊢
      exact h2.set k hk x
    · rw [putf_other _ _ _ _ e]
      refine (h.rows j hj).of_block fun m hm => Below.heap_setCell _ _ _ _ (fun e2 => ?_)
      subst e2
      exact h.apart i j hi hj (fun e2 => e e2.symm) _ hbl hm
  · intro j l hj hl hne m
    rw [hrv j, hrv l]
    exact h.apart j l hj hl hne m
end
end Go.Proofs.Ytgohhlngnnmknaa.Bo
/- Lists of numbers that have grown. -/
namespace Go.Proofs.Ytgohhlngnnmknaa.Bo
open Go.RowKit
set_option linter.unusedVariables false

section
variable {K : IntKind} {et lty : TypeId} {mF nF : Nat → Nat → Int}
theorem Fam.same {w : World} {v : Value} {n : Nat} {A : Nat → Option Addr} {C : Nat → Nat} {Z Y : Nat → List Int} (h : Fam K et lty w v n A C Z) (e : Z = Y) : Fam K et lty w v n A C Y := e ▸ h

theorem OwnK.list {w : World} {v : Value} {zs : List Int} (h : OwnK K et w v zs) : w.ownsRow 0 et 1 v (zs.map (Value.int K)).length (zs.map (Value.int K)) := by rw [List.length_map]; exact h
theorem OwnK.of_list {w : World} {v : Value} {zs : List Int} {c : Int} (h : w.ownsRow 0 et 1 v (zs.map (Value.int K) ++ [Value.int K c]).length (zs.map (Value.int K) ++ [Value.int K c])) : OwnK K et w v (zs ++ [c]) := by
  have e : zs.map (Value.int K) ++ [Value.int K c] = (zs ++ [c]).map (Value.int K) := by simp
  rw [e, List.length_map] at h
  exact h
/-- a list within a family of lists stands in another block than the others. -/
theorem fam_apart {w : World} {v : Value} {n : Nat} {A : Nat → Option Addr} {C : Nat → Nat} {Z : Nat → List Int} (h : Fam K et lty w v n A C Z) {i j k : Nat} (hi : i < n) (hj : j < n) (hne : i ≠ j) (h1 : blks (rv (A i) (C i) (Z i)) k) : ¬ blks (rv (A j) (C j) (Z j)) k := h.apart i j hi hj hne k h1
/-- lists that have grown: each is its marks and those behind them; it lies where the list lay that it grew out of, or in a block made since. -/
structure Lg (K : IntKind) (et lty : TypeId) (mF nF : Nat → Nat → Int) (n : Nat) (A : Nat → Option Addr) (C : Nat → Nat) (fv : Value) (w0 w : World) (v : Value) (i : Nat) (Z : Nat → List Int) (X : Nat → Value) : Prop where
  kp : Kp (rft n A) w0 w
  fam : Fam K et lty w fv n A C (zf mF Z n 0)
  list : w.ownsRow 0 lty 1 v i ((List.range i).map X)
  rows : ∀ j, j < i → OwnK K et w (X j) (mks mF j (Z j).length ++ mks nF j 16)
  lies : ∀ j, j < i → ∀ k, blks (X j) k → (∃ ad, A j = some ad ∧ ad.block = k) ∨ w0.heap.size ≤ k
  low : ∀ k, blks v k → w0.heap.size ≤ k
/-- within one list that grows: the row it grew out of stays, nothing but its block turns. -/
structure Gs (K : IntKind) (et : TypeId) (r : Value) (ms : List Int) (W1 w : World) (x : Value) (zs : List Int) : Prop where
  own : OwnK K et w x (ms ++ zs)
  row : OwnK K et w r ms
  lies : ∀ b, blks x b → blks r b ∨ W1.heap.size ≤ b
  kp : Kp (blks r) W1 w
theorem grow_step {W1 wr w' : World} {r x v' : Value} {ms zs : List Int} {c : Int} {o : Obj} (h : Gs K et r ms W1 wr x zs)
    (h1 : w'.ownsRow 0 et 1 v' ((ms ++ zs).map (Value.int K) ++ [Value.int K c]).length ((ms ++ zs).map (Value.int K) ++ [Value.int K c])) (h2 : (wr.alloc o).grownBy w' x.ownBlock) (h3 : ∀ k, v'.ownBlock = some k → x.ownBlock = some k ∨ (wr.alloc o).heap.size ≤ k)
    (h4 : 0 < 1 → (Below (wr.alloc o).heap.size (wr.alloc o) w' ∧ ∀ k, v'.ownBlock = some k → (wr.alloc o).heap.size ≤ k) ∨ ∃ a m c, x = .slice a m c ∧ v' = .slice a (m + 1) c) :
    Gs K et r ms W1 w' v' (zs ++ [c]) := by
  have hs : wr.heap.size ≤ (wr.alloc o).heap.size := (below_alloc wr o).size
  have hs1 := h.kp.size
  have ho : OwnK K et w' v' (ms ++ (zs ++ [c])) := by rw [← List.append_assoc]; exact OwnK.of_list h1
  have hra : OwnK K et (wr.alloc o) r ms := h.row.alloc o
  refine ⟨ho, ?_, ?_, ?_⟩
  · by_cases hx : ∃ b, blks x b ∧ blks r b
    · obtain ⟨b, hxb, hrb⟩ := hx
      rcases h4 (by omega) with ⟨h5, _⟩ | ⟨a, m, cc, hxe, hve⟩
      · exact hra.of_block fun k hk => h5.block k (hra.lt hk)
      · obtain ⟨cr, er⟩ := h.row.some_at hrb
        obtain ⟨cx, ex⟩ := h.own.some_at hxb
        have hroom := h.row.room er h.own ex
        rw [ex] at hxe
        cases hxe
        exact h.row.front er ho hve hroom rfl
    · exact hra.of_block fun k hk => h2.block k (hra.lt hk) (fun e => hx ⟨k, e.symm, hk⟩)
  · intro b hb
    rcases h3 b hb with h5 | h5
    · exact h.lies b h5
    · exact .inr (by omega)
  · refine ⟨h2.os.trans h.kp.os, h2.tape.trans h.kp.tape, h2.output.trans h.kp.output, by have := h2.size; omega, fun k hk hr => ?_⟩
    rw [h2.block k (by omega) (fun e => (h.lies k e.symm).elim hr (fun h => by omega)), Below.heap_alloc wr o k (by omega)]
    exact h.kp.block k hk hr
theorem Lg.more {n i : Nat} {A : Nat → Option Addr} {C : Nat → Nat} {fv : Value} {w0 wi w w' : World} {v v' x : Value} {Z : Nat → List Int} {X : Nat → Value} {o : Obj} (h : Lg K et lty mF nF n A C fv w0 wi v i Z X) (hi : i < n) (g : Gs K et (rv (A i) (C i) (mks mF i (Z i).length)) (mks mF i (Z i).length) wi w x (mks nF i 16)) (hlow : ∀ k, rft n A k → k < w0.heap.size) (hfv : ∀ k, blks fv k → k < w0.heap.size)
    (h1 : w'.ownsRow 0 lty 1 v' ((List.range i).map X ++ [x]).length ((List.range i).map X ++ [x])) (h2 : (w.alloc o).grownBy w' v.ownBlock) (h3 : ∀ k, v'.ownBlock = some k → v.ownBlock = some k ∨ (w.alloc o).heap.size ≤ k) :
    Lg K et lty mF nF n A C fv w0 w' v' (i + 1) Z (putf X i x) := by
  have hs : w.heap.size ≤ (w.alloc o).heap.size := (below_alloc w o).size
  have hs0 := h.kp.size
  have hs1 := g.kp.size
  have hs2 := h2.size
  have hrb : ∀ k, blks (rv (A i) (C i) (mks mF i (Z i).length)) k ↔ ∃ ad, A i = some ad ∧ ad.block = k := fun k => blks_rv _ _ _ k
  have hblk : ∀ k, k < wi.heap.size → (¬ ∃ ad, A i = some ad ∧ ad.block = k) → ¬ blks v k → w'.heap[k]? = wi.heap[k]? := by
    intro k hk hr hv
    rw [h2.block k (by omega) (fun e => hv e.symm), Below.heap_alloc w o k (by omega)]
    exact g.kp.block k hk (fun h => hr ((hrb k).1 h))
  have hrow' : ∀ u ys, OwnK K et w u ys → (∀ k, blks u k → ¬ blks v k) → OwnK K et w' u ys := fun u ys hu hne =>
    (hu.alloc o).of_block fun k hk => h2.block k ((hu.alloc o).lt hk) (fun e => hne k hk e.symm)
  have hvlow : ∀ k, blks v k → w0.heap.size ≤ k := h.low
  have hvA : ∀ k, blks v k → ¬ rft n A k := fun k hk hr => by have := hlow k hr; have := hvlow k hk; omega
  have hlist : w.ownsRow 0 lty 1 v i ((List.range i).map X) := list_of_block h.list fun k hk => g.kp.block k (list_lt h.list k hk) (fun hr => hvA k hk ⟨i, hi, (hrb k).1 hr⟩)
  have hxv : ∀ k, blks x k → ¬ blks v k := fun k hx hv => list_ne_row h.fam.ne hlist g.own k hv hx
  refine ⟨⟨?_, ?_, ?_, by omega, ?_⟩, ⟨h.fam.ne, ?_, ?_, h.fam.apart⟩, ?_, ?_, ?_, ?_⟩
  · exact (h2.os.trans g.kp.os).trans h.kp.os
  · exact (h2.tape.trans g.kp.tape).trans h.kp.tape
  · exact (h2.output.trans g.kp.output).trans h.kp.output
  · intro k hk hr
    rw [hblk k (by omega) (fun hh => hr ⟨i, hi, hh⟩) (fun hv => by have := hvlow k hv; omega)]
    exact h.kp.block k hk hr
  · refine list_of_block h.fam.list fun k hk => hblk k (list_lt h.fam.list k hk) (fun hh => ?_) (fun hv => by have := hvlow k hv; have := hfv k hk; omega)
    exact list_ne_row h.fam.ne h.fam.list (h.fam.rows i hi) k hk ((blks_rv _ _ _ k).2 hh)
  · intro j hj
    by_cases e : j = i
    · subst e
      rw [zf_end Z n j hj]
      exact hrow' _ _ g.row (fun k hk hv => hvA k hv ⟨j, hj, (hrb k).1 hk⟩)
    · refine (h.fam.rows j hj).of_block fun k hk => hblk k ((h.fam.rows j hj).lt hk) (fun hh => ?_) (fun hv => hvA k hv ⟨j, hj, (blks_rv _ _ _ k).1 hk⟩)
      exact h.fam.apart j i hj hi e k hk ((blks_rv _ _ _ k).2 hh)
  · have e : (List.range (i + 1)).map (putf X i x) = (List.range i).map X ++ [x] := by
      rw [List.range_succ, List.map_append]
      congr 1
      · apply List.map_congr_left
        intro j hj
        exact putf_other _ _ _ _ (by have := List.mem_range.1 hj; omega)
      · simp [putf_same]
    rw [e]
    have e2 : ((List.range i).map X ++ [x]).length = i + 1 := by simp
    rw [e2] at h1
    exact h1
  · intro j hj
    by_cases e : j = i
    · subst e
      rw [putf_same]
      exact hrow' _ _ g.own hxv
    · rw [putf_other _ _ _ _ e]
      have hj' : j < i := by omega
      refine (h.rows j hj').of_block fun k hk => hblk k ((h.rows j hj').lt hk) (fun hh => ?_) (fun hv => list_ne_row h.fam.ne h.list (h.rows j hj') k hv hk)
      rcases h.lies j hj' k hk with h5 | h5
      · exact h.fam.apart j i (by omega) hi e k ((blks_rv _ _ _ k).2 h5) ((blks_rv _ _ _ k).2 hh)
      · have := hlow k ⟨i, hi, hh⟩; omega
  · intro j hj k hk
    by_cases e : j = i
    · subst e
      rw [putf_same] at hk
      rcases g.lies k hk with h5 | h5
      · exact .inl ((hrb k).1 h5)
      · exact .inr (by omega)
    · rw [putf_other _ _ _ _ e] at hk
      exact h.lies j (by omega) k hk
  · intro k hk
    rcases h3 k hk with h4 | h4
    · exact h.low k h4
    · omega

theorem long_at {w : World} {x : Value} {i N : Nat} (h : OwnK K et w x (mks mF i N ++ mks nF i 16)) : ∃ b c, x = .slice (some ⟨b, 0, none⟩) (N + 16) c ∧ ∀ k, k < N + 16 → w.cell? ⟨b, k, none⟩ = some (.int K ((mks mF i N ++ mks nF i 16).getD k 0)) := by
  have e : (mks mF i N ++ mks nF i 16).length = N + 16 := by rw [List.length_append, mks_len, mks_len]
  rcases h.2 with ⟨_, h0⟩ | ⟨g, cap, cur, rfl, _⟩
  · omega
  · obtain ⟨_, _, _, h4, _⟩ := h.at_
    rw [e] at h4 ⊢
    exact ⟨g, cap, rfl, h4⟩
theorem both_left (i N m k : Nat) (h : k < N) : (mks mF i N ++ mks nF i m).getD k 0 = mF i k := by
  rw [List.getD_eq_getElem?_getD, List.getElem?_append_left (by rw [mks_len]; exact h), ← List.getD_eq_getElem?_getD, mks_at _ _ _ h]
theorem both_right (i N m k : Nat) (h : k < m) : (mks mF i N ++ mks nF i m).getD (N + k) 0 = nF i k := by
  rw [List.getD_eq_getElem?_getD, List.getElem?_append_right (by rw [mks_len]; omega), mks_len, Nat.add_sub_cancel_left, ← List.getD_eq_getElem?_getD, mks_at _ _ _ h]

end
end Go.Proofs.Ytgohhlngnnmknaa.Bo
