/- Memory for a book of lists: rows of numbers of any kind, what turns is some blocks alone; appends to a row of any type of one cell, with what room it has. -/
import Derived.Test.YtpoanlbjhhlagaaE
import Derived.Deep.AppendSrc
namespace Go.Proofs.Ytpoanlbjhhlagaa.Bo
open Go.RowKit
set_option linter.unusedVariables false

theorem grown_setCell (w : World) (p j : Nat) (v : Value) : w.grownBy (w.setCell ⟨p, j, none⟩ v) (some p) :=
  ⟨rfl, rfl, rfl, by simp [World.setCell], fun k _ hne => Below.heap_setCell _ _ _ _ (fun e => hne (by rw [e]))⟩
theorem grown_refl (w : World) (r : Option Nat) : w.grownBy w r := ⟨rfl, rfl, rfl, Nat.le_refl _, fun _ _ _ => rfl⟩
theorem grown_trans {a b c : World} {r : Option Nat} (h : a.grownBy b r) (k : b.grownBy c r) : a.grownBy c r :=
  ⟨k.os.trans h.os, k.tape.trans h.tape, k.output.trans h.output, Nat.le_trans h.size k.size, fun i hi hn => (k.block i (Nat.lt_of_lt_of_le hi h.size) hn).trans (h.block i hi hn)⟩
/-- a row of numbers of any kind, of the call's own. -/
def OwnK (K : IntKind) (et : TypeId) (w : World) (v : Value) (zs : List Int) : Prop := w.ownsRow 0 et 1 v zs.length (zs.map (Value.int K))
section
variable {K : IntKind} {et : TypeId}
theorem OwnK.nil (w : World) : OwnK K et w (.slice none 0 0) [] := World.ownsRow_nil w 0 et 1
theorem OwnK.shape2 {w : World} {v : Value} {zs : List Int} (h : OwnK K et w v zs) : ∃ a n c, v = .slice a n c ∧ Hid (n = zs.length) := by
  rcases h.2 with ⟨rfl, h0⟩ | ⟨g, cap, cur, rfl, _⟩
  · exact ⟨none, 0, 0, rfl, h0.symm⟩
  · exact ⟨_, zs.length, cap, rfl, rfl⟩
theorem OwnK.lt {w : World} {v : Value} {zs : List Int} (h : OwnK K et w v zs) {k : Nat} (hk : v.ownBlock = some k) : k < w.heap.size := (World.ownsRow.lt h k hk).2
theorem OwnK.of_block {w w' : World} {v : Value} {zs : List Int} (h : OwnK K et w v zs) (hb : ∀ k, v.ownBlock = some k → w'.heap[k]? = w.heap[k]?) : OwnK K et w' v zs := by
  obtain ⟨h1, h2⟩ := h
  refine ⟨h1, ?_⟩
  rcases h2 with h2 | ⟨g, cap, cur, rfl, hg, hh, r⟩
  · exact .inl h2
  · exact .inr ⟨g, cap, cur, rfl, hg, by rw [hb g rfl]; exact hh, r⟩
theorem OwnK.alloc {w : World} {v : Value} {zs : List Int} (h : OwnK K et w v zs) (o : Obj) : OwnK K et (w.alloc o) v zs := h.of_block fun k hk => Below.heap_alloc w o k (h.lt hk)
theorem OwnK.below {w w' : World} {v : Value} {zs : List Int} (h : OwnK K et w v zs) (hb : Below w.heap.size w w') : OwnK K et w' v zs := h.of_block fun k hk => hb.block k (h.lt hk)
/-- the blocks of a slice's value. -/
def blks (v : Value) (k : Nat) : Prop := v.ownBlock = some k
theorem OwnK.blk_lt {w : World} {v : Value} {zs : List Int} (h : OwnK K et w v zs) (k : Nat) (hk : blks v k) : k < w.heap.size := h.lt hk

/-- a row of bytes without room behind it, one of which is written. -/
theorem OwnK.at_ {w : World} {b off n c : Nat} {zs : List Int} (h : OwnK K et w (.slice (some ⟨b, off, none⟩) n c) zs) : off = 0 ∧ n = zs.length ∧ b < w.heap.size ∧ (∀ i, i < zs.length → w.cell? ⟨b, i, none⟩ = some (.int K (zs.getD i 0))) ∧ ∀ i, w.frozen? ⟨b, i, none⟩ = false := by
  rcases h.2 with ⟨e, _⟩ | ⟨g, cap, cur, e, hb, hg, hn, hm, hs, ht⟩
  · cases e
  · simp at e
    obtain ⟨⟨rfl, rfl⟩, rfl, rfl⟩ := e
    refine ⟨rfl, rfl, lt_of_block hg, fun i hi => ?_, fun i => by simp [World.frozen?, hg]⟩
    have := h.cells (g := b) rfl i (.int K (zs.getD i 0)) (by simp [hi])
    rw [Addr.add_lit] at this
    simpa using this
theorem OwnK.set {w : World} {b n c : Nat} {zs : List Int} (h : OwnK K et w (.slice (some ⟨b, 0, none⟩) n c) zs) (i : Nat) (hi : i < zs.length) (x : Int) : OwnK K et (w.setCell ⟨b, i, none⟩ (.int K x)) (.slice (some ⟨b, 0, none⟩) n c) (zs.set i x) := by
  rcases h.2 with ⟨e, _⟩ | ⟨g, cap, cur, e, hb, hg, hn, hm, hs, ht⟩
  · cases e
  · simp at e
    obtain ⟨rfl, rfl, rfl⟩ := e
    refine ⟨by simp, .inr ⟨b, c, cur.setIfInBounds i (.int K x), by simp, hb, ?_, by simpa using hn, hm, by simpa using hs, ?_⟩⟩
    · rw [heap_setCell_same w b i _ et _ hg]
    · simp only [Nat.mul_one] at ht ⊢
      rw [List.length_set, Array.toList_setIfInBounds, List.take_set, ht, List.map_set]
/-- from w to w' only blocks of f have turned. -/
structure Kp (f : Nat → Prop) (w w' : World) : Prop where
  os : w'.os = w.os
  tape : w'.tape = w.tape
  output : w'.output = w.output
  size : w.heap.size ≤ w'.heap.size
  block : ∀ k, k < w.heap.size → ¬ f k → w'.heap[k]? = w.heap[k]?
theorem Kp.refl (f : Nat → Prop) (w : World) : Kp f w w := ⟨rfl, rfl, rfl, Nat.le_refl _, fun _ _ _ => rfl⟩
theorem Kp.trans {f : Nat → Prop} {a b c : World} (h : Kp f a b) (k : Kp f b c) : Kp f a c :=
  ⟨k.os.trans h.os, k.tape.trans h.tape, k.output.trans h.output, Nat.le_trans h.size k.size, fun i hi hn => (k.block i (Nat.lt_of_lt_of_le hi h.size) hn).trans (h.block i hi hn)⟩
theorem Kp.of_below {f : Nat → Prop} {w w' : World} (h : Below w.heap.size w w') : Kp f w w' := ⟨h.os, h.tape, h.output, h.size, fun k hk _ => h.block k hk⟩
theorem Kp.grown {f : Nat → Prop} {w w' : World} {r : Option Nat} (h : w.grownBy w' r) (hf : ∀ k, r = some k → f k) : Kp f w w' :=
  ⟨h.os, h.tape, h.output, h.size, fun k hk hn => h.block k hk (fun e => hn (hf k e.symm))⟩
theorem Kp.below {f : Nat → Prop} {w w' : World} {B : Nat} (h : Kp f w w') (hl : ∀ k, f k → B ≤ k) (hB : B ≤ w.heap.size) : Below B w w' :=
  ⟨h.os, h.tape, h.output, h.size, fun k hk => h.block k (by omega) (fun hf => by have := hl k hf; omega)⟩
theorem Kp.wider {f g : Nat → Prop} {w w' : World} (h : Kp f w w') (hf : ∀ k, f k → k < w.heap.size → g k) : Kp g w w' := ⟨h.os, h.tape, h.output, h.size, fun k hk hn => h.block k hk (fun h2 => hn (hf k h2 hk))⟩

end
/-- an append to a row of the call's own, of a type of one cell. -/
theorem run_append_one {P : Program} (w : World) (t tx ty e : TypeId) (i : TypeInfo) (z : Value) (ht : P.underlying t = some (.slice e)) (hi : P.info? e = some i) (hz : i.zero = some z) (h1 : i.size = 1) (hzc : z.cells.size = 1)
    (v : Value) (xs : List Value) (hown : w.ownsRow 0 e 1 v xs.length xs) (x : Value) (n : Nat) (news : List Value) (hs : Src P 1 tx x n news w) (hb : (xs.length + n) * i.bytes ≤ 140737488355328) (hm : xs.length + n ≤ 140737488355328) :
    ∃ v' w', (Builtin.append_ #[t, tx] ty #[v, x]).run P w = .ok v' w' ∧ w'.ownsRow 0 e 1 v' (xs ++ news).length (xs ++ news) ∧ w.grownBy w' v.ownBlock ∧ (∀ k, v'.ownBlock = some k → v.ownBlock = some k ∨ w.heap.size ≤ k) ∧
      (0 < n → (Below w.heap.size w w' ∧ ∀ k, v'.ownBlock = some k → w.heap.size ≤ k) ∨ ∃ a m c, v = .slice a m c ∧ v' = .slice a (m + n) c) := by
  have hnl : news.length = n := by simpa using hs.newsLen
  have hlen : (xs ++ news).length = xs.length + n := by simp [hnl]
  have hs' : Src P i.size tx x n news w := by rw [h1]; exact hs
  have hgrow : ∀ (old : Nat) (row : Option Nat), old < xs.length + n →
      (w.drew.alloc (.cells ((xs ++ news).toArray ++ Builtin.zeroCells z.cells (grownCap w (xs.length + n) old e - (xs.length + n))) e)).ownsRow 0 e 1 (.slice (some ⟨w.heap.size, 0, none⟩) (xs.length + n) (grownCap w (xs.length + n) old e)) (xs ++ news).length (xs ++ news) ∧
      w.grownBy (w.drew.alloc (.cells ((xs ++ news).toArray ++ Builtin.zeroCells z.cells (grownCap w (xs.length + n) old e - (xs.length + n))) e)) row := by
    intro old row ho
    have hge := grownCap_ge w (xs.length + n) old e
    have hcm : grownCap w (xs.length + n) old e ≤ maxLen := grownCap_le_maxLen w _ old e (by unfold maxLen; omega)
    refine ⟨⟨by simp, .inr ⟨w.heap.size, _, _, by rw [hlen], Nat.zero_le _, heap_alloc_new w.drew _, by rw [hlen]; exact hge, hcm, ?_, ?_⟩⟩, ⟨rfl, rfl, rfl, by simp, fun k hk _ => Below.heap_alloc w.drew _ k hk⟩⟩
    · simp only [Array.size_append, List.size_toArray, size_zeroCells, List.length_append, hnl, hzc]
      omega
    · rw [Array.toList_append, Nat.mul_one]
      exact List.take_left
  rcases hown.2 with ⟨rfl, h0⟩ | ⟨g, cap, cur, rfl, hbg, hg, hnc, hcm, hcs, htake⟩
  · have hx : xs = [] := List.eq_nil_of_length_eq_zero h0
    subst hx
    by_cases hm0 : n = 0
    · subst hm0
      have hn : news = [] := List.eq_nil_of_length_eq_zero hnl
      subst hn
      refine ⟨.slice none 0 0, w, ?_, World.ownsRow_nil w 0 e 1, ⟨rfl, rfl, rfl, Nat.le_refl _, fun _ _ _ => rfl⟩, fun k hk => .inl hk, fun h => by omega⟩
      have hsl := hs'.len
      have hsc := hs'.cells
      rcases hs.kind with ⟨e', hk⟩ | hk <;> simp [Builtin.append_, run_underlying ht, run_underlying hk, sizeOf, typeInfo, hi, hsl, hsc]
    · have hr := run_append_grow_src (P := P) w t tx ty e i z ht hi hz none 0 0 [] (by simp [Builtin.firstCells]) x n _ hs' (by omega) (by omega) (growslice_fits (by omega) (by simpa using hb))
      have hgr := hgrow 0 (Value.ownBlock (.slice none 0 0)) (by simp; omega)
      simp only [List.length_nil, Nat.zero_add, List.nil_append] at hgr hr ⊢
      exact ⟨_, _, hr, hgr.1, hgr.2, fun k hk => .inr (by simp [Value.ownBlock] at hk; omega), fun _ => .inl ⟨⟨rfl, rfl, rfl, by simp, fun k hk => Below.heap_alloc w.drew _ k hk⟩, fun k hk => by simp [Value.ownBlock] at hk; omega⟩⟩
  · by_cases hroom : xs.length + n ≤ cap
    · have hfit : xs.length * 1 + news.length ≤ cur.size := by rw [hnl, hcs]; omega
      have hst := run_storeCells_at P g (xs.length * 1) e news 0 cur w hg (by simpa using hfit) hs.one
      simp only [Nat.add_zero] at hst
      have hsl := hs.len
      have hsc := hs.cells
      refine ⟨.slice (some ⟨g, 0, none⟩) (xs.length + n) cap, w.setRow g (cur.toList.take (xs.length * 1) ++ news ++ cur.toList.drop (xs.length * 1 + news.length)).toArray, ?_, ⟨by simp, .inr ⟨g, cap, _, by rw [hlen], hbg, setRow_heap w g cur _ e _ hg, by rw [hlen]; exact hroom, hcm, ?_, ?_⟩⟩, ⟨rfl, rfl, rfl, by simp, fun k _ hk => setRow_other w g k _ (fun e => hk (by simp [Value.ownBlock, e]))⟩, fun k hk => .inl (by simpa [Value.ownBlock] using hk), fun _ => .inr ⟨_, _, _, rfl, rfl⟩⟩
      · rcases hs.kind with ⟨e', hk⟩ | hk <;> simp [Builtin.append_, run_underlying ht, run_underlying hk, sizeOf, typeInfo, hi, h1, hsl, hroom, hsc, Addr.add_lit] <;> simp at hst <;> simp [hst]
      · simp only [List.size_toArray, List.length_append, List.length_take, List.length_drop, Array.length_toList] at hfit ⊢
        omega
      · rw [htake, Nat.mul_one]
        exact List.take_left
    · have holds : ∀ j u, xs[j]? = some u → w.drew.cell? ((⟨g, 0, none⟩ : Addr).add j) = some u := hown.cells (g := g) rfl
      have hr := run_append_grow_src (P := P) w t tx ty e i z ht hi hz (some ⟨g, 0, none⟩) xs.length cap xs (run_firstCells_some w.drew i.size xs.length ⟨g, 0, none⟩ xs.length cap _ (by rw [h1]; simp) holds) x n _ hs' (by omega) (by omega) (growslice_fits (by omega) hb)
      have hgr := hgrow cap (Value.ownBlock (.slice (some ⟨g, 0, none⟩) xs.length cap)) (by omega)
      have e2 : (xs ++ news).toArray = xs.toArray ++ news.toArray := by simp
      exact ⟨_, _, hr, hgr.1, hgr.2, fun k hk => .inr (by simp [Value.ownBlock] at hk; omega), fun _ => .inl ⟨⟨rfl, rfl, rfl, by simp, fun k hk => Below.heap_alloc w.drew _ k hk⟩, fun k hk => by simp [Value.ownBlock] at hk; omega⟩⟩

theorem wpList_append_one {P : Program} {w : World} {ops : Array Oper} {rest : List Oper} {o : Oper} {a : Act} {Q : Exit → Act → World → Prop} (hgd : o.guard = none) (s x : Operand) (t tx e : TypeId) (ho : o.op = .call { callee := .builtin .append, args := #[s, x], argTypes := #[t, tx] })
    (i : TypeInfo) (z : Value) (ht : P.underlying t = some (.slice e)) (hi : P.info? e = some i) (hz : i.zero = some z) (h1 : i.size = 1) (hzc : z.cells.size = 1)
    (v : Value) (xs : List Value) (hs : a.eval s = v) (hown : w.ownsRow 0 e 1 v xs.length xs) (xv : Value) (n : Nat) (news : List Value) (hx : a.eval x = xv) (hsrc : Src P 1 tx xv n news w) (hb : (xs.length + n) * i.bytes ≤ 140737488355328) (hm : xs.length + n ≤ 140737488355328)
    (h : ∀ v' w', w'.ownsRow 0 e 1 v' (xs ++ news).length (xs ++ news) → w.grownBy w' v.ownBlock → (∀ k, v'.ownBlock = some k → v.ownBlock = some k ∨ w.heap.size ≤ k) → (0 < n → (Below w.heap.size w w' ∧ ∀ k, v'.ownBlock = some k → w.heap.size ≤ k) ∨ ∃ a m c, v = .slice a m c ∧ v' = .slice a (m + n) c) → wpList P ops Q rest (a.put o.dst v') w') : wpList P ops Q (o :: rest) a w :=
  wpList_plain hgd fun _ hK => by
    obtain ⟨v', w', hr, h2, h3, h4, h5⟩ := run_append_one (P := P) w t tx o.type e i z ht hi hz h1 hzc v xs hown xv n news hsrc hb hm
    unfold Oper.wp execOp
    simp only [ho, resolve, invoke, builtin, Sem.run_bind, Sem.run_pure, Result.andThen_ok, List.map_toArray, List.map_cons, List.map_nil, hs, hx, hr]
    exact hK _ _ (h v' w' h2 h3 h4 h5)
section
variable {K : IntKind} {et : TypeId}
/-- a row within a longer one of the same block and the same room. -/
theorem OwnK.front {w w' : World} {r v : Value} {b n m cr cv : Nat} {ms zs ts : List Int} (hr : OwnK K et w r ms) (er : r = .slice (some ⟨b, 0, none⟩) n cr) (hv : OwnK K et w' v zs) (ev : v = .slice (some ⟨b, 0, none⟩) m cv) (hc : cr = cv) (e : zs = ms ++ ts) : OwnK K et w' r ms := by
  subst er ev hc e
  rcases hr.2 with ⟨h, _⟩ | ⟨g, cap, cur, h, hb, hg, hn, hm, hs, ht⟩
  · cases h
  · simp only [Value.slice.injEq, Option.some.injEq, Addr.mk.injEq, and_true] at h
    obtain ⟨rfl, rfl, rfl⟩ := h
    rcases hv.2 with ⟨h, _⟩ | ⟨g', cap', cur', h, hb', hg', hn', hm', hs', ht'⟩
    · cases h
    · simp only [Value.slice.injEq, Option.some.injEq, Addr.mk.injEq, and_true] at h
      obtain ⟨rfl, rfl, rfl⟩ := h
      refine ⟨by simp, .inr ⟨b, cr, cur', rfl, hb', hg', hn, hm, hs', ?_⟩⟩
      rw [Nat.mul_one] at ht' ⊢
      have : cur'.toList.take ms.length = (cur'.toList.take (ms ++ ts).length).take ms.length := by rw [List.take_take, Nat.min_eq_left (by simp)]
      rw [this, ht', List.map_append, List.take_left' (by simp)]
/-- two rows of one block have the same room. -/
theorem OwnK.room {w : World} {r v : Value} {b n m cr cv : Nat} {ms zs : List Int} (hr : OwnK K et w r ms) (er : r = .slice (some ⟨b, 0, none⟩) n cr) (hv : OwnK K et w v zs) (ev : v = .slice (some ⟨b, 0, none⟩) m cv) : cr = cv := by
  subst er ev
  rcases hr.2 with ⟨h, _⟩ | ⟨g, cap, cur, h, hb, hg, hn, hm, hs, ht⟩
  · cases h
  · simp only [Value.slice.injEq, Option.some.injEq, Addr.mk.injEq, and_true] at h
    obtain ⟨rfl, rfl, rfl⟩ := h
    rcases hv.2 with ⟨h, _⟩ | ⟨g', cap', cur', h, hb', hg', hn', hm', hs', ht'⟩
    · cases h
    · simp only [Value.slice.injEq, Option.some.injEq, Addr.mk.injEq, and_true] at h
      obtain ⟨rfl, rfl, rfl⟩ := h
      rw [hg] at hg'
      cases hg'
      omega
theorem OwnK.some_at {w : World} {v : Value} {zs : List Int} {k : Nat} (h : OwnK K et w v zs) (hk : blks v k) : ∃ c, v = .slice (some ⟨k, 0, none⟩) zs.length c := by
  rcases h.2 with ⟨rfl, _⟩ | ⟨g, cap, cur, rfl, _⟩
  · cases hk
  · cases hk; exact ⟨cap, rfl⟩
end
/-- the one-element slice that is laid for what is appended. -/
theorem src_laid {P : Program} {t et : TypeId} (w : World) (x : Value) (hu : P.underlying t = some (.slice et)) (hx : x.oneCell' = true) : Src P 1 t (.slice (some ⟨w.heap.size, 0, none⟩) 1 1) 1 [x] (w.alloc (.cells #[x] et)) :=
  Src.ofSlice _ hu ⟨w.heap.size, 0, none⟩ 1 1 [x] rfl (by intro j u hj; match j, hj with | 0, hj => simp at hj; subst hj; simp [Addr.add]) (by intro u hu; simp at hu; subst hu; exact hx)
/-- blocks of other types are other blocks. -/
theorem rows_ne {w : World} {t t' : TypeId} {v u : Value} {n m : Nat} {xs ys : List Value} (h : w.ownsRow 0 t 1 v n xs) (h' : w.ownsRow 0 t' 1 u m ys) (hne : t ≠ t') (k : Nat) (h1 : blks v k) : ¬ blks u k := by
  intro h2
  rcases h.2 with ⟨rfl, _⟩ | ⟨g, cap, cur, rfl, _, hg, _⟩
  · cases h1
  · rcases h'.2 with ⟨rfl, _⟩ | ⟨g', cap', cur', rfl, _, hg', _⟩
    · cases h2
    · cases h1; cases h2
      rw [hg] at hg'
      simp at hg'
      exact hne hg'.2
end Go.Proofs.Ytpoanlbjhhlagaa.Bo
