/- Memory: bytes that lie in a row, a writer behind a pointer, what an append from any source makes of a row of the call's own, and what stays as it was. -/
import Derived.WalkKit
import Derived.ProofKit
import Derived.Below
import Derived.OneCell
import Derived.Deep.AppendSrc
import Derived.Laws.AppendOwn
namespace Go.Proofs.Ytobkmjkcbihfbaa
open Go.RowKit
set_option linter.unusedVariables false

theorem hide {p : Prop} (h : p) : Hid p := h
/-- a slice's first cells hold the bytes zs. -/
def Row (w : World) (a : Option Addr) (zs : List Int) : Prop :=
  zs = [] ∨ ∃ b off, a = some ⟨b, off, none⟩ ∧ b < w.heap.size ∧ ∀ i, i < zs.length → w.cell? ⟨b, off + i, none⟩ = some (.int .u8 (zs.getD i 0))
def Byts (zs : List Int) : Prop := ∀ c ∈ zs, 0 ≤ c ∧ c ≤ 255

theorem Row.below {w w' : World} {a : Option Addr} {zs : List Int} (h : Row w a zs) (hb : Below w.heap.size w w') : Row w' a zs := by
  rcases h with h | ⟨b, off, rfl, hlt, hc⟩
  · exact .inl h
  · exact .inr ⟨b, off, rfl, Nat.lt_of_lt_of_le hlt hb.size, fun i hi => (hb.cell (p := ⟨b, off + i, none⟩) hlt).trans (hc i hi)⟩
theorem Byts.at {zs : List Int} (h : Byts zs) (k : Nat) : 0 ≤ zs.getD k 0 ∧ zs.getD k 0 ≤ 255 := by
  by_cases hk : k < zs.length
  · rw [List.getD_eq_getElem?_getD, List.getElem?_eq_getElem hk]; exact h _ (List.getElem_mem hk)
  · rw [List.getD_eq_getElem?_getD, List.getElem?_eq_none (by omega)]; simp
theorem Byts.take {zs : List Int} (h : Byts zs) (k : Nat) : Byts (zs.take k) := fun c hc => h c (List.mem_of_mem_take hc)
theorem Byts.drop {zs : List Int} (h : Byts zs) (k : Nat) : Byts (zs.drop k) := fun c hc => h c (List.mem_of_mem_drop hc)
theorem Byts.append {zs ys : List Int} (h : Byts zs) (h' : Byts ys) : Byts (zs ++ ys) := fun c hc => (List.mem_append.1 hc).elim (h c) (h' c)
theorem take_snoc (zs : List Int) (k : Nat) (h : k < zs.length) : zs.take (k + 1) = zs.take k ++ [zs.getD k 0] := by
  rw [List.take_succ_eq_append_getElem h, List.getD_eq_getElem?_getD, List.getElem?_eq_getElem h]; rfl

/-- the bytes zs lie in a row of the call's own. -/
def Own (w : World) (v : Value) (zs : List Int) : Prop := w.ownsRow 0 5 1 v zs.length (zs.map (Value.int .u8))
theorem Own.nil (w : World) : Own w (.slice none 0 0) [] := World.ownsRow_nil w 0 5 1
theorem Own.shape {w : World} {v : Value} {zs : List Int} (h : Own w v zs) : ∃ a c, v = .slice a zs.length c ∧ zs.length ≤ c ∧ c ≤ maxLen ∧ (a = none → zs.length = 0 ∧ c = 0) ∧ Row w a zs ∧ ∀ k, (∃ ad, a = some ad ∧ ad.block = k) ↔ v.ownBlock = some k := by
  rcases h.2 with ⟨rfl, h0⟩ | ⟨g, cap, cur, rfl, _, hg, hn, hm, _⟩
  · refine ⟨none, 0, by rw [h0], by omega, by omega, fun _ => ⟨h0, rfl⟩, .inl (List.eq_nil_of_length_eq_zero h0), fun k => by simp [Value.ownBlock]⟩
  · refine ⟨_, cap, rfl, hn, hm, fun e => by (cases e), .inr ⟨g, 0, rfl, lt_of_block hg, fun i hi => ?_⟩, fun k => by simp [Value.ownBlock]⟩
    have := h.cells (g := g) rfl i (.int .u8 (zs.getD i 0)) (by simp [hi])
    rwa [Addr.add_lit] at this
theorem Own.shape2 {w : World} {v : Value} {zs : List Int} (h : Own w v zs) : ∃ a n c, v = .slice a n c ∧ Hid (n = zs.length) := by
  obtain ⟨a, c, rfl, _⟩ := h.shape
  exact ⟨a, _, c, rfl, hide rfl⟩
theorem Own.lt {w : World} {v : Value} {zs : List Int} (h : Own w v zs) {k : Nat} (hk : v.ownBlock = some k) : k < w.heap.size := (World.ownsRow.lt h k hk).2
theorem Own.of_block {w w' : World} {v : Value} {zs : List Int} (h : Own w v zs) (hb : ∀ k, v.ownBlock = some k → w'.heap[k]? = w.heap[k]?) : Own w' v zs := by
  obtain ⟨h1, h2⟩ := h
  refine ⟨h1, ?_⟩
  rcases h2 with h2 | ⟨g, cap, cur, rfl, hg, hh, r⟩
  · exact .inl h2
  · exact .inr ⟨g, cap, cur, rfl, hg, by rw [hb g rfl]; exact hh, r⟩

theorem run_append_src {P : Program} (w : World) (t tx ty : TypeId) (i : TypeInfo) (ht : P.underlying t = some (.slice 5)) (hi : P.info? 5 = some i) (hz : i.zero = some (.int .u8 0)) (h1 : i.size = 1) (hby : i.bytes = 1)
    (v : Value) (zs : List Int) (hown : Own w v zs) (x : Value) (n : Nat) (news : List Int) (hs : Src P 1 tx x n (news.map (Value.int .u8)) w) (hb : zs.length + n ≤ 140737488355328) :
    ∃ v' w', (Builtin.append_ #[t, tx] ty #[v, x]).run P w = .ok v' w' ∧ Own w' v' (zs ++ news) ∧ w.grownBy w' v.ownBlock ∧ ∀ k, v'.ownBlock = some k → v.ownBlock = some k ∨ w.heap.size ≤ k := by
  have hnl : news.length = n := by simpa using hs.newsLen
  have hlen : (zs ++ news).length = zs.length + n := by simp [hnl]
  have hs' : Src P i.size tx x n (news.map (Value.int .u8)) w := by rw [h1]; exact hs
  have hgrow : ∀ (old : Nat) (row : Option Nat), old < zs.length + n →
      Own (w.drew.alloc (.cells (((zs.map (Value.int .u8)) ++ (news.map (Value.int .u8))).toArray ++ Builtin.zeroCells (Value.int .u8 0).cells (grownCap w (zs.length + n) old 5 - (zs.length + n))) 5)) (.slice (some ⟨w.heap.size, 0, none⟩) (zs.length + n) (grownCap w (zs.length + n) old 5)) (zs ++ news) ∧
      w.grownBy (w.drew.alloc (.cells (((zs.map (Value.int .u8)) ++ (news.map (Value.int .u8))).toArray ++ Builtin.zeroCells (Value.int .u8 0).cells (grownCap w (zs.length + n) old 5 - (zs.length + n))) 5)) row := by
    intro old row ho
    have hge := grownCap_ge w (zs.length + n) old 5
    have hcm : grownCap w (zs.length + n) old 5 ≤ maxLen := grownCap_le_maxLen w _ old 5 (by unfold maxLen; omega)
    refine ⟨⟨by simp, .inr ⟨w.heap.size, _, _, by rw [hlen], Nat.zero_le _, heap_alloc_new w.drew _, by rw [hlen]; exact hge, hcm, ?_, ?_⟩⟩, ⟨rfl, rfl, rfl, by simp, fun k hk _ => Below.heap_alloc w.drew _ k hk⟩⟩
    · simp only [Array.size_append, List.size_toArray, size_zeroCells, List.length_append, List.length_map, hnl]
      simp [Value.cells]; omega
    · have e : (zs ++ news).length * 1 = ((zs.map (Value.int .u8)) ++ (news.map (Value.int .u8))).length := by simp
      rw [Array.toList_append, e, List.map_append]
      exact List.take_left
  rcases hown.2 with ⟨rfl, h0⟩ | ⟨g, cap, cur, rfl, hbg, hg, hnc, hcm, hcs, htake⟩
  · have hx : zs = [] := List.eq_nil_of_length_eq_zero h0
    subst hx
    by_cases hm : n = 0
    · subst hm
      have hn : news = [] := List.eq_nil_of_length_eq_zero hnl
      subst hn
      refine ⟨.slice none 0 0, w, ?_, Own.nil w, ⟨rfl, rfl, rfl, Nat.le_refl _, fun _ _ _ => rfl⟩, fun k hk => .inl hk⟩
      have hsl := hs'.len
      have hsc := hs'.cells
      rcases hs.kind with ⟨e', hk⟩ | hk <;> simp [Builtin.append_, run_underlying ht, run_underlying hk, sizeOf, typeInfo, hi, hsl, hsc]
    · have hr := run_append_grow_src (P := P) w t tx ty 5 i (.int .u8 0) ht hi hz none 0 0 [] (by simp [Builtin.firstCells]) x n _ hs' (by omega) (by omega) (growslice_fits (by omega) (by rw [hby]; simp only [List.length_nil] at hb; omega))
      have hgr := hgrow 0 (Value.ownBlock (.slice none 0 0)) (by simp; omega)
      simp only [List.length_nil, Nat.zero_add, List.map_nil, List.nil_append] at hgr hr ⊢
      exact ⟨_, _, hr, hgr.1, hgr.2, fun k hk => .inr (by simp [Value.ownBlock] at hk; omega)⟩
  · by_cases hroom : zs.length + n ≤ cap
    · have hfit : zs.length * 1 + (news.map (Value.int .u8)).length ≤ cur.size := by rw [List.length_map, hnl, hcs]; omega
      have hst := run_storeCells_at P g (zs.length * 1) 5 (news.map (Value.int .u8)) 0 cur w hg (by simpa using hfit) hs.one
      simp only [Nat.add_zero] at hst
      have hsl := hs.len
      have hsc := hs.cells
      refine ⟨.slice (some ⟨g, 0, none⟩) (zs.length + n) cap, w.setRow g (cur.toList.take (zs.length * 1) ++ news.map (Value.int .u8) ++ cur.toList.drop (zs.length * 1 + (news.map (Value.int .u8)).length)).toArray, ?_, ⟨by simp, .inr ⟨g, cap, _, by rw [hlen], hbg, setRow_heap w g cur _ 5 _ hg, by rw [hlen]; exact hroom, hcm, ?_, ?_⟩⟩, ⟨rfl, rfl, rfl, by simp, fun k _ hk => setRow_other w g k _ (fun e => hk (by simp [Value.ownBlock, e]))⟩, fun k hk => .inl (by simpa [Value.ownBlock] using hk)⟩
      · rcases hs.kind with ⟨e', hk⟩ | hk <;> simp [Builtin.append_, run_underlying ht, run_underlying hk, sizeOf, typeInfo, hi, h1, hsl, hroom, hsc, Addr.add_lit] <;> simp at hst <;> simp [hst]
      · simp only [List.size_toArray, List.length_append, List.length_take, List.length_drop, Array.length_toList, List.length_map] at hfit ⊢
        omega
      · have e : (zs ++ news).length * 1 = ((zs.map (Value.int .u8)) ++ (news.map (Value.int .u8))).length := by simp
        rw [htake, e, List.map_append]
        exact List.take_left
    · have holds : ∀ j u, (zs.map (Value.int .u8))[j]? = some u → w.drew.cell? ((⟨g, 0, none⟩ : Addr).add j) = some u := hown.cells (g := g) rfl
      have hr := run_append_grow_src (P := P) w t tx ty 5 i (.int .u8 0) ht hi hz (some ⟨g, 0, none⟩) zs.length cap (zs.map (Value.int .u8)) (run_firstCells_some w.drew i.size zs.length ⟨g, 0, none⟩ zs.length cap _ (by rw [h1]; simp) holds) x n _ hs' (by omega) (by omega) (growslice_fits (by omega) (by rw [hby]; omega))
      have hgr := hgrow cap (Value.ownBlock (.slice (some ⟨g, 0, none⟩) zs.length cap)) (by omega)
      exact ⟨_, _, hr, hgr.1, hgr.2, fun k hk => .inr (by simp [Value.ownBlock] at hk; omega)⟩

theorem wp_append_src {P : Program} {w : World} {o : Oper} {a : Act} {K : Act → World → Prop} {Q : Exit → Act → World → Prop} (s x : Operand) (t tx : TypeId) (ho : o.op = .call { callee := .builtin .append, args := #[s, x], argTypes := #[t, tx] })
    (i : TypeInfo) (ht : P.underlying t = some (.slice 5)) (hi : P.info? 5 = some i) (hz : i.zero = some (.int .u8 0)) (h1 : i.size = 1) (hby : i.bytes = 1)
    (v : Value) (zs : List Int) (hs : a.eval s = v) (hown : Own w v zs) (xv : Value) (n : Nat) (news : List Int) (hx : a.eval x = xv) (hsrc : Src P 1 tx xv n (news.map (Value.int .u8)) w) (hb : zs.length + n ≤ 140737488355328)
    (h : ∀ v' w', Own w' v' (zs ++ news) → w.grownBy w' v.ownBlock → (∀ k, v'.ownBlock = some k → v.ownBlock = some k ∨ w.heap.size ≤ k) → K (a.put o.dst v') w') : o.wp P a w K Q := by
  obtain ⟨v', w', hr, h2, h3, h4⟩ := run_append_src (P := P) w t tx o.type i ht hi hz h1 hby v zs hown xv n news hsrc hb
  unfold Oper.wp execOp
  simp only [ho, resolve, invoke, builtin, Sem.run_bind, Sem.run_pure, Result.andThen_ok, List.map_toArray, List.map_cons, List.map_nil, hs, hx, hr]
  exact h v' w' h2 h3 h4
theorem wpList_append_src {P : Program} {w : World} {ops : Array Oper} {rest : List Oper} {o : Oper} {a : Act} {Q : Exit → Act → World → Prop} (hgd : o.guard = none) (s x : Operand) (t tx : TypeId) (ho : o.op = .call { callee := .builtin .append, args := #[s, x], argTypes := #[t, tx] })
    (i : TypeInfo) (ht : P.underlying t = some (.slice 5)) (hi : P.info? 5 = some i) (hz : i.zero = some (.int .u8 0)) (h1 : i.size = 1) (hby : i.bytes = 1)
    (v : Value) (zs : List Int) (hs : a.eval s = v) (hown : Own w v zs) (xv : Value) (n : Nat) (news : List Int) (hx : a.eval x = xv) (hsrc : Src P 1 tx xv n (news.map (Value.int .u8)) w) (hb : zs.length + n ≤ 140737488355328)
    (h : ∀ v' w', Own w' v' (zs ++ news) → w.grownBy w' v.ownBlock → (∀ k, v'.ownBlock = some k → v.ownBlock = some k ∨ w.heap.size ≤ k) → wpList P ops Q rest (a.put o.dst v') w') : wpList P ops Q (o :: rest) a w :=
  wpList_plain hgd fun _ hK => wp_append_src s x t tx ho i ht hi hz h1 hby v zs hs hown xv n news hx hsrc hb fun v' w' h2 h3 h4 => hK _ _ (h v' w' h2 h3 h4)
theorem step_append_src {P : Program} {ops : Array Oper} {w : World} {o : Oper} {a : Act} {K : Act → World → Prop} {Q : Exit → Act → World → Prop} {E : Prop} (hgd : o.guard = none) (s x : Operand) (t tx : TypeId) (ho : o.op = .call { callee := .builtin .append, args := #[s, x], argTypes := #[t, tx] })
    (i : TypeInfo) (ht : P.underlying t = some (.slice 5)) (hi : P.info? 5 = some i) (hz : i.zero = some (.int .u8 0)) (h1 : i.size = 1) (hby : i.bytes = 1)
    (v : Value) (zs : List Int) (hs : a.eval s = v) (hown : Own w v zs) (xv : Value) (n : Nat) (news : List Int) (hx : a.eval x = xv) (hsrc : Src P 1 tx xv n (news.map (Value.int .u8)) w) (hb : zs.length + n ≤ 140737488355328)
    (h : ∀ v' w', Own w' v' (zs ++ news) → w.grownBy w' v.ownBlock → (∀ k, v'.ownBlock = some k → v.ownBlock = some k ∨ w.heap.size ≤ k) → K (a.put o.dst v') w') :
    if Region.wanted o (yielded ops a.tmps) = true then Oper.wp P o a w K Q else E := by
  have hw : Region.wanted o (yielded ops a.tmps) = true := by simp [Region.wanted, hgd]
  rw [if_pos hw]
  exact wp_append_src s x t tx ho i ht hi hz h1 hby v zs hs hown xv n news hx hsrc hb h

/-- the blocks of the writer at p: its own cell, and its row. -/
def foot (w : World) (p k : Nat) : Prop := k = p ∨ ∃ v, w.heap[p]? = some (.cells #[v] 88 (0, 0)) ∧ v.ownBlock = some k
/-- the writer at p has written zs. -/
def Wr (w : World) (p : Nat) (zs : List Int) : Prop := ∃ v, w.heap[p]? = some (.cells #[v] 88 (0, 0)) ∧ Own w v zs ∧ v.ownBlock ≠ some p
/-- from w to w' nothing that was there has turned but the blocks of the writer at p. -/
structure Wrote (p : Nat) (w w' : World) : Prop where
  os : w'.os = w.os
  tape : w'.tape = w.tape
  output : w'.output = w.output
  size : w.heap.size ≤ w'.heap.size
  block : ∀ k, k < w.heap.size → ¬ foot w p k → w'.heap[k]? = w.heap[k]?
  foot : ∀ k, foot w' p k → foot w p k ∨ w.heap.size ≤ k

theorem Wr.lt {w : World} {p : Nat} {zs : List Int} (h : Wr w p zs) : p < w.heap.size := by obtain ⟨v, h, _⟩ := h; exact lt_of_block h
theorem Wr.foot_lt {w : World} {p k : Nat} {zs : List Int} (h : Wr w p zs) (hf : foot w p k) : k < w.heap.size := by
  rcases hf with rfl | ⟨v, h1, h2⟩
  · exact h.lt
  · obtain ⟨v', h3, h4, _⟩ := h
    have e : v' = v := by rw [h1] at h3; simpa using h3.symm
    subst e
    exact h4.lt h2
theorem Wrote.refl (p : Nat) (w : World) : Wrote p w w := ⟨rfl, rfl, rfl, Nat.le_refl _, fun _ _ _ => rfl, fun _ h => .inl h⟩
theorem Wrote.trans {p : Nat} {a b c : World} (h : Wrote p a b) (k : Wrote p b c) : Wrote p a c :=
  ⟨k.os.trans h.os, k.tape.trans h.tape, k.output.trans h.output, Nat.le_trans h.size k.size,
    fun i hi hn => (k.block i (Nat.lt_of_lt_of_le hi h.size) (fun hf => (h.foot i hf).elim hn (by omega))).trans (h.block i hi hn),
    fun i hf => (k.foot i hf).elim (h.foot i) (fun hs => .inr (Nat.le_trans h.size hs))⟩
theorem foot_same {w w' : World} {p k : Nat} (hb : w'.heap[p]? = w.heap[p]?) : foot w' p k ↔ foot w p k := by unfold foot; rw [hb]
theorem Wrote.of_below {p : Nat} {w w' : World} (hp : p < w.heap.size) (h : Below w.heap.size w w') : Wrote p w w' :=
  ⟨h.os, h.tape, h.output, h.size, fun k hk _ => h.block k hk, fun k hf => .inl ((foot_same (h.block p hp)).1 hf)⟩
theorem Wr.of_block {w w' : World} {p : Nat} {zs : List Int} (h : Wr w p zs) (hb : ∀ k, foot w p k → w'.heap[k]? = w.heap[k]?) : Wr w' p zs := by
  obtain ⟨v, h1, h2, h3⟩ := h
  exact ⟨v, (hb p (.inl rfl)).trans h1, h2.of_block (fun k hk => hb k (.inr ⟨v, h1, hk⟩)), h3⟩
theorem Wr.below {w w' : World} {p : Nat} {zs : List Int} (h : Wr w p zs) (hb : Below w.heap.size w w') : Wr w' p zs := h.of_block fun k hk => hb.block k (h.foot_lt hk)
/-- all blocks of the writer at p lie from B on. -/
def New (B : Nat) (w : World) (p : Nat) : Prop := ∀ k, foot w p k → B ≤ k
theorem New.wrote {B p : Nat} {w w' : World} (h : New B w p) (hw : Wrote p w w') (hB : B ≤ w.heap.size) : New B w' p := fun k hk => (hw.foot k hk).elim (h k) (fun hs => Nat.le_trans hB hs)
theorem New.below {B p : Nat} {w w' : World} (h : New B w p) (hp : p < w.heap.size) (hb : Below w.heap.size w w') : New B w' p := fun k hk => h k ((foot_same (hb.block p hp)).1 hk)
theorem Wrote.below {B p : Nat} {w w' : World} (h : Wrote p w w') (hn : New B w p) (hB : B ≤ w.heap.size) : Below B w w' :=
  ⟨h.os, h.tape, h.output, h.size, fun k hk => h.block k (by omega) (fun hf => by have := hn k hf; omega)⟩
theorem Below.wrote {B p : Nat} {w0 w w' : World} (hb : Below B w0 w) (h : Wrote p w w') (hn : New B w p) (hB : B ≤ w.heap.size) : Below B w0 w' := hb.trans (h.below hn hB)
theorem after_cell {w w0 w1 : World} {p : Nat} {v : Value} (hc : w.heap[p]? = some (.cells #[v] 88 (0, 0))) (hap : v.ownBlock ≠ some p) (h0 : Below w.heap.size w w0) (hg : w0.grownBy w1 v.ownBlock) :
    w1.cell? ⟨p, 0, none⟩ = some v ∧ w1.frozen? ⟨p, 0, none⟩ = false := by
  have hp : p < w.heap.size := lt_of_block hc
  have hc1 : w1.heap[p]? = some (.cells #[v] 88 (0, 0)) := (hg.block p (Nat.lt_of_lt_of_le hp h0.size) (fun e => hap e.symm)).trans ((h0.block p hp).trans hc)
  exact ⟨cell_of_one hc1, free_of_one hc1⟩
theorem below_alloc (w : World) (o : Obj) : Below w.heap.size w (w.alloc o) := (Below.refl _ _).alloc (Nat.le_refl _) o
/-- an append to the writer's row, stored into its cell. -/
theorem wrote_append {w w1 : World} {p : Nat} {v v' : Value} {ys : List Int} (hc : w.heap[p]? = some (.cells #[v] 88 (0, 0))) (hap : v.ownBlock ≠ some p) {w0 : World} (h0 : Below w.heap.size w w0)
    (hown : Own w1 v' ys) (hg : w0.grownBy w1 v.ownBlock) (hf : ∀ k, v'.ownBlock = some k → v.ownBlock = some k ∨ w0.heap.size ≤ k) :
    Wr (w1.setCell ⟨p, 0, none⟩ v') p ys ∧ Wrote p w (w1.setCell ⟨p, 0, none⟩ v') := by
  have hp : p < w.heap.size := lt_of_block hc
  have hp0 : p < w0.heap.size := Nat.lt_of_lt_of_le hp h0.size
  have hc1 : w1.heap[p]? = some (.cells #[v] 88 (0, 0)) := (hg.block p hp0 (fun e => hap e.symm)).trans ((h0.block p hp).trans hc)
  have hn : v'.ownBlock ≠ some p := fun e => (hf p e).elim hap (fun h => by omega)
  have hc2 := one_setCell (u := v') hc1
  refine ⟨⟨v', hc2, hown.of_block (fun k hk => Below.heap_setCell _ _ _ _ (fun e => hn (by rw [hk]; exact congrArg some e))), hn⟩, ⟨?_, ?_, ?_, ?_, ?_, ?_⟩⟩
  · exact hg.os.trans h0.os
  · exact hg.tape.trans h0.tape
  · exact hg.output.trans h0.output
  · have := h0.size; have := hg.size; simp [World.setCell]; omega
  · intro k hk hnf
    have hkp : k ≠ p := fun e => hnf (.inl e)
    rw [Below.heap_setCell _ _ _ _ hkp, hg.block k (Nat.lt_of_lt_of_le hk h0.size) (fun e => hnf (.inr ⟨v, hc, e.symm⟩)), h0.block k hk]
  · intro k hk
    rcases hk with rfl | ⟨u, h1, h2⟩
    · exact .inl (.inl rfl)
    · have e : u = v' := by rw [hc2] at h1; simpa using h1.symm
      subst e
      rcases hf k h2 with h | h
      · exact .inl (.inr ⟨v, hc, h⟩)
      · exact .inr (Nat.le_trans h0.size h)
end Go.Proofs.Ytobkmjkcbihfbaa
