/- Memory: bytes that lie in a row, a writer behind a pointer, what an append from any source makes of a row of the call's own, and what stays as it was. -/
import Derived.WalkKit
import Derived.ProofKit
import Derived.Below
import Derived.OneCell
import Derived.Deep.AppendSrc
import Derived.Laws.AppendOwn
import Derived.Test.YtegoeaofjnpehabChecked
import Derived.KernelRfl
import Derived.Handy
import Derived.LoopTactic
import Derived.Deep.RegionLaw
import Derived.Deep.QuietTactic
import Derived.BigQuiet
import Derived.WalkSmall
import Derived.Laws.RangeString
import Derived.Deep.RegionHeld3
namespace Go.Proofs.Ytegoeaofjnpehab
open Go.RowKit
set_option linter.unusedVariables false

theorem hide {p : Prop} (h : p) : Hid p := h
/-- a slice's first cells hold the bytes zs. -/
def Row (w : World) (a : Option Addr) (zs : List Int) : Prop :=
  zs = [] ∨ ∃ b off, a = some ⟨b, off, none⟩ ∧ b < w.heap.size ∧ ∀ i, i < zs.length → w.cell? ⟨b, off + i, none⟩ = some (.int .u8 (zs.getD i 0))
def Byts (zs : List Int) : Prop := ∀ c ∈ zs, 0 ≤ c ∧ c ≤ 255

theorem Row.below {w w' : World} {a : Option Addr} {zs : List Int} (h : Row w a zs) (hb : Below w.heap.size w w') : Row w' a zs := by
  rcases h with h | ⟨b, off, rfl, hlt, hc⟩
  · exact .inl h
  · exact .inr ⟨b, off, rfl, Nat.lt_of_lt_of_le hlt hb.size, fun i hi => (hb.cell (p := ⟨b, off + i, none⟩) hlt).trans (hc i hi)⟩
theorem Byts.at {zs : List Int} (h : Byts zs) (k : Nat) : 0 ≤ zs.getD k 0 ∧ zs.getD k 0 ≤ 255 := by
  by_cases hk : k < zs.length
  · rw [List.getD_eq_getElem?_getD, List.getElem?_eq_getElem hk]; exact h _ (List.getElem_mem hk)
  · rw [List.getD_eq_getElem?_getD, List.getElem?_eq_none (by omega)]; simp
theorem Byts.take {zs : List Int} (h : Byts zs) (k : Nat) : Byts (zs.take k) := fun c hc => h c (List.mem_of_mem_take hc)
theorem Byts.drop {zs : List Int} (h : Byts zs) (k : Nat) : Byts (zs.drop k) := fun c hc => h c (List.mem_of_mem_drop hc)
theorem Byts.append {zs ys : List Int} (h : Byts zs) (h' : Byts ys) : Byts (zs ++ ys) := fun c hc => (List.mem_append.1 hc).elim (h c) (h' c)
theorem take_snoc (zs : List Int) (k : Nat) (h : k < zs.length) : zs.take (k + 1) = zs.take k ++ [zs.getD k 0] := by
  rw [List.take_succ_eq_append_getElem h, List.getD_eq_getElem?_getD, List.getElem?_eq_getElem h]; rfl

/-- the bytes zs lie in a row of the call's own. -/
def Own (w : World) (v : Value) (zs : List Int) : Prop := w.ownsRow 0 5 1 v zs.length (zs.map (Value.int .u8))
theorem Own.nil (w : World) : Own w (.slice none 0 0) [] := World.ownsRow_nil w 0 5 1
theorem Own.shape {w : World} {v : Value} {zs : List Int} (h : Own w v zs) : ∃ a c, v = .slice a zs.length c ∧ zs.length ≤ c ∧ c ≤ maxLen ∧ (a = none → zs.length = 0 ∧ c = 0) ∧ Row w a zs ∧ ∀ k, (∃ ad, a = some ad ∧ ad.block = k) ↔ v.ownBlock = some k := by
  rcases h.2 with ⟨rfl, h0⟩ | ⟨g, cap, cur, rfl, _, hg, hn, hm, _⟩
  · refine ⟨none, 0, by rw [h0], by omega, by omega, fun _ => ⟨h0, rfl⟩, .inl (List.eq_nil_of_length_eq_zero h0), fun k => by simp [Value.ownBlock]⟩
  · refine ⟨_, cap, rfl, hn, hm, fun e => by (cases e), .inr ⟨g, 0, rfl, lt_of_block hg, fun i hi => ?_⟩, fun k => by simp [Value.ownBlock]⟩
    have := h.cells (g := g) rfl i (.int .u8 (zs.getD i 0)) (by simp [hi])
    rwa [Addr.add_lit] at this
theorem Own.shape2 {w : World} {v : Value} {zs : List Int} (h : Own w v zs) : ∃ a n c, v = .slice a n c ∧ Hid (n = zs.length) := by
  obtain ⟨a, c, rfl, _⟩ := h.shape
  exact ⟨a, _, c, rfl, hide rfl⟩
theorem Own.lt {w : World} {v : Value} {zs : List Int} (h : Own w v zs) {k : Nat} (hk : v.ownBlock = some k) : k < w.heap.size := (World.ownsRow.lt h k hk).2
theorem Own.of_block {w w' : World} {v : Value} {zs : List Int} (h : Own w v zs) (hb : ∀ k, v.ownBlock = some k → w'.heap[k]? = w.heap[k]?) : Own w' v zs := by
  obtain ⟨h1, h2⟩ := h
  refine ⟨h1, ?_⟩
  rcases h2 with h2 | ⟨g, cap, cur, rfl, hg, hh, r⟩
  · exact .inl h2
  · exact .inr ⟨g, cap, cur, rfl, hg, by rw [hb g rfl]; exact hh, r⟩

theorem run_append_src {P : Program} (w : World) (t tx ty : TypeId) (i : TypeInfo) (ht : P.underlying t = some (.slice 5)) (hi : P.info? 5 = some i) (hz : i.zero = some (.int .u8 0)) (h1 : i.size = 1) (hby : i.bytes = 1)
    (v : Value) (zs : List Int) (hown : Own w v zs) (x : Value) (n : Nat) (news : List Int) (hs : Src P 1 tx x n (news.map (Value.int .u8)) w) (hb : zs.length + n ≤ 140737488355328) :
    ∃ v' w', (Builtin.append_ #[t, tx] ty #[v, x]).run P w = .ok v' w' ∧ Own w' v' (zs ++ news) ∧ w.grownBy w' v.ownBlock ∧ ∀ k, v'.ownBlock = some k → v.ownBlock = some k ∨ w.heap.size ≤ k := by
  have hnl : news.length = n := by simpa using hs.newsLen
  have hlen : (zs ++ news).length = zs.length + n := by simp [hnl]
  have hs' : Src P i.size tx x n (news.map (Value.int .u8)) w := by rw [h1]; exact hs
  have hgrow : ∀ (old : Nat) (row : Option Nat), old < zs.length + n →
      Own (w.drew.alloc (.cells (((zs.map (Value.int .u8)) ++ (news.map (Value.int .u8))).toArray ++ Builtin.zeroCells (Value.int .u8 0).cells (grownCap w (zs.length + n) old 5 - (zs.length + n))) 5)) (.slice (some ⟨w.heap.size, 0, none⟩) (zs.length + n) (grownCap w (zs.length + n) old 5)) (zs ++ news) ∧
      w.grownBy (w.drew.alloc (.cells (((zs.map (Value.int .u8)) ++ (news.map (Value.int .u8))).toArray ++ Builtin.zeroCells (Value.int .u8 0).cells (grownCap w (zs.length + n) old 5 - (zs.length + n))) 5)) row := by
    intro old row ho
    have hge := grownCap_ge w (zs.length + n) old 5
    have hcm : grownCap w (zs.length + n) old 5 ≤ maxLen := grownCap_le_maxLen w _ old 5 (by unfold maxLen; omega)
    refine ⟨⟨by simp, .inr ⟨w.heap.size, _, _, by rw [hlen], Nat.zero_le _, heap_alloc_new w.drew _, by rw [hlen]; exact hge, hcm, ?_, ?_⟩⟩, ⟨rfl, rfl, rfl, by simp, fun k hk _ => Below.heap_alloc w.drew _ k hk⟩⟩
    · simp only [Array.size_append, List.size_toArray, size_zeroCells, List.length_append, List.length_map, hnl]
      simp [Value.cells]; omega
    · have e : (zs ++ news).length * 1 = ((zs.map (Value.int .u8)) ++ (news.map (Value.int .u8))).length := by simp
      rw [Array.toList_append, e, List.map_append]
      exact List.take_left
  rcases hown.2 with ⟨rfl, h0⟩ | ⟨g, cap, cur, rfl, hbg, hg, hnc, hcm, hcs, htake⟩
  · have hx : zs = [] := List.eq_nil_of_length_eq_zero h0
    subst hx
    by_cases hm : n = 0
    · subst hm
      have hn : news = [] := List.eq_nil_of_length_eq_zero hnl
      subst hn
      refine ⟨.slice none 0 0, w, ?_, Own.nil w, ⟨rfl, rfl, rfl, Nat.le_refl _, fun _ _ _ => rfl⟩, fun k hk => .inl hk⟩
      have hsl := hs'.len
      have hsc := hs'.cells
      rcases hs.kind with ⟨e', hk⟩ | hk <;> simp [Builtin.append_, run_underlying ht, run_underlying hk, sizeOf, typeInfo, hi, hsl, hsc]
    · have hr := run_append_grow_src (P := P) w t tx ty 5 i (.int .u8 0) ht hi hz none 0 0 [] (by simp [Builtin.firstCells]) x n _ hs' (by omega) (by omega) (growslice_fits (by omega) (by rw [hby]; simp only [List.length_nil] at hb; omega))
      have hgr := hgrow 0 (Value.ownBlock (.slice none 0 0)) (by simp; omega)
      simp only [List.length_nil, Nat.zero_add, List.map_nil, List.nil_append] at hgr hr ⊢
      exact ⟨_, _, hr, hgr.1, hgr.2, fun k hk => .inr (by simp [Value.ownBlock] at hk; omega)⟩
  · by_cases hroom : zs.length + n ≤ cap
    · have hfit : zs.length * 1 + (news.map (Value.int .u8)).length ≤ cur.size := by rw [List.length_map, hnl, hcs]; omega
      have hst := run_storeCells_at P g (zs.length * 1) 5 (news.map (Value.int .u8)) 0 cur w hg (by simpa using hfit) hs.one
      simp only [Nat.add_zero] at hst
      have hsl := hs.len
      have hsc := hs.cells
      refine ⟨.slice (some ⟨g, 0, none⟩) (zs.length + n) cap, w.setRow g (cur.toList.take (zs.length * 1) ++ news.map (Value.int .u8) ++ cur.toList.drop (zs.length * 1 + (news.map (Value.int .u8)).length)).toArray, ?_, ⟨by simp, .inr ⟨g, cap, _, by rw [hlen], hbg, setRow_heap w g cur _ 5 _ hg, by rw [hlen]; exact hroom, hcm, ?_, ?_⟩⟩, ⟨rfl, rfl, rfl, by simp, fun k _ hk => setRow_other w g k _ (fun e => hk (by simp [Value.ownBlock, e]))⟩, fun k hk => .inl (by simpa [Value.ownBlock] using hk)⟩
      · rcases hs.kind with ⟨e', hk⟩ | hk <;> simp [Builtin.append_, run_underlying ht, run_underlying hk, sizeOf, typeInfo, hi, h1, hsl, hroom, hsc, Addr.add_lit] <;> simp at hst <;> simp [hst]
      · simp only [List.size_toArray, List.length_append, List.length_take, List.length_drop, Array.length_toList, List.length_map] at hfit ⊢
        omega
      · have e : (zs ++ news).length * 1 = ((zs.map (Value.int .u8)) ++ (news.map (Value.int .u8))).length := by simp
        rw [htake, e, List.map_append]
        exact List.take_left
    · have holds : ∀ j u, (zs.map (Value.int .u8))[j]? = some u → w.drew.cell? ((⟨g, 0, none⟩ : Addr).add j) = some u := hown.cells (g := g) rfl
      have hr := run_append_grow_src (P := P) w t tx ty 5 i (.int .u8 0) ht hi hz (some ⟨g, 0, none⟩) zs.length cap (zs.map (Value.int .u8)) (run_firstCells_some w.drew i.size zs.length ⟨g, 0, none⟩ zs.length cap _ (by rw [h1]; simp) holds) x n _ hs' (by omega) (by omega) (growslice_fits (by omega) (by rw [hby]; omega))
      have hgr := hgrow cap (Value.ownBlock (.slice (some ⟨g, 0, none⟩) zs.length cap)) (by omega)
      exact ⟨_, _, hr, hgr.1, hgr.2, fun k hk => .inr (by simp [Value.ownBlock] at hk; omega)⟩

theorem wp_append_src {P : Program} {w : World} {o : Oper} {a : Act} {K : Act → World → Prop} {Q : Exit → Act → World → Prop} (s x : Operand) (t tx : TypeId) (ho : o.op = .call { callee := .builtin .append, args := #[s, x], argTypes := #[t, tx] })
    (i : TypeInfo) (ht : P.underlying t = some (.slice 5)) (hi : P.info? 5 = some i) (hz : i.zero = some (.int .u8 0)) (h1 : i.size = 1) (hby : i.bytes = 1)
    (v : Value) (zs : List Int) (hs : a.eval s = v) (hown : Own w v zs) (xv : Value) (n : Nat) (news : List Int) (hx : a.eval x = xv) (hsrc : Src P 1 tx xv n (news.map (Value.int .u8)) w) (hb : zs.length + n ≤ 140737488355328)
    (h : ∀ v' w', Own w' v' (zs ++ news) → w.grownBy w' v.ownBlock → (∀ k, v'.ownBlock = some k → v.ownBlock = some k ∨ w.heap.size ≤ k) → K (a.put o.dst v') w') : o.wp P a w K Q := by
  obtain ⟨v', w', hr, h2, h3, h4⟩ := run_append_src (P := P) w t tx o.type i ht hi hz h1 hby v zs hown xv n news hsrc hb
  unfold Oper.wp execOp
  simp only [ho, resolve, invoke, builtin, Sem.run_bind, Sem.run_pure, Result.andThen_ok, List.map_toArray, List.map_cons, List.map_nil, hs, hx, hr]
  exact h v' w' h2 h3 h4
theorem wpList_append_src {P : Program} {w : World} {ops : Array Oper} {rest : List Oper} {o : Oper} {a : Act} {Q : Exit → Act → World → Prop} (hgd : o.guard = none) (s x : Operand) (t tx : TypeId) (ho : o.op = .call { callee := .builtin .append, args := #[s, x], argTypes := #[t, tx] })
    (i : TypeInfo) (ht : P.underlying t = some (.slice 5)) (hi : P.info? 5 = some i) (hz : i.zero = some (.int .u8 0)) (h1 : i.size = 1) (hby : i.bytes = 1)
    (v : Value) (zs : List Int) (hs : a.eval s = v) (hown : Own w v zs) (xv : Value) (n : Nat) (news : List Int) (hx : a.eval x = xv) (hsrc : Src P 1 tx xv n (news.map (Value.int .u8)) w) (hb : zs.length + n ≤ 140737488355328)
    (h : ∀ v' w', Own w' v' (zs ++ news) → w.grownBy w' v.ownBlock → (∀ k, v'.ownBlock = some k → v.ownBlock = some k ∨ w.heap.size ≤ k) → wpList P ops Q rest (a.put o.dst v') w') : wpList P ops Q (o :: rest) a w :=
  wpList_plain hgd fun _ hK => wp_append_src s x t tx ho i ht hi hz h1 hby v zs hs hown xv n news hx hsrc hb fun v' w' h2 h3 h4 => hK _ _ (h v' w' h2 h3 h4)
theorem step_append_src {P : Program} {ops : Array Oper} {w : World} {o : Oper} {a : Act} {K : Act → World → Prop} {Q : Exit → Act → World → Prop} {E : Prop} (hgd : o.guard = none) (s x : Operand) (t tx : TypeId) (ho : o.op = .call { callee := .builtin .append, args := #[s, x], argTypes := #[t, tx] })
    (i : TypeInfo) (ht : P.underlying t = some (.slice 5)) (hi : P.info? 5 = some i) (hz : i.zero = some (.int .u8 0)) (h1 : i.size = 1) (hby : i.bytes = 1)
    (v : Value) (zs : List Int) (hs : a.eval s = v) (hown : Own w v zs) (xv : Value) (n : Nat) (news : List Int) (hx : a.eval x = xv) (hsrc : Src P 1 tx xv n (news.map (Value.int .u8)) w) (hb : zs.length + n ≤ 140737488355328)
    (h : ∀ v' w', Own w' v' (zs ++ news) → w.grownBy w' v.ownBlock → (∀ k, v'.ownBlock = some k → v.ownBlock = some k ∨ w.heap.size ≤ k) → K (a.put o.dst v') w') :
    if Region.wanted o (yielded ops a.tmps) = true then Oper.wp P o a w K Q else E := by
  have hw : Region.wanted o (yielded ops a.tmps) = true := by simp [Region.wanted, hgd]
  rw [if_pos hw]
  exact wp_append_src s x t tx ho i ht hi hz h1 hby v zs hs hown xv n news hx hsrc hb h

theorem below_alloc (w : World) (o : Obj) : Below w.heap.size w (w.alloc o) := (Below.refl _ _).alloc (Nat.le_refl _) o
/-- nothing below B has turned since w0. -/
structure Fr (B : Nat) (w0 w : World) : Prop where
  below : Below B w0 w
  size : B ≤ w.heap.size
theorem Fr.refl (w : World) : Fr w.heap.size w w := ⟨Below.refl _ _, Nat.le_refl _⟩
theorem Fr.on {B : Nat} {w0 w w' : World} (h : Fr B w0 w) (hb : Below w.heap.size w w') : Fr B w0 w' := ⟨h.below.trans (hb.mono h.size), Nat.le_trans h.size hb.size⟩
theorem Fr.alloc {B : Nat} {w0 w : World} (h : Fr B w0 w) (o : Obj) : Fr B w0 (w.alloc o) := h.on (below_alloc w o)
theorem Fr.drew {B : Nat} {w0 w : World} (h : Fr B w0 w) : Fr B w0 w.drew := h.on (Below.refl _ _).drew
theorem Fr.set {B : Nat} {w0 w : World} (h : Fr B w0 w) {b i : Nat} (hb : B ≤ b) (v : Value) : Fr B w0 (w.setCell ⟨b, i, none⟩ v) :=
  ⟨h.below.setCell (p := ⟨b, i, none⟩) hb v, by simpa [World.setCell] using h.size⟩
theorem Fr.grown {B : Nat} {w0 w w' : World} {r : Option Nat} (h : Fr B w0 w) (hg : w.grownBy w' r) (hr : ∀ k, r = some k → B ≤ k) : Fr B w0 w' :=
  ⟨h.below.grown hg h.size hr, Nat.le_trans h.size hg.size⟩
end Go.Proofs.Ytegoeaofjnpehab
/- Contracts of what a value has inside: of texts and of numbers. -/
namespace Go.Proofs.Ytegoeaofjnpehab
open Go.RowKit
set_option linter.unusedVariables false

/-- a text, a number, as values. -/
abbrev vT (t : ByteArray) : Value := .agg #[.int .u8 4, .bool false, .int .i64 0, .string t, .slice none 0 0, .slice none 0 0, .slice none 0 0]
abbrev vI (n : Int) : Value := .agg #[.int .u8 3, .bool false, .int .i64 n, .string ⟨#[]⟩, .slice none 0 0, .slice none 0 0, .slice none 0 0]

/-- an interface told apart. -/
theorem ta_yes104 (v : Value) (w : World) : (Instr.typeAssert (.iface 104 v) 87 104 true).run Try.prog w = .ok (.tuple #[v, .bool true]) w := by
  simp [Instr.typeAssert, run_underlying Try.underlying104]
theorem ta_no104 (t : TypeId) (h : t ≠ 104) (v : Value) (w : World) : (Instr.typeAssert (.iface t v) 87 104 true).run Try.prog w = .ok (.tuple #[.bool false, .bool false]) w := by
  simp [Instr.typeAssert, run_underlying Try.underlying104, h, Try.zeroValue104]
theorem ta_yes105 (v : Value) (w : World) : (Instr.typeAssert (.iface 105 v) 87 105 true).run Try.prog w = .ok (.tuple #[v, .bool true]) w := by
  simp [Instr.typeAssert, run_underlying Try.underlying105]
theorem ta_no105 (t : TypeId) (h : t ≠ 105) (v : Value) (w : World) : (Instr.typeAssert (.iface t v) 87 105 true).run Try.prog w = .ok (.tuple #[.int .i64 0, .bool false]) w := by
  simp [Instr.typeAssert, run_underlying Try.underlying105, h, Try.zeroValue105]
theorem ta_yes92 (v : Value) (w : World) : (Instr.typeAssert (.iface 90 v) 87 90 true).run Try.prog w = .ok (.tuple #[v, .bool true]) w := by
  simp [Instr.typeAssert, run_underlying Try.underlying90]
theorem ta_no92 (t : TypeId) (h : t ≠ 90) (v : Value) (w : World) : (Instr.typeAssert (.iface t v) 87 90 true).run Try.prog w = .ok (.tuple #[.string ⟨#[]⟩, .bool false]) w := by
  simp [Instr.typeAssert, run_underlying Try.underlying90, h, Try.zeroValue90]
theorem ta_yes95 (v : Value) (w : World) : (Instr.typeAssert (.iface 93 v) 87 93 true).run Try.prog w = .ok (.tuple #[v, .bool true]) w := by
  simp [Instr.typeAssert, run_underlying Try.underlying93]
theorem ta_no95 (t : TypeId) (h : t ≠ 93) (v : Value) (w : World) : (Instr.typeAssert (.iface t v) 87 93 true).run Try.prog w = .ok (.tuple #[.slice none 0 0, .bool false]) w := by
  simp [Instr.typeAssert, run_underlying Try.underlying93, h, Try.zeroValue93]
theorem ta_yes106 (v : Value) (w : World) : (Instr.typeAssert (.iface 106 v) 87 106 true).run Try.prog w = .ok (.tuple #[v, .bool true]) w := by
  simp [Instr.typeAssert, run_underlying Try.underlying106]
theorem ta_no106 (t : TypeId) (h : t ≠ 106) (v : Value) (w : World) : (Instr.typeAssert (.iface t v) 87 106 true).run Try.prog w = .ok (.tuple #[.slice none 0 0, .bool false]) w := by
  simp [Instr.typeAssert, run_underlying Try.underlying106, h, Try.zeroValue106]
theorem ta_yes96 (v : Value) (w : World) : (Instr.typeAssert (.iface 94 v) 87 94 true).run Try.prog w = .ok (.tuple #[v, .bool true]) w := by
  simp [Instr.typeAssert, run_underlying Try.underlying94]
theorem ta_no96 (t : TypeId) (h : t ≠ 94) (v : Value) (w : World) : (Instr.typeAssert (.iface t v) 87 94 true).run Try.prog w = .ok (.tuple #[.slice none 0 0, .bool false]) w := by
  simp [Instr.typeAssert, run_underlying Try.underlying94, h, Try.zeroValue94]
theorem ba_beq (t : ByteArray) : (t == t) = true := by
  cases t with | mk d => exact (beq_self_eq_true d)
set_option maxHeartbeats 800000 in
theorem insideT (t : ByteArray) (w : World) : Calls Try.prog 47 #[vT t] w fun e w' => e = .returned (.iface 90 (.string t)) ∧ Below w.heap.size w w' := by
  go_enter Try.func47, Try.ntmps47
  go_wp2
  go_ret
  exact ⟨rfl, (Below.refl _ _).alloc (Nat.le_refl _) _⟩

set_option maxHeartbeats 800000 in
theorem insideI (n : Int) (w : World) : Calls Try.prog 47 #[vI n] w fun e w' => e = .returned (.iface 105 (.int .i64 n)) ∧ Below w.heap.size w w' := by
  go_enter Try.func47, Try.ntmps47
  go_wp2
  go_ret
  exact ⟨rfl, (Below.refl _ _).alloc (Nat.le_refl _) _⟩
set_option maxHeartbeats 800000 in
set_option maxRecDepth 1000000 in
theorem outsideT (t : ByteArray) (w : World) : Calls Try.prog 49 #[.iface 90 (.string t)] w fun e w' => e = .returned (vT t) ∧ Below w.heap.size w w' := by
  have a0 := ta_no104 90 (by decide)
  have a1 := ta_no105 90 (by decide)
  have a2 := ta_yes92
  go_enter Try.func49, Try.ntmps49
  go_wp2
  refine bodyPost_ret (v := vT t) ?_ rfl ?_
  · simp [results, Try.results49, go_sem]
  · exact ⟨rfl, (Below.refl _ _).alloc (Nat.le_refl _) _⟩
set_option maxHeartbeats 800000 in
set_option maxRecDepth 1000000 in
theorem outsideI (n : Int) (w : World) : Calls Try.prog 49 #[.iface 105 (.int .i64 n)] w fun e w' => e = .returned (vI n) ∧ Below w.heap.size w w' := by
  have a0 := ta_no104 105 (by decide)
  have a1 := ta_yes105
  go_enter Try.func49, Try.ntmps49
  go_wp2
  refine bodyPost_ret (v := vI n) ?_ rfl ?_
  · simp [results, Try.results49, go_sem]
  · exact ⟨rfl, (Below.refl _ _).alloc (Nat.le_refl _) _⟩
set_option maxHeartbeats 800000 in
theorem alikeT (t : ByteArray) (w : World) : Calls Try.prog 48 #[vT t, vT t] w fun e w' => e = .returned (.bool true) ∧ Below w.heap.size w w' := by
  have hb := ba_beq t
  go_enter Try.func48, Try.ntmps48
  go_wp2
  go_ret
  exact ⟨rfl, ((Below.refl _ _).alloc (Nat.le_refl _) _).alloc (by simp) _⟩
set_option maxHeartbeats 800000 in
theorem alikeI (n : Int) (w : World) : Calls Try.prog 48 #[vI n, vI n] w fun e w' => e = .returned (.bool true) ∧ Below w.heap.size w w' := by
  have hb : (n == n) = true := by simp
  go_enter Try.func48, Try.ntmps48
  go_wp2
  go_ret
  exact ⟨rfl, ((Below.refl _ _).alloc (Nat.le_refl _) _).alloc (by simp) _⟩
set_option maxHeartbeats 800000 in
theorem torn_no (s : ByteArray) (r : Int) (w : World) (h : (r == 65533) = false) : Calls Try.prog 56 #[.string s, .int .i32 r] w fun e w' => e = .returned (.bool false) ∧ w' = w := by
  go_enter Try.func56, Try.ntmps56
  go_wp2
  go_ret
  exact ⟨rfl, rfl⟩
theorem below_iter (w : World) (s : ByteArray) (p : Nat) : Below w.heap.size w (w.iter s p) := (Below.refl _ _).alloc (Nat.le_refl _) _
set_option maxHeartbeats 800000 in
set_option maxRecDepth 1000000 in
theorem runes_a (w : World) : Calls Try.prog 50 #[.string ⟨#[97]⟩] w fun e w' => e = .returned (.tuple #[.int .i64 1, .bool true]) ∧ Below w.heap.size w w' := by
  have h0 : ∀ ty, (Instr.next (.pointer (some ⟨w.heap.size, 0, none⟩)) true ty).run Try.prog (w.iter ⟨#[97]⟩ 0) = _ := fun ty => run_next_ascii w ⟨#[97]⟩ 0 ty (by decide) (by decide)
  have h1 : ∀ ty, (Instr.next (.pointer (some ⟨w.heap.size, 0, none⟩)) true ty).run Try.prog (w.iter ⟨#[97]⟩ 1) = _ := fun ty => run_next_end w ⟨#[97]⟩ 1 ty (by decide)
  have e0 : ((ByteArray.mk #[97])[0]'(by decide)).toNat = 97 := rfl
  simp only [e0] at h0
  go_enter Try.func50, Try.ntmps50
  go_wp2
  go_loopw [4] (fun n w' => (w' = w.iter ⟨#[97]⟩ 0 ∧ n = .int .i64 0) ∨ (w' = w.iter ⟨#[97]⟩ 1 ∧ n = .int .i64 1)) (fun n w' => 1 - (intOf n).toNat)
  case atStart => exact .inl ⟨rfl, rfl⟩
  case round =>
    rcases hrel with ⟨rfl, rfl⟩ | ⟨rfl, rfl⟩
    · go_wp2_with fail
      refine (torn_no _ _ _ (by decide)).mono ?_
      rintro r w1 ⟨rfl, rfl⟩
      go_wp2
      go_roundw
      case rel => simp
      case measure => simp [intOf]
    · go_wp2
      go_ret2
      exact ⟨rfl, below_iter _ _ _⟩
end Go.Proofs.Ytegoeaofjnpehab
/- Contracts of looking at a value alone: a text of one letter, a number. -/
namespace Go.Proofs.Ytegoeaofjnpehab
open Go.RowKit
set_option linter.unusedVariables false

/-- a value's seven cells lie at b. -/
def Box7 (W : World) (b : Nat) (c0 c1 c2 c3 c4 c5 c6 : Value) : Prop := W.heap[b]? = some (.cells #[c0, c1, c2, c3, c4, c5, c6] 32 (0, 0))
section
variable {W W' : World} {b : Nat} {c0 c1 c2 c3 c4 c5 c6 : Value}
theorem Box7.lt (h : Box7 W b c0 c1 c2 c3 c4 c5 c6) : b < W.heap.size := lt_of_block h
theorem Box7.cells (h : Box7 W b c0 c1 c2 c3 c4 c5 c6) : W.cell? ⟨b, 0, none⟩ = some c0 ∧ W.cell? ⟨b, 1, none⟩ = some c1 ∧ W.cell? ⟨b, 2, none⟩ = some c2 ∧ W.cell? ⟨b, 3, none⟩ = some c3 ∧ W.cell? ⟨b, 4, none⟩ = some c4 ∧ W.cell? ⟨b, 5, none⟩ = some c5 ∧ W.cell? ⟨b, 6, none⟩ = some c6 := by
  unfold Box7 at h
  simp [World.cell?, h]
theorem Box7.free (h : Box7 W b c0 c1 c2 c3 c4 c5 c6) (i : Nat) : W.frozen? ⟨b, i, none⟩ = false := by
  unfold Box7 at h
  simp [World.frozen?, h]
theorem Box7.below (h : Box7 W b c0 c1 c2 c3 c4 c5 c6) (hb : Below W.heap.size W W') : Box7 W' b c0 c1 c2 c3 c4 c5 c6 := (hb.block b h.lt).trans h
theorem Box7.new (W : World) (c0 c1 c2 c3 c4 c5 c6 : Value) : Box7 (W.alloc (.cells #[c0, c1, c2, c3, c4, c5, c6] 32)) W.heap.size c0 c1 c2 c3 c4 c5 c6 := heap_alloc_new W _
end

set_option maxHeartbeats 1600000 in
set_option maxRecDepth 1000000 in
theorem fitsT (w : World) : Calls Try.prog 34 #[vT ⟨#[97]⟩] w fun e w' => e = .returned (.int .u16 0) ∧ Below w.heap.size w w' := by
  have a2 := ta_yes92
  have HX0 := hide ((Fr.refl w).alloc (.cells #[.int .u8 4, .bool false, .int .i64 0, .string ⟨#[97]⟩, .slice none 0 0, .slice none 0 0, .slice none 0 0] 32))
  have HB0 := hide (Box7.new w (.int .u8 4) (.bool false) (.int .i64 0) (.string ⟨#[97]⟩) (.slice none 0 0) (.slice none 0 0) (.slice none 0 0))
  go_enter Try.func34, Try.ntmps34
  go_wp2_with fail
  refine (insideT _ _).mono ?_
  rintro e w1 ⟨rfl, hb⟩
  have HB1 := hide (HB0.out.below hb)
  have HX1 := hide (HX0.out.on hb)
  clear hb HB0 HX0
  generalize hbw : w.heap.size = b at *
  have HBW := hide hbw
  clear hbw
  have HBd := hide (HB1.out.below (Below.refl _ _).drew)
  obtain ⟨k0, k1, k2, k3, k4, k5, k6⟩ := HB1.out.cells
  have HO := hide (outsideT ⟨#[97]⟩)
  have HA := hide (alikeT ⟨#[97]⟩)
  have HXd := hide HX1.out.drew
  go_wp2
  go_region_held3 (fun W => W.cell? ⟨b, 0, none⟩ = some (.int .u8 4) ∧ W.cell? ⟨b, 1, none⟩ = some (.bool false) ∧ W.cell? ⟨b, 2, none⟩ = some (.int .i64 0) ∧ W.cell? ⟨b, 3, none⟩ = some (.string ⟨#[97]⟩) ∧ W.cell? ⟨b, 4, none⟩ = some (.slice none 0 0) ∧ W.cell? ⟨b, 5, none⟩ = some (.slice none 0 0) ∧ W.cell? ⟨b, 6, none⟩ = some (.slice none 0 0)) ((refine ⟨?_, ?_, ?_, ?_, ?_, ?_, ?_⟩ <;> assumption)) ((first | (go_at_call 49; refine (HO.out _).mono ?_; intro r' V1 hh; obtain ⟨rfl, hb1⟩ := hh; have HB2 := hide (HBd.out.below hb1); have HX2 := hide (HXd.out.on hb1); obtain ⟨q0, q1, q2, q3, q4, q5, q6⟩ := HB2.out.cells; clear hb1) | (go_at_call 48; refine (HA.out _).mono ?_; intro r' V2 hh; obtain ⟨rfl, hb2⟩ := hh; have HB3 := hide (HB2.out.below hb2); have HX3 := hide (HX2.out.on hb2); obtain ⟨p0, p1, p2, p3, p4, p5, p6⟩ := HB3.out.cells; clear hb2)))
  clear k0 k1 k2 k3 k4 k5 k6 q0 q1 q2 q3 q4 q5 q6
  go_wp2_with fail
  refine (runes_a _).mono ?_
  rintro e w3 ⟨rfl, hb3⟩
  go_wp2
  go_ret
  exact ⟨rfl, by rw [HBW.out]; exact (HX3.out.on hb3).below⟩
set_option maxHeartbeats 1600000 in
set_option maxRecDepth 1000000 in
theorem fitsI (n : Int) (w : World) : Calls Try.prog 34 #[vI n] w fun e w' => e = .returned (.int .u16 0) ∧ Below w.heap.size w w' := by
  have a2 := ta_no92 105 (by decide)
  have a3 := ta_no95 105 (by decide)
  have a4 := ta_no96 105 (by decide)
  have HX0 := hide ((Fr.refl w).alloc (.cells #[.int .u8 3, .bool false, .int .i64 n, .string ⟨#[]⟩, .slice none 0 0, .slice none 0 0, .slice none 0 0] 32))
  have HB0 := hide (Box7.new w (.int .u8 3) (.bool false) (.int .i64 n) (.string ⟨#[]⟩) (.slice none 0 0) (.slice none 0 0) (.slice none 0 0))
  go_enter Try.func34, Try.ntmps34
  go_wp2_with fail
  refine (insideI _ _).mono ?_
  rintro e w1 ⟨rfl, hb⟩
  have HB1 := hide (HB0.out.below hb)
  have HX1 := hide (HX0.out.on hb)
  clear hb HB0 HX0
  generalize hbw : w.heap.size = b at *
  have HBW := hide hbw
  clear hbw
  have HBd := hide (HB1.out.below (Below.refl _ _).drew)
  obtain ⟨k0, k1, k2, k3, k4, k5, k6⟩ := HB1.out.cells
  have HO := hide (outsideI n)
  have HA := hide (alikeI n)
  have HXd := hide HX1.out.drew
  go_wp2
  go_region_held3 (fun W => W.cell? ⟨b, 0, none⟩ = some (.int .u8 3) ∧ W.cell? ⟨b, 1, none⟩ = some (.bool false) ∧ W.cell? ⟨b, 2, none⟩ = some (.int .i64 n) ∧ W.cell? ⟨b, 3, none⟩ = some (.string ⟨#[]⟩) ∧ W.cell? ⟨b, 4, none⟩ = some (.slice none 0 0) ∧ W.cell? ⟨b, 5, none⟩ = some (.slice none 0 0) ∧ W.cell? ⟨b, 6, none⟩ = some (.slice none 0 0)) ((refine ⟨?_, ?_, ?_, ?_, ?_, ?_, ?_⟩ <;> assumption)) ((first | (go_at_call 49; refine (HO.out _).mono ?_; intro r' V1 hh; obtain ⟨rfl, hb1⟩ := hh; have HB2 := hide (HBd.out.below hb1); have HX2 := hide (HXd.out.on hb1); obtain ⟨q0, q1, q2, q3, q4, q5, q6⟩ := HB2.out.cells; clear hb1) | (go_at_call 48; refine (HA.out _).mono ?_; intro r' V2 hh; obtain ⟨rfl, hb2⟩ := hh; have HB3 := hide (HB2.out.below hb2); have HX3 := hide (HX2.out.on hb2); obtain ⟨p0, p1, p2, p3, p4, p5, p6⟩ := HB3.out.cells; clear hb2)))
  clear k0 k1 k2 k3 k4 k5 k6 q0 q1 q2 q3 q4 q5 q6
  go_wp2
  go_ret
  exact ⟨rfl, by rw [HBW.out]; exact HX3.out.below⟩
end Go.Proofs.Ytegoeaofjnpehab
/- Values as trees, and how they lie in memory. -/
namespace Go.Proofs.Ytegoeaofjnpehab
open Go.RowKit
set_option linter.unusedVariables false

mutual
/-- a value: its kind, whether, its number, its text, its bytes, its values, its fields; each list with its address and its room. -/
inductive T where
  | mk (k : Int) (bo : Bool) (n : Int) (t : ByteArray) (ya : Option Addr) (yc : Nat) (y : List Int) (la : Option Addr) (lc : Nat) (l : TL) (fa : Option Addr) (fc : Nat) (f : FL)
inductive TL where
  | nil
  | cons (v : T) (r : TL)
inductive FL where
  | nil
  | cons (s : ByteArray) (v : T) (r : FL)
end
def TL.list : TL → List T
  | .nil => []
  | .cons v r => v :: r.list
def FL.list : FL → List (ByteArray × T)
  | .nil => []
  | .cons s v r => (s, v) :: r.list
def T.cells : T → List Value
  | .mk k bo n t ya yc y la lc l fa fc f => [.int .u8 k, .bool bo, .int .i64 n, .string t, .slice ya y.length yc, .slice la l.list.length lc, .slice fa f.list.length fc]
def T.val : T → Value
  | .mk k bo n t ya yc y la lc l fa fc f => .agg #[.int .u8 k, .bool bo, .int .i64 n, .string t, .slice ya y.length yc, .slice la l.list.length lc, .slice fa f.list.length fc]
/-- the values right below. -/
def T.kids : T → List T
  | .mk _ _ _ _ _ _ _ _ _ l _ _ f => l.list ++ f.list.map (·.2)
mutual
def T.sz : T → Nat
  | .mk _ _ _ _ _ _ _ _ _ l _ _ f => 1 + l.sz + f.sz
def TL.sz : TL → Nat
  | .nil => 0
  | .cons v r => v.sz + r.sz
def FL.sz : FL → Nat
  | .nil => 0
  | .cons _ v r => v.sz + r.sz
end
theorem TL.sz_mem (l : TL) : ∀ c ∈ l.list, c.sz ≤ l.sz := by
  intro c hc
  match l with
  | .nil => simp [TL.list] at hc
  | .cons v r =>
    simp only [TL.list, List.mem_cons] at hc
    rcases hc with rfl | hc
    · simp [TL.sz]
    · have := TL.sz_mem r c hc
      simp only [TL.sz]
      omega
theorem FL.sz_mem (l : FL) : ∀ c ∈ l.list, c.2.sz ≤ l.sz := by
  intro c hc
  match l with
  | .nil => simp [FL.list] at hc
  | .cons s v r =>
    simp only [FL.list, List.mem_cons] at hc
    rcases hc with rfl | hc
    · simp [FL.sz]
    · have := FL.sz_mem r c hc
      simp only [FL.sz]
      omega
theorem T.kid_sz (v c : T) (h : c ∈ v.kids) : c.sz < v.sz := by
  cases v with
  | mk k bo n t ya yc y la lc l fa fc f =>
    simp only [T.kids, List.mem_append, List.mem_map] at h
    simp only [T.sz]
    rcases h with h | ⟨x, h, rfl⟩
    · have := TL.sz_mem l c h; omega
    · have := FL.sz_mem f x h; omega
mutual
/-- the value and all below it, with their depths. -/
def T.flat (d : Int) : T → List (Int × T)
  | .mk k bo n t ya yc y la lc l fa fc f => (d, .mk k bo n t ya yc y la lc l fa fc f) :: (l.flat (d + 1) ++ f.flat (d + 1))
def TL.flat (d : Int) : TL → List (Int × T)
  | .nil => []
  | .cons v r => v.flat d ++ r.flat d
def FL.flat (d : Int) : FL → List (Int × T)
  | .nil => []
  | .cons _ v r => v.flat d ++ r.flat d
end
theorem TL.flat_is (d : Int) (l : TL) : l.flat d = l.list.flatMap (fun c => c.flat d) := by
  match l with
  | .nil => simp [TL.flat, TL.list]
  | .cons v r => simp [TL.flat, TL.list, TL.flat_is d r]
theorem FL.flat_is (d : Int) (l : FL) : l.flat d = (l.list.map (·.2)).flatMap (fun c => c.flat d) := by
  match l with
  | .nil => simp [FL.flat, FL.list]
  | .cons s v r => simp [FL.flat, FL.list, FL.flat_is d r]
theorem T.flat_is (d : Int) (v : T) : v.flat d = (d, v) :: v.kids.flatMap (fun c => c.flat (d + 1)) := by
  cases v with
  | mk k bo n t ya yc y la lc l fa fc f => simp only [T.flat, T.kids, TL.flat_is, FL.flat_is, List.flatMap_append]

/-- a row that lies below n₀. -/
def RowN (n₀ : Nat) (W : World) (a : Option Addr) (zs : List Int) : Prop :=
  zs = [] ∨ ∃ b off, a = some ⟨b, off, none⟩ ∧ b < n₀ ∧ ∀ i, i < zs.length → W.cell? ⟨b, off + i, none⟩ = some (.int .u8 (zs.getD i 0))
mutual
/-- the value's lists lie below n₀, with all that is in them. -/
def T.Mem (n₀ : Nat) (W : World) : T → Prop
  | .mk k bo n t ya yc y la lc l fa fc f => RowN n₀ W ya y ∧ Byts y ∧ (ya = none → y = [] ∧ yc = 0) ∧ y.length ≤ 9223372036854775807 ∧ l.Mem n₀ W la 0 ∧ (la = none → l.list = [] ∧ lc = 0) ∧ l.list.length ≤ 9223372036854775807 ∧ f.Mem n₀ W fa 0 ∧ (fa = none → f.list = [] ∧ fc = 0) ∧ f.list.length ≤ 9223372036854775807
def TL.Mem (n₀ : Nat) (W : World) (a : Option Addr) (i : Nat) : TL → Prop
  | .nil => True
  | .cons v r => (∃ b o, a = some ⟨b, o, none⟩ ∧ b < n₀ ∧ ∀ j u, v.cells[j]? = some u → W.cell? ⟨b, o + i * 7 + j, none⟩ = some u) ∧ v.Mem n₀ W ∧ r.Mem n₀ W a (i + 1)
def FL.Mem (n₀ : Nat) (W : World) (a : Option Addr) (i : Nat) : FL → Prop
  | .nil => True
  | .cons s v r => (∃ b o, a = some ⟨b, o, none⟩ ∧ b < n₀ ∧ W.cell? ⟨b, o + i * 8, none⟩ = some (.string s) ∧ ∀ j u, v.cells[j]? = some u → W.cell? ⟨b, o + i * 8 + 1 + j, none⟩ = some u) ∧ v.Mem n₀ W ∧ r.Mem n₀ W a (i + 1)
end
theorem RowN.on {n₀ : Nat} {A B : World} (hb : Below n₀ A B) {a : Option Addr} {zs : List Int} (h : RowN n₀ A a zs) : RowN n₀ B a zs := by
  rcases h with h | ⟨b, o, rfl, hlt, hc⟩
  · exact .inl h
  · exact .inr ⟨b, o, rfl, hlt, fun i hi => (hb.cell (p := ⟨b, o + i, none⟩) hlt).trans (hc i hi)⟩
mutual
theorem T.Mem.on {n₀ : Nat} {A B : World} (hb : Below n₀ A B) : ∀ {v : T}, v.Mem n₀ A → v.Mem n₀ B
  | .mk k bo n t ya yc y la lc l fa fc f, ⟨h1, h2, h3, h4, h5, h6, h7, h8, h9, h10⟩ => ⟨h1.on hb, h2, h3, h4, TL.Mem.on hb h5, h6, h7, FL.Mem.on hb h8, h9, h10⟩
theorem TL.Mem.on {n₀ : Nat} {A B : World} (hb : Below n₀ A B) {a : Option Addr} : ∀ {i : Nat} {l : TL}, l.Mem n₀ A a i → l.Mem n₀ B a i
  | _, .nil, _ => trivial
  | i, .cons v r, ⟨⟨b, o, h1, h2, h3⟩, h4, h5⟩ => ⟨⟨b, o, h1, h2, fun j u hu => (hb.cell (p := ⟨b, o + i * 7 + j, none⟩) h2).trans (h3 j u hu)⟩, T.Mem.on hb h4, TL.Mem.on hb h5⟩
theorem FL.Mem.on {n₀ : Nat} {A B : World} (hb : Below n₀ A B) {a : Option Addr} : ∀ {i : Nat} {l : FL}, l.Mem n₀ A a i → l.Mem n₀ B a i
  | _, .nil, _ => trivial
  | i, .cons s v r, ⟨⟨b, o, h1, h2, h6, h3⟩, h4, h5⟩ => ⟨⟨b, o, h1, h2, (hb.cell (p := ⟨b, o + i * 8, none⟩) h2).trans h6, fun j u hu => (hb.cell (p := ⟨b, o + i * 8 + 1 + j, none⟩) h2).trans (h3 j u hu)⟩, T.Mem.on hb h4, FL.Mem.on hb h5⟩
end
theorem TL.Mem.at {n₀ : Nat} {W : World} {a : Option Addr} : ∀ (l : TL) (i : Nat), l.Mem n₀ W a i → ∀ (j : Nat) (c : T), l.list[j]? = some c →
    (∃ b o, a = some ⟨b, o, none⟩ ∧ b < n₀ ∧ ∀ x u, c.cells[x]? = some u → W.cell? ⟨b, o + (i + j) * 7 + x, none⟩ = some u) ∧ c.Mem n₀ W
  | .nil, _, _, j, c, h => by simp [TL.list] at h
  | .cons v r, i, ⟨h1, h2, h3⟩, 0, c, h => by
    simp [TL.list] at h
    subst h
    exact ⟨h1, h2⟩
  | .cons v r, i, ⟨h1, h2, h3⟩, j + 1, c, h => by
    simp only [TL.list, List.getElem?_cons_succ] at h
    have := TL.Mem.at r (i + 1) h3 j c h
    rwa [show i + 1 + j = i + (j + 1) by omega] at this
theorem FL.Mem.at {n₀ : Nat} {W : World} {a : Option Addr} : ∀ (l : FL) (i : Nat), l.Mem n₀ W a i → ∀ (j : Nat) (c : ByteArray × T), l.list[j]? = some c →
    (∃ b o, a = some ⟨b, o, none⟩ ∧ b < n₀ ∧ W.cell? ⟨b, o + (i + j) * 8, none⟩ = some (.string c.1) ∧ ∀ x u, c.2.cells[x]? = some u → W.cell? ⟨b, o + (i + j) * 8 + 1 + x, none⟩ = some u) ∧ c.2.Mem n₀ W
  | .nil, _, _, j, c, h => by simp [FL.list] at h
  | .cons s v r, i, ⟨h1, h2, h3⟩, 0, c, h => by
    simp [FL.list] at h
    subst h
    exact ⟨h1, h2⟩
  | .cons s v r, i, ⟨h1, h2, h3⟩, j + 1, c, h => by
    simp only [FL.list, List.getElem?_cons_succ] at h
    have := FL.Mem.at r (i + 1) h3 j c h
    rwa [show i + 1 + j = i + (j + 1) by omega] at this
theorem T.Mem.kid {n₀ : Nat} {W : World} {v c : T} (h : v.Mem n₀ W) (hc : c ∈ v.kids) : c.Mem n₀ W := by
  cases v with
  | mk k bo n t ya yc y la lc l fa fc f =>
    obtain ⟨h1, h2, h3, h4, h5, h6, h7, h8, h9, h10⟩ := h
    simp only [T.kids, List.mem_append, List.mem_map] at hc
    rcases hc with hc | ⟨x, hc, rfl⟩
    · obtain ⟨j, hj, rfl⟩ := List.mem_iff_getElem.1 hc
      exact (TL.Mem.at l 0 h5 j _ (List.getElem?_eq_getElem hj)).2
    · obtain ⟨j, hj, rfl⟩ := List.mem_iff_getElem.1 hc
      exact (FL.Mem.at f 0 h8 j _ (List.getElem?_eq_getElem hj)).2
theorem split_list {α : Type} (l : List α) (j : Nat) (c : α) (h : l[j]? = some c) : l = l.take j ++ c :: l.drop (j + 1) := by
  obtain ⟨hj, rfl⟩ := List.getElem?_eq_some_iff.1 h
  conv => lhs; rw [← List.take_append_drop j l, List.drop_eq_getElem_cons hj]
theorem take_next {α : Type} (l : List α) (j : Nat) (c : α) (h : l[j]? = some c) : l.take (j + 1) = l.take j ++ [c] := by
  obtain ⟨hj, rfl⟩ := List.getElem?_eq_some_iff.1 h
  exact List.take_succ_eq_append_getElem hj
/-- the seven cells of a child in a list, of a field's value, the name ahead. -/
theorem TL.Mem.cells {n₀ : Nat} {W : World} {a : Option Addr} {l : TL} (h : l.Mem n₀ W a 0) {j : Nat} {k : Int} {bo : Bool} {n : Int} {t : ByteArray} {ya : Option Addr} {yc : Nat} {y : List Int} {la : Option Addr} {lc : Nat} {ls : TL} {fa : Option Addr} {fc : Nat} {fs : FL} (hc : l.list[j]? = some (.mk k bo n t ya yc y la lc ls fa fc fs)) :
    ∃ b o, a = some ⟨b, o, none⟩ ∧ b < n₀ ∧ W.cell? ⟨b, o + j * 7, none⟩ = some (.int .u8 k) ∧ W.cell? ⟨b, o + j * 7 + 1, none⟩ = some (.bool bo) ∧ W.cell? ⟨b, o + j * 7 + 2, none⟩ = some (.int .i64 n) ∧ W.cell? ⟨b, o + j * 7 + 3, none⟩ = some (.string t) ∧ W.cell? ⟨b, o + j * 7 + 4, none⟩ = some (.slice ya y.length yc) ∧ W.cell? ⟨b, o + j * 7 + 5, none⟩ = some (.slice la ls.list.length lc) ∧ W.cell? ⟨b, o + j * 7 + 6, none⟩ = some (.slice fa fs.list.length fc) := by
  obtain ⟨⟨b, o, h1, h2, h3⟩, _⟩ := TL.Mem.at l 0 h j _ hc
  rw [Nat.zero_add] at h3
  exact ⟨b, o, h1, h2, h3 0 _ rfl, h3 1 _ rfl, h3 2 _ rfl, h3 3 _ rfl, h3 4 _ rfl, h3 5 _ rfl, h3 6 _ rfl⟩
theorem FL.Mem.cells {n₀ : Nat} {W : World} {a : Option Addr} {l : FL} (h : l.Mem n₀ W a 0) {j : Nat} {s : ByteArray} {k : Int} {bo : Bool} {n : Int} {t : ByteArray} {ya : Option Addr} {yc : Nat} {y : List Int} {la : Option Addr} {lc : Nat} {ls : TL} {fa : Option Addr} {fc : Nat} {fs : FL} (hc : l.list[j]? = some (s, .mk k bo n t ya yc y la lc ls fa fc fs)) :
    ∃ b o, a = some ⟨b, o, none⟩ ∧ b < n₀ ∧ W.cell? ⟨b, o + j * 8, none⟩ = some (.string s) ∧ W.cell? ⟨b, o + j * 8 + 1, none⟩ = some (.int .u8 k) ∧ W.cell? ⟨b, o + j * 8 + 2, none⟩ = some (.bool bo) ∧ W.cell? ⟨b, o + j * 8 + 3, none⟩ = some (.int .i64 n) ∧ W.cell? ⟨b, o + j * 8 + 4, none⟩ = some (.string t) ∧ W.cell? ⟨b, o + j * 8 + 5, none⟩ = some (.slice ya y.length yc) ∧ W.cell? ⟨b, o + j * 8 + 6, none⟩ = some (.slice la ls.list.length lc) ∧ W.cell? ⟨b, o + j * 8 + 7, none⟩ = some (.slice fa fs.list.length fc) := by
  obtain ⟨⟨b, o, h1, h2, h4, h3⟩, _⟩ := FL.Mem.at l 0 h j _ hc
  rw [Nat.zero_add] at h3 h4
  exact ⟨b, o, h1, h2, h4, h3 0 _ rfl, h3 1 _ rfl, h3 2 _ rfl, h3 3 _ rfl, h3 4 _ rfl, h3 5 _ rfl, h3 6 _ rfl⟩
end Go.Proofs.Ytegoeaofjnpehab
