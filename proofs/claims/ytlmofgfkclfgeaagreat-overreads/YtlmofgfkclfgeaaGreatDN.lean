/- What is kept of the cache becomes lasting. -/
import Derived.Test.YtlmofgfkclfgeaaGreatPC
import Derived.Deep.RegionHeld3
namespace Go.Proofs.YtlmofgfkclfgeaaGreat
open Go.RowKit Go.Maps
set_option linter.unusedVariables false

/-- a slice's first cells hold these bools. -/
def BRow (w : World) (a : Option Addr) (bs : List Bool) : Prop :=
  bs = [] ∨ ∃ b off, a = some ⟨b, off, none⟩ ∧ b < w.heap.size ∧ ∀ i, i < bs.length → w.cell? ⟨b, off + i, none⟩ = some (.bool (bs.getD i false))
theorem BRow.below {w w' : World} {a : Option Addr} {bs : List Bool} {B : Nat} (h : BRow w a bs) (hb : Below B w w') (hB : bs ≠ [] → ∀ ad, a = some ad → ad.block < B) : BRow w' a bs := by
  by_cases h0 : bs = []
  · exact .inl h0
  rcases h with h | ⟨b, off, rfl, hlt, hc⟩
  · exact .inl h
  · exact .inr ⟨b, off, rfl, Nat.lt_of_lt_of_le hlt hb.size, fun i hi => (hb.cell (p := ⟨b, off + i, none⟩) (hB h0 ⟨b, off, none⟩ rfl)).trans (hc i hi)⟩
theorem BRow.mv {O : Nat → Prop} {w w' : World} {a : Option Addr} {bs : List Bool} (h : BRow w a bs) (hm : Mv O w w') (ho : bs ≠ [] → ∀ ad, a = some ad → ¬ O ad.block) : BRow w' a bs := by
  by_cases h0 : bs = []
  · exact .inl h0
  rcases h with h | ⟨b, off, rfl, hlt, hc⟩
  · exact .inl h
  · exact .inr ⟨b, off, rfl, Nat.lt_of_lt_of_le hlt hm.size, fun i hi => hm.cell (hc i hi) (ho h0 _ rfl)⟩

/-- is the k-th kept? -/
def kp (bs : List Bool) (k : Nat) : Bool := bs.getD k false
/-- the lasting sectors behind the first k writes, of those that are kept. -/
def settled (ls : List (List Int)) (ws : List (Nat × List Int)) (f : Nat → Bool) : Nat → List (List Int)
  | 0 => ls
  | k + 1 => if f k then (settled ls ws f k).set (ws.getD k (0, [])).1 (ws.getD k (0, [])).2 else settled ls ws f k
theorem settled_len (ls : List (List Int)) (ws : List (Nat × List Int)) (f : Nat → Bool) : ∀ k, (settled ls ws f k).length = ls.length
  | 0 => rfl
  | k + 1 => by rw [settled]; split <;> simp [settled_len ls ws f k]
theorem settled_good (ls : List (List Int)) (ws : List (Nat × List Int)) (f : Nat → Bool) (h1 : ∀ s ∈ ls, s.length = 128 ∧ Byts s) (h2 : ∀ x ∈ ws, x.2.length = 128 ∧ Byts x.2) : ∀ k, k ≤ ws.length → ∀ s ∈ settled ls ws f k, s.length = 128 ∧ Byts s
  | 0, _ => h1
  | k + 1, hk => by
    intro s hs
    rw [settled] at hs
    split at hs
    · rcases List.mem_or_eq_of_mem_set hs with hs | rfl
      · exact settled_good ls ws f h1 h2 k (by omega) s hs
      · refine h2 (ws.getD k (0, [])) ?_
        rw [List.getD_eq_getElem?_getD, List.getElem?_eq_getElem (by omega)]
        exact List.getElem_mem _
    · exact settled_good ls ws f h1 h2 k (by omega) s hs
theorem run_storeVar_at (w : World) (g o : Nat) (ty t : TypeId) (cur : Array Value) (cells : List Value) (hg : w.heap[g]? = some (.cells cur t (0, 0))) (hi : (Tryz.prog.info? ty).map (·.size) = some cells.length) (hfit : o + cells.length ≤ cur.size) (h1 : ∀ v ∈ cells, v.oneCell' = true) :
    (storeVar ty ⟨g, o, none⟩ (.agg cells.toArray)).run Tryz.prog w = .ok () (w.setRow g (cur.toList.take o ++ cells ++ cur.toList.drop (o + cells.length)).toArray) := by
  have := run_storeCells_at Tryz.prog g o t cells 0 cur w hg (by simpa using hfit) h1
  cases hq : Tryz.prog.info? ty with
  | none => simp [hq] at hi
  | some i =>
    have hs : i.size = cells.length := by simpa [hq] using hi
    simp only [Nat.add_zero] at this
    simp [storeVar, sizeOf, typeInfo, hq, Value.cells, hs, this]
theorem wp_store_at {op : Oper} {a : Act} {w : World} {K : Act → World → Prop} {Q : Exit → Act → World → Prop} (ty : TypeId) (x y : Operand) (ho : op.op = .store ty x y)
    (g o : Nat) (cells : List Value) (hx : a.eval x = .pointer (some ⟨g, o, none⟩)) (hy : a.eval y = .agg cells.toArray) (t : TypeId) (cur : Array Value)
    (hg : w.heap[g]? = some (.cells cur t (0, 0))) (hi : (Tryz.prog.info? ty).map (·.size) = some cells.length) (hfit : o + cells.length ≤ cur.size) (h1 : ∀ v ∈ cells, v.oneCell' = true)
    (h : K (a.put op.dst undef) (w.setRow g (cur.toList.take o ++ cells ++ cur.toList.drop (o + cells.length)).toArray)) : op.wp Tryz.prog a w K Q := by
  unfold Oper.wp execOp
  simp only [ho, hx, hy, Instr.storeAt, Instr.sureAddr, Sem.run_bind, Sem.run_pure, Result.andThen_ok, run_storeVar_at w g o ty t cur cells hg hi hfit h1]
  exact h
theorem zero117 : ∀ w, (zeroValue 241).run Tryz.prog w = .ok (.agg z117) w := (zero_of_info (P := Tryz.prog) (t := 241) (v := .agg z117) (n := 129) (by kernel_rfl)).1
end Go.Proofs.YtlmofgfkclfgeaaGreat
/- The cache is settled. -/
namespace Go.Proofs.YtlmofgfkclfgeaaGreat
open Go.RowKit Go.Maps
set_option linter.unusedVariables false

def yes (_ : Nat) : Bool := true
/-- lasting sectors in the place of others. -/
def DS.las (S : DS) (L : List (List Int)) : DS := { S with ls := L }
def DS.set (S : DS) (f : Nat → Bool) : DS := { S with ls := settled S.ls S.ws f S.ws.length, ws := [] }
theorem DS.Good.las {S : DS} (h : S.Good) {L : List (List Int)} (hl : L.length = S.ls.length) (hL : ∀ s ∈ L, s.length = 128 ∧ Byts s) : (S.las L).Good :=
  ⟨hL, fun x hx => by show x.1 < L.length ∧ _; rw [hl]; exact h.ws x hx, by show L.length ≤ _; rw [hl]; exact h.most, h.few, h.t, h.f1, h.f2, h.f3, h.n1, h.n2, h.n3⟩
theorem DS.Good.set {S : DS} (h : S.Good) (f : Nat → Bool) : (S.set f).Good :=
  ⟨settled_good _ _ f h.ls (fun x hx => (h.ws x hx).2) _ (Nat.le_refl _), fun x hx => by simp [DS.set] at hx, by show (settled _ _ _ _).length ≤ _; rw [settled_len]; exact h.most, by simp [DS.set], h.t, h.f1, h.f2, h.f3, h.n1, h.n2, h.n3⟩
theorem flat_len (L : List (List Int)) (h : ∀ s ∈ L, s.length = 128) : (flat L).length = L.length * 128 := by
  have := flatten_len (n := 128) (L.map sv) (by intro s hs; simp only [List.mem_map] at hs; obtain ⟨x, hx, rfl⟩ := hs; rw [sv_len]; exact h x hx)
  simpa [flat] using this
theorem flat_set (L : List (List Int)) (h : ∀ s ∈ L, s.length = 128) (n : Nat) (ys : List Int) (hy : ys.length = 128) (hn : n < L.length) : flat (L.set n ys) = (flat L).take (n * 128) ++ sv ys ++ (flat L).drop (n * 128 + 128) := by
  have := flatten_set (n := 128) (L.map sv) (by intro s hs; simp only [List.mem_map] at hs; obtain ⟨x, hx, rfl⟩ := hs; rw [sv_len]; exact h x hx) n (sv ys) (by rw [sv_len]; exact hy) (by simpa using hn)
  simpa [flat, List.map_set] using this
/-- one lasting sector is written. -/
theorem Dk.put {w : World} {p q : Nat} {vw : Value} {m : Option Nat} {S : DS} (h : Dk w p q vw m S) (n : Nat) (ys : List Int) (hn : n < S.ls.length) (hy : ys.length = 128) (hb : Byts ys) :
    Dk (w.setRow q ((flat S.ls).take (n * 128) ++ sv ys ++ (flat S.ls).drop (n * 128 + (sv ys).length)).toArray) p q vw m (S.las (S.ls.set n ys)) := by
  have hl : (S.ls.set n ys).length = S.ls.length := by simp
  have ho : ∀ k, k ≠ q → (w.setRow q ((flat S.ls).take (n * 128) ++ sv ys ++ (flat S.ls).drop (n * 128 + (sv ys).length)).toArray).heap[k]? = w.heap[k]? := fun k hk => setRow_other w q k _ (fun e => hk e)
  refine ⟨?_, ?_, ?_, ?_, h.pq, h.pv, h.qv, h.pm, h.qm, h.vm, h.good.las hl (fun s hs => ?_)⟩
  · rw [ho p h.pq, h.blk]
    simp [cells, DS.las]
  · rw [setRow_heap w q _ _ 97 _ h.las]
    show some (Obj.cells _ 97 (0, 0)) = some (Obj.cells (flat (S.ls.set n ys)).toArray 97 (0, 0))
    rw [flat_set S.ls (fun s hs => (h.good.ls s hs).1) n ys hy hn, sv_len, hy]
  · obtain ⟨k1, k2⟩ := h.wri
    refine ⟨k1, ?_⟩
    rcases k2 with k2 | ⟨g, cap, cur, rfl, hg, hh, r⟩
    · exact .inl k2
    · exact .inr ⟨g, cap, cur, rfl, hg, by rw [ho g (fun e => h.qv (by rw [← e]; rfl))]; exact hh, r⟩
  · have := h.map
    cases m with
    | none => exact this
    | some b =>
      obtain ⟨k, D, hk, ⟨es, clock, e1, e2⟩, ht⟩ := this
      exact ⟨k, D, hk, ⟨es, clock, (ho b (fun e => h.qm (by rw [e]))).trans e1, e2⟩, ht⟩
  · rcases List.mem_or_eq_of_mem_set hs with hs | rfl
    · exact h.good.ls s hs
    · exact ⟨hy, hb⟩
theorem mv_setRow (w : World) (q : Nat) (cs : Array Value) : Mv (· = q) w (w.setRow q cs) := ⟨rfl, rfl, rfl, by simp [World.setRow], fun k _ hk => setRow_other w q k _ (fun e => hk e)⟩
/-- the k-th write of the cache. -/
theorem Dk.wr_at {w : World} {p q g cap : Nat} {m : Option Nat} {S : DS} (h : Dk w p q (.slice (some ⟨g, 0, none⟩) S.ws.length cap) m S) (k : Nat) (x : Nat × List Int) (hx : S.ws[k]? = some x) : w.rangeAt g (k * 129) (wv x) := by
  intro j v hv
  have hc := h.wri.cells (g := g) rfl (k * 129 + j) v (by
    have := flatten_at (n := 129) (S.ws.map wv) (by intro s hs; simp only [List.mem_map] at hs; obtain ⟨y, hy, rfl⟩ := hs; simp [wv, sv_len, (h.good.ws y hy).2.1]) k (wv x) (by simp [hx]) j v hv
    simpa [wflat] using this)
  rwa [Addr.add_lit, Nat.zero_add] at hc
theorem wp_store_atL {op : Oper} {a : Act} {w : World} {K : Act → World → Prop} {Q : Exit → Act → World → Prop} (ty : TypeId) (x y : Operand) (ho : op.op = .store ty x y)
    (g o : Nat) (cells : List Value) (hx : a.eval x = .pointer (some ⟨g, o, none⟩)) (hy : a.eval y = .agg cells.toArray) (t : TypeId) (L : List Value)
    (hg : w.heap[g]? = some (.cells L.toArray t (0, 0))) (hi : (Tryz.prog.info? ty).map (·.size) = some cells.length) (hfit : o + cells.length ≤ L.toArray.size) (h1 : ∀ v ∈ cells, v.oneCell' = true)
    (W' : World) (hW : W' = w.setRow g (L.take o ++ cells ++ L.drop (o + cells.length)).toArray) (h : K (a.put op.dst undef) W') : op.wp Tryz.prog a w K Q := by
  subst hW
  exact wp_store_at ty x y ho g o cells hx hy t L.toArray hg hi hfit h1 h

end Go.Proofs.YtlmofgfkclfgeaaGreat
/- Sync and Cut. -/
namespace Go.Proofs.YtlmofgfkclfgeaaGreat
open Go.RowKit Go.Maps
set_option linter.unusedVariables false

/-- a disk behind a sync. -/
def DS.sy (S : DS) : DS := if S.er S.s3 S.l3 = 0 then S.op3.set yes else S.be S.op3
theorem Go1.ofO {O O' : Nat → Prop} {P P' : Nat → Prop} {w w' : World} (h : Go1 P w P' w') (hO : ∀ k, O k ↔ P k) (hO' : ∀ k, O' k ↔ P' k) : Go1 O w O' w' :=
  ⟨⟨h.mv.os, h.mv.tape, h.mv.output, h.mv.size, fun k hk hn => h.mv.block k hk (fun e => hn ((hO k).2 e))⟩, fun k hk => (h.own k ((hO' k).1 hk)).imp (hO k).2 id⟩
theorem Ow_less (p q : Nat) (vw : Value) (m : Option Nat) (k : Nat) (h : Ow p q (.slice none 0 0) none k) : Ow p q vw m k := by
  rcases h with h | h | h | h
  · exact .inl h
  · exact .inr (.inl h)
  · simp [Value.ownBlock] at h
  · cases h

/-- cells of a block, one after the other. -/
def sets (w : World) (p : Nat) : List (Nat × Value) → World
  | [] => w
  | x :: r => sets (w.setCell ⟨p, x.1, none⟩ x.2) p r
theorem sets_blk (p : Nat) (t : TypeId) : ∀ (l : List (Nat × Value)) (w : World) (C : Array Value), w.heap[p]? = some (.cells C t (0, 0)) → (sets w p l).heap[p]? = some (.cells (l.foldl (fun C x => C.setIfInBounds x.1 x.2) C) t (0, 0))
  | [], w, C, h => h
  | x :: r, w, C, h => sets_blk p t r _ _ (heap_setCell_same w p x.1 _ t _ h)
theorem sets_other (p k : Nat) (hk : k ≠ p) : ∀ (l : List (Nat × Value)) (w : World), (sets w p l).heap[k]? = w.heap[k]?
  | [], w => rfl
  | x :: r, w => (sets_other p k hk r _).trans (set_other w p x.1 x.2 k hk)
theorem sets_mv (p : Nat) : ∀ (l : List (Nat × Value)) (w : World), Mv (· = p) w (sets w p l)
  | [], w => Mv.refl _ _
  | x :: r, w => (mv_set w p x.1 x.2).trans' (sets_mv p r _)
/-- a disk behind a cut. -/
def DS.cut (S : DS) (bs : List Bool) : DS := { S.set (kp bs) with dk := false, ts := false, tl := 0, s1 := false, l1 := 0, s2 := false, l2 := 0, s3 := false, l3 := 0 }
theorem Cd0 : Cd false 0 := ⟨Int.le_refl _, by decide⟩
theorem DS.Good.cut {S : DS} (h : S.Good) (bs : List Bool) : (S.cut bs).Good :=
  ⟨(h.set (kp bs)).ls, (h.set (kp bs)).ws, (h.set (kp bs)).most, (h.set (kp bs)).few, Cd0, Cd0, Cd0, Cd0, h.n1, h.n2, h.n3⟩
end Go.Proofs.YtlmofgfkclfgeaaGreat
/- The bytes that were written last. -/
namespace Go.Proofs.YtlmofgfkclfgeaaGreat
open Go.RowKit Go.Maps
set_option linter.unusedVariables false

/-- a lasting sector. -/
theorem Dk.las_at {w : World} {p q : Nat} {vw : Value} {m : Option Nat} {S : DS} (h : Dk w p q vw m S) (n : Nat) (hn : n < S.ls.length) : w.rangeAt q (n * 128) (sv (S.ls.getD n [])) := by
  intro j v hv
  rw [cell_of_row w q _ _ 97 (0, 0) h.las]
  have := flatten_at (n := 128) (S.ls.map sv) (by intro s hs; simp only [List.mem_map] at hs; obtain ⟨y, hy, rfl⟩ := hs; rw [sv_len]; exact (h.good.ls y hy).1) n (sv (S.ls.getD n [])) (by simp [hn]) j v hv
  simpa [flat] using this
theorem getD_mem {α : Type} (L : List α) (n : Nat) (d : α) (h : n < L.length) : L.getD n d ∈ L := by
  rw [List.getD_eq_getElem?_getD, List.getElem?_eq_getElem h]; exact List.getElem_mem _
theorem newest_good {S : DS} (h : S.Good) (n : Nat) (hn : n < S.ls.length) : (newest S n).length = 128 ∧ Byts (newest S n) := by
  unfold newest
  cases hl : lastAt S.ws n with
  | none => exact h.ls _ (getD_mem _ _ _ hn)
  | some i => exact (h.ws _ (getD_mem _ _ _ (lastAt_some hl).1)).2
theorem zero3 : ∀ w, (zeroValue 3).run Tryz.prog w = .ok (.int .i64 0) w := (zero_of_info (P := Tryz.prog) (t := 3) (v := .int .i64 0) (n := 1) (by kernel_rfl)).1
/-- what the map answers. -/
theorem asked (m : Option Nat) (W : World) (ws : List (Nat × List Int)) (n : Nat) (hn : n ≤ 1000000) (h : MapAt W m ws) :
    ∃ c : Int, (Instr.lookup 87 (.map m) (.int .i64 (n : Int)) true).run Tryz.prog W = .ok (.tuple #[.int .i64 c, .bool (lastAt ws n).isSome]) W ∧ ∀ i, lastAt ws n = some i → c = (i : Int) := by
  have hkey : keyOf Tryz.prog 3 (.int .i64 (n : Int)) = some (.int .i64 (n : Int)) := keyOf_int_mk Tryz.underlying3 (WalkArith.wf_i64 (by omega))
  cases m with
  | none =>
    have e : ws = [] := h
    subst e
    refine ⟨0, ?_, fun i hi => by simp [lastAt] at hi⟩
    rw [Maps.look_nil true law3 Tryz.underlying87 (zero3 W) hkey]
    rfl
  | some b =>
    obtain ⟨N, D, hN, hown, ht⟩ := h
    obtain ⟨v, ps, hrun, hv⟩ := hown.look_ok law3 Tryz.underlying87 (zero3 W) (plainElem_int (H := Unit) Tryz.underlying3 (by decide)) hkey
    obtain ⟨c, rfl, hc, _⟩ := plainElem_int_inv Tryz.underlying3 hv
    refine ⟨c, by rw [hrun, (ht n).1], fun i hi => ?_⟩
    have h1 := (ht n).2 i hi
    have h2 : D.atKey (.int .i64 (n : Int)) (.lit (.int .i64 0)) = .lit (.int .i64 c) := congrArg Prod.fst hc
    have h3 : (DataW.lit (.int .i64 (i : Int)) : DataW Unit) = .lit (.int .i64 c) := h1.symm.trans h2
    cases h3
    rfl

set_option maxHeartbeats 1600000 in
set_option maxRecDepth 1000000 in
theorem newest_none (p q : Nat) (vw : Value) (m : Option Nat) (S : DS) (n : Nat) (w : World) (h : Dk w p q vw m S) (hn : n < S.ls.length) (hl : lastAt S.ws n = none) :
    Calls Tryz.prog 88 #[.pointer (some ⟨p, 0, none⟩), .int .i64 (n : Int)] w fun e w' => e = .returned (.agg (sv (newest S n)).toArray) ∧ Below w.heap.size w w' := by
  have hd0 := h.below (below_alloc w (.cells z110 97))
  have hgd := newest_good h.good n hn
  have hmost := h.good.most
  have hfew := h.good.few
  obtain ⟨c, hlk, hci⟩ := asked m (w.alloc (.cells z110 97)) S.ws n (by omega) hd0.map
  rw [hl] at hlk
  simp only [Option.isSome_none] at hlk
  clear hci
  have c0 := hd0.c 0 (.slice (some ⟨q, 0, none⟩) S.ls.length S.ls.length) rfl
  have HR : Hid ((w.alloc (.cells z110 97)).rangeAt q (n * 128) (sv (newest S n))) := by
    have := hd0.las_at n hn
    unfold newest
    rw [hl]
    exact this
  have hnb : decide (n < S.ls.length) = true := by simp [hn]
  have hL : (sv (newest S n)).length = 128 := by rw [sv_len]; exact hgd.1
  have h1 := all_oneCell_toArray (sv_one (newest S n))
  generalize sv (newest S n) = cs at *
  have hz := zero110
  have HI : Hid ((Tryz.prog.info? 97).map (·.size) = some cs.length) := by rw [hL]; exact size110
  have HI2 : Hid ((Tryz.prog.info? 97).map (·.size) = some cs.toArray.size) := by rw [List.size_toArray, hL]; exact size110
  have HT : Hid ((w.alloc (.cells z110 97)).heap[w.heap.size]? = some (.cells z110 97 (0, 0))) := heap_alloc_new w _
  have HZ : Hid (z110.size = cs.toArray.size) := by simp only [Hid, List.size_toArray, hL]; rfl
  have H1 := hide h1
  have HN := hide (heap_alloc_new w (.cells cs.toArray 97))
  have HB := hide (below_alloc w (.cells cs.toArray 97))
  have c2 := hd0.c 2 (.map m) rfl
  clear h hd0 hgd h1 hL
  go_enter Tryz.func88, Tryz.ntmps88
  go_wp2_with (first | (refine wpList_load_mid (by rfl) 97 (.tmp 32) (by rfl) q (n * 128) (by rfl) cs _ HR.out Tryz.underlying97 rfl HI.out ?_) | (refine wpList_store_row (by rfl) 97 (.tmp 4) (.tmp 33) (by rfl) w.heap.size cs.toArray (by rfl) (by rfl) 97 z110 HT.out HI2.out HZ.out H1.out ?_; rw [World.setRow_alloc_new]))
  refine bodyPost_ret (v := .agg cs.toArray) ?_ rfl ?_
  · exact results_cell_row (p := 4) (ty := 97) rfl _ _ w.heap.size 97 _ (0, 0) _ rfl HN.out Tryz.underlying97 rfl HI2.out
  · exact ⟨rfl, HB.out⟩
set_option maxHeartbeats 1600000 in
set_option maxRecDepth 1000000 in
theorem newest_some (p q : Nat) (vw : Value) (m : Option Nat) (S : DS) (n : Nat) (w : World) (h : Dk w p q vw m S) (hn : n < S.ls.length) (i : Nat) (hl : lastAt S.ws n = some i) :
    Calls Tryz.prog 88 #[.pointer (some ⟨p, 0, none⟩), .int .i64 (n : Int)] w fun e w' => e = .returned (.agg (sv (newest S n)).toArray) ∧ Below w.heap.size w w' := by
  have hd0 := h.below (below_alloc w (.cells z110 97))
  have hgd := newest_good h.good n hn
  have hmost := h.good.most
  have hfew := h.good.few
  obtain ⟨c, hlk, hci⟩ := asked m (w.alloc (.cells z110 97)) S.ws n (by omega) hd0.map
  rw [hl] at hlk
  simp only [Option.isSome_some] at hlk
  have hc := hci i hl
  subst hc
  clear hci
  obtain ⟨hi, x, hx, hxn⟩ := lastAt_some hl
  obtain ⟨g, cap, rfl, hle⟩ : ∃ g cap, vw = .slice (some ⟨g, 0, none⟩) S.ws.length cap ∧ S.ws.length ≤ cap := by
    rcases h.wri.2 with ⟨e, e2⟩ | ⟨g, cap, cur, e, _, _, hle, _⟩
    · omega
    · exact ⟨g, cap, e, hle⟩
  have c1 := hd0.c 1 (.slice (some ⟨g, 0, none⟩) S.ws.length cap) rfl
  have HR : Hid ((w.alloc (.cells z110 97)).rangeAt g (i * 129 + 1) (sv (newest S n))) := by
    have hr := Dk.wr_at hd0 i x hx
    have e : newest S n = x.2 := by unfold newest; rw [hl]; simp [hx]
    rw [e]
    intro j v hv
    have := hr (j + 1) v (by simpa [wv] using hv)
    rw [← this]
    congr 2
    omega
  have hnb : decide (i < S.ws.length) = true := by simp [hi]
  clear hx hxn
  have hL : (sv (newest S n)).length = 128 := by rw [sv_len]; exact hgd.1
  have h1 := all_oneCell_toArray (sv_one (newest S n))
  generalize sv (newest S n) = cs at *
  have hz := zero110
  have HI : Hid ((Tryz.prog.info? 97).map (·.size) = some cs.length) := by rw [hL]; exact size110
  have HI2 : Hid ((Tryz.prog.info? 97).map (·.size) = some cs.toArray.size) := by rw [List.size_toArray, hL]; exact size110
  have HT : Hid ((w.alloc (.cells z110 97)).heap[w.heap.size]? = some (.cells z110 97 (0, 0))) := heap_alloc_new w _
  have HZ : Hid (z110.size = cs.toArray.size) := by simp only [Hid, List.size_toArray, hL]; rfl
  have H1 := hide h1
  have HN := hide (heap_alloc_new w (.cells cs.toArray 97))
  have HB := hide (below_alloc w (.cells cs.toArray 97))
  have c2 := hd0.c 2 (.map m) rfl
  clear h hd0 hgd h1 hL
  go_enter Tryz.func88, Tryz.ntmps88
  go_wp2_with (first | (refine wpList_load_mid (by rfl) 97 (.tmp 25) (by rfl) g (i * 129 + 1) (by rfl) cs _ HR.out Tryz.underlying97 rfl HI.out ?_) | (refine wpList_store_row (by rfl) 97 (.tmp 4) (.tmp 26) (by rfl) w.heap.size cs.toArray (by rfl) (by rfl) 97 z110 HT.out HI2.out HZ.out H1.out ?_; rw [World.setRow_alloc_new]))
  refine bodyPost_ret (v := .agg cs.toArray) ?_ rfl ?_
  · exact results_cell_row (p := 4) (ty := 97) rfl _ _ w.heap.size 97 _ (0, 0) _ rfl HN.out Tryz.underlying97 rfl HI2.out
  · exact ⟨rfl, HB.out⟩
theorem newest_any (p q : Nat) (vw : Value) (m : Option Nat) (S : DS) (n : Nat) (w : World) (h : Dk w p q vw m S) (hn : n < S.ls.length) :
    Calls Tryz.prog 88 #[.pointer (some ⟨p, 0, none⟩), .int .i64 (n : Int)] w fun e w' => e = .returned (.agg (sv (newest S n)).toArray) ∧ Below w.heap.size w w' := by
  cases hl : lastAt S.ws n with
  | none => exact newest_none p q vw m S n w h hn hl
  | some i => exact newest_some p q vw m S n w h hn i hl
end Go.Proofs.YtlmofgfkclfgeaaGreat
