/- Write. -/
import Derived.Test.YtobokocpapfjbaaGreatDI
import Derived.Deep.RegionHeld3
namespace Go.Proofs.YtobokocpapfjbaaGreat
open Go.RowKit Go.Maps
set_option linter.unusedVariables false

theorem hmf (fn : Fn) (first cap : Array Value) (w : World) : (Instr.makeFunc fn first cap).run Tryz.prog w = .ok (.func fn first cap) w := rfl
/-- a disk behind a write of a page that is there. -/
def DS.wr (S : DS) (pg : Nat) (zs : List Int) (N : Nat) : DS := if S.er S.s2 S.l2 = 0 then S.op2.adds (8 * pg) zs N else S.be S.op2
theorem Go1.of_mv {O : Nat → Prop} {p : Nat} {w w' : World} (h : Mv (· = p) w w') (ho : O p) : Go1 O w O w' :=
  ⟨⟨h.os, h.tape, h.output, h.size, fun k hk hn => h.block k hk (fun e => hn (by rw [e]; exact ho))⟩, fun _ h => .inl h⟩
theorem DS.be_good {S : DS} (h : S.Good) {S' : DS} (h' : S'.Good) : (S.be S').Good := by
  unfold DS.be
  split
  · exact h
  · split
    · exact h.out
    · exact h'
theorem cell_new (w : World) (v : Value) (t : TypeId) : (w.alloc (.cells #[v] t)).cell? ⟨w.heap.size, 0, none⟩ = some v := by
  rw [cell_of_row _ _ 0 _ t (0, 0) (heap_alloc_new w _)]; rfl
theorem cell_old {w : World} {b o : Nat} {v : Value} (h : w.cell? ⟨b, o, none⟩ = some v) (ob : Obj) : (w.alloc ob).cell? ⟨b, o, none⟩ = some v := by
  rw [World.cell?_of_block (w := w) (Below.heap_alloc w ob b (World.block_lt_of_cell? w _ h))]; exact h

set_option maxHeartbeats 1600000 in
set_option maxRecDepth 1000000 in
theorem write_any (p q : Nat) (O : Nat → Prop) (S : DS) (pg : Nat) (b off len cap : Nat) (zs : List Int) (N : Nat) (w : World) (h : DkAt w p q S O)
    (ob : ¬ O b) (hr : Row w (some ⟨b, off, none⟩) zs) (hbl : b < w.heap.size) (hz : zs.length = len) (hby : Byts zs) (hlc : len ≤ cap) (hcm : cap ≤ 9223372036854775807)
    (hpg : pg < S.ls.length / 8) (hl8 : S.ls.length % 8 = 0) (hN : len = 1024 ∧ N = 8 ∨ len = 128 ∧ N = 1) (hf : S.ws.length + 8 ≤ 1000000) (hn : S.n2 + 1 ≤ 1000000) :
    Calls Tryz.prog 8 #[.pointer (some ⟨p, 0, none⟩), .int .i64 (pg : Int), .slice (some ⟨b, off, none⟩) len cap] w fun e w' => e = .returned (.int .u16 (S.er S.s2 S.l2 : Int)) ∧ ∃ O', DkAt w' p q (S.wr pg zs N) O' ∧ Go1 O w O' w' := by
  obtain ⟨vw, m, hd, ho⟩ := h
  have hlt : ∀ k, Ow p q vw m k → k < w.heap.size := hd.lt
  have nO : ∀ k, w.heap.size ≤ k → ¬ Ow p q vw m k := fun k hk h => by have := hlt k h; omega
  obtain ⟨W3, hW3⟩ : ∃ W3, W3 = ((w.alloc (.cells #[.pointer (some ⟨p, 0, none⟩)] 26)).alloc (.cells #[.int .i64 (pg : Int)] 3)).alloc (.cells #[.slice (some ⟨b, off, none⟩) len cap] 22) := ⟨_, rfl⟩
  have s1 := size_al w (.cells #[.pointer (some ⟨p, 0, none⟩)] 26)
  have s2 := size_al (w.alloc (.cells #[.pointer (some ⟨p, 0, none⟩)] 26)) (.cells #[.int .i64 (pg : Int)] 3)
  have hb3 : Below w.heap.size w W3 := by
    rw [hW3]
    exact (below_alloc w _).trans (((below_alloc _ _).mono (by omega)).trans ((below_alloc _ _).mono (by omega)))
  have c0 : W3.cell? ⟨w.heap.size, 0, none⟩ = some (.pointer (some ⟨p, 0, none⟩)) := by rw [hW3]; exact cell_old (cell_old (cell_new _ _ _) _) _
  have c1 : W3.cell? ⟨w.heap.size + 1, 0, none⟩ = some (.int .i64 (pg : Int)) := by rw [hW3]; have := cell_old (cell_new (w.alloc (.cells #[.pointer (some ⟨p, 0, none⟩)] 26)) (.int .i64 (pg : Int)) 3) (.cells #[.slice (some ⟨b, off, none⟩) len cap] 22); rwa [s1] at this
  have c2 : W3.cell? ⟨w.heap.size + 2, 0, none⟩ = some (.slice (some ⟨b, off, none⟩) len cap) := by rw [hW3]; have := cell_new ((w.alloc (.cells #[.pointer (some ⟨p, 0, none⟩)] 26)).alloc (.cells #[.int .i64 (pg : Int)] 3)) (.slice (some ⟨b, off, none⟩) len cap) 22; rwa [s2, s1] at this
  have HOp := hide (operate2 p q vw m S W3 (.pointer (some ⟨w.heap.size, 0, none⟩)) (.pointer (some ⟨w.heap.size + 1, 0, none⟩)) (.pointer (some ⟨w.heap.size + 2, 0, none⟩))
    (fun x w' => x = (S.er S.s2 S.l2 : Int) ∧ ∃ O', DkAt w' p q (S.wr pg zs N) O' ∧ Go1 O w O' w') (hd.below hb3) hn
    (fun he W hdW hm hs => by
      have hg0 : Go1 (Ow p q vw m) w (Ow p q vw m) W := (Go1.of_below hb3).trans (Go1.of_mv hm (.inl rfl))
      have hm' : Mv (Ow p q vw m) W3 W := (Go1.of_mv hm (.inl rfl)).mv
      refine (writes_any p q vw m S.op2 w.heap.size (w.heap.size + 1) (w.heap.size + 2) pg b off len cap zs N W hdW (hm'.cell c0 (nO _ (Nat.le_refl _))) (hm'.cell c1 (nO _ (by omega))) (hm'.cell c2 (nO _ (by omega))) (nO _ (Nat.le_refl _)) (nO _ (by omega)) (nO _ (by omega)) (fun h => ob ((ho b).2 h)) (hg0.mv.row hr (fun h => ob ((ho b).2 h))) hz hby hlc hcm hpg hl8 hN hf).mono ?_
      rintro e w' ⟨rfl, vw', m', hd', hg'⟩
      refine ⟨0, rfl, by rw [he]; rfl, Ow p q vw' m', ⟨vw', m', by rw [DS.wr, if_pos he]; exact hd', fun _ => Iff.rfl⟩, ?_⟩
      have := hg0.trans hg'
      exact ⟨⟨this.mv.os, this.mv.tape, this.mv.output, this.mv.size, fun k hk hn => this.mv.block k hk (fun h => hn ((ho k).2 h))⟩, fun k hk => (this.own k hk).imp (fun h => (ho k).2 h) id⟩)
    (fun he W hdW hm hs => by
      have hg0 : Go1 (Ow p q vw m) w (Ow p q vw m) W := (Go1.of_below hb3).trans (Go1.of_mv hm (.inl rfl))
      refine ⟨rfl, Ow p q vw m, ⟨vw, m, by rw [DS.wr, if_neg he]; exact hdW, fun _ => Iff.rfl⟩, ?_⟩
      exact ⟨⟨hg0.mv.os, hg0.mv.tape, hg0.mv.output, hg0.mv.size, fun k hk hn => hg0.mv.block k hk (fun h => hn ((ho k).2 h))⟩, fun k hk => (hg0.own k hk).imp (fun h => (ho k).2 h) id⟩))
  clear hd ho hlt nO hr hz hby hlc hcm hpg hl8 hN hf hn hb3 c1 c2 s1 s2 ob
  have hmf' := hmf
  subst hW3
  go_enter Tryz.func8, Tryz.ntmps8
  go_wp2_with fail
  refine HOp.out.mono ?_
  rintro e w' ⟨x, rfl, rfl, hh⟩
  have HH := hide hh
  clear hh
  go_wp2
  go_ret
  exact ⟨rfl, HH.out⟩
end Go.Proofs.YtobokocpapfjbaaGreat
/- What is kept of the cache becomes lasting. -/
namespace Go.Proofs.YtobokocpapfjbaaGreat
open Go.RowKit Go.Maps
set_option linter.unusedVariables false

/-- a slice's first cells hold these bools. -/
def BRow (w : World) (a : Option Addr) (bs : List Bool) : Prop :=
  bs = [] ∨ ∃ b off, a = some ⟨b, off, none⟩ ∧ b < w.heap.size ∧ ∀ i, i < bs.length → w.cell? ⟨b, off + i, none⟩ = some (.bool (bs.getD i false))
theorem BRow.below {w w' : World} {a : Option Addr} {bs : List Bool} {B : Nat} (h : BRow w a bs) (hb : Below B w w') (hB : bs ≠ [] → ∀ ad, a = some ad → ad.block < B) : BRow w' a bs := by
  by_cases h0 : bs = []
  · exact .inl h0
  rcases h with h | ⟨b, off, rfl, hlt, hc⟩
  · exact .inl h
  · exact .inr ⟨b, off, rfl, Nat.lt_of_lt_of_le hlt hb.size, fun i hi => (hb.cell (p := ⟨b, off + i, none⟩) (hB h0 ⟨b, off, none⟩ rfl)).trans (hc i hi)⟩
theorem BRow.mv {O : Nat → Prop} {w w' : World} {a : Option Addr} {bs : List Bool} (h : BRow w a bs) (hm : Mv O w w') (ho : bs ≠ [] → ∀ ad, a = some ad → ¬ O ad.block) : BRow w' a bs := by
  by_cases h0 : bs = []
  · exact .inl h0
  rcases h with h | ⟨b, off, rfl, hlt, hc⟩
  · exact .inl h
  · exact .inr ⟨b, off, rfl, Nat.lt_of_lt_of_le hlt hm.size, fun i hi => hm.cell (hc i hi) (ho h0 _ rfl)⟩

set_option maxHeartbeats 800000 in
set_option maxRecDepth 1000000 in
theorem all_kept (k : Nat) (w : World) : Calls Tryz.prog 104 #[.int .i64 (k : Int)] w fun e w' => e = .returned (.bool true) ∧ Below w.heap.size w w' := by
  go_enter Tryz.func104, Tryz.ntmps104
  go_wp2
  go_ret
  exact ⟨rfl, Below.refl _ _⟩
/-- is the k-th kept? -/
def kp (bs : List Bool) (k : Nat) : Bool := bs.getD k false
set_option maxHeartbeats 800000 in
set_option maxRecDepth 1000000 in
theorem one_kept (kb : Nat) (a : Option Addr) (c : Nat) (bs : List Bool) (k : Nat) (w : World) (h0 : w.cell? ⟨kb, 0, none⟩ = some (.slice a bs.length c)) (hr : BRow w a bs) (hk : k ≤ 1000000) (hl : bs.length ≤ 9223372036854775807) :
    Calls Tryz.prog 60 #[.int .i64 (k : Int), .pointer (some ⟨kb, 0, none⟩)] w fun e w' => e = .returned (.bool (kp bs k)) ∧ Below w.heap.size w w' := by
  by_cases h : k < bs.length
  · rcases hr with e | ⟨b, off, rfl, hlt, hc⟩
    · rw [e] at h; simp at h
    · have c1 := hc k h
      have HK : Hid (bs.getD k false = kp bs k) := rfl
      rw [HK.out] at c1
      have hd : decide (k < bs.length) = true := by simp [h]
      clear hc
      generalize kp bs k = r at *
      generalize bs.length = n at *
      clear HK
      cases r <;>
      · go_enter Tryz.func60, Tryz.ntmps60
        go_wp2
        go_ret
        exact ⟨rfl, Below.refl _ _⟩
  · have HK : Hid (kp bs k = false) := by unfold kp Hid; rw [List.getD_eq_getElem?_getD, List.getElem?_eq_none (by omega)]; rfl
    rw [HK.out]
    have hd : decide (k < bs.length) = false := by simp; omega
    generalize bs.length = n at *
    clear HK hr
    go_enter Tryz.func60, Tryz.ntmps60
    go_wp2
    go_ret
    exact ⟨rfl, Below.refl _ _⟩

/-- the lasting sectors behind the first k writes, of those that are kept. -/
def settled (ls : List (List Int)) (ws : List (Nat × List Int)) (f : Nat → Bool) : Nat → List (List Int)
  | 0 => ls
  | k + 1 => if f k then (settled ls ws f k).set (ws.getD k (0, [])).1 (ws.getD k (0, [])).2 else settled ls ws f k
theorem settled_len (ls : List (List Int)) (ws : List (Nat × List Int)) (f : Nat → Bool) : ∀ k, (settled ls ws f k).length = ls.length
  | 0 => rfl
  | k + 1 => by rw [settled]; split <;> simp [settled_len ls ws f k]
theorem settled_good (ls : List (List Int)) (ws : List (Nat × List Int)) (f : Nat → Bool) (h1 : ∀ s ∈ ls, s.length = 128 ∧ Byts s) (h2 : ∀ x ∈ ws, x.2.length = 128 ∧ Byts x.2) : ∀ k, k ≤ ws.length → ∀ s ∈ settled ls ws f k, s.length = 128 ∧ Byts s
  | 0, _ => h1
  | k + 1, hk => by
    intro s hs
    rw [settled] at hs
    split at hs
    · rcases List.mem_or_eq_of_mem_set hs with hs | rfl
      · exact settled_good ls ws f h1 h2 k (by omega) s hs
      · refine h2 (ws.getD k (0, [])) ?_
        rw [List.getD_eq_getElem?_getD, List.getElem?_eq_getElem (by omega)]
        exact List.getElem_mem _
    · exact settled_good ls ws f h1 h2 k (by omega) s hs
theorem run_storeVar_at (w : World) (g o : Nat) (ty t : TypeId) (cur : Array Value) (cells : List Value) (hg : w.heap[g]? = some (.cells cur t (0, 0))) (hi : (Tryz.prog.info? ty).map (·.size) = some cells.length) (hfit : o + cells.length ≤ cur.size) (h1 : ∀ v ∈ cells, v.oneCell' = true) :
    (storeVar ty ⟨g, o, none⟩ (.agg cells.toArray)).run Tryz.prog w = .ok () (w.setRow g (cur.toList.take o ++ cells ++ cur.toList.drop (o + cells.length)).toArray) := by
  have := run_storeCells_at Tryz.prog g o t cells 0 cur w hg (by simpa using hfit) h1
  cases hq : Tryz.prog.info? ty with
  | none => simp [hq] at hi
  | some i =>
    have hs : i.size = cells.length := by simpa [hq] using hi
    simp only [Nat.add_zero] at this
    simp [storeVar, sizeOf, typeInfo, hq, Value.cells, hs, this]
theorem wp_store_at {op : Oper} {a : Act} {w : World} {K : Act → World → Prop} {Q : Exit → Act → World → Prop} (ty : TypeId) (x y : Operand) (ho : op.op = .store ty x y)
    (g o : Nat) (cells : List Value) (hx : a.eval x = .pointer (some ⟨g, o, none⟩)) (hy : a.eval y = .agg cells.toArray) (t : TypeId) (cur : Array Value)
    (hg : w.heap[g]? = some (.cells cur t (0, 0))) (hi : (Tryz.prog.info? ty).map (·.size) = some cells.length) (hfit : o + cells.length ≤ cur.size) (h1 : ∀ v ∈ cells, v.oneCell' = true)
    (h : K (a.put op.dst undef) (w.setRow g (cur.toList.take o ++ cells ++ cur.toList.drop (o + cells.length)).toArray)) : op.wp Tryz.prog a w K Q := by
  unfold Oper.wp execOp
  simp only [ho, hx, hy, Instr.storeAt, Instr.sureAddr, Sem.run_bind, Sem.run_pure, Result.andThen_ok, run_storeVar_at w g o ty t cur cells hg hi hfit h1]
  exact h
theorem zero117 : ∀ w, (zeroValue 165).run Tryz.prog w = .ok (.agg z117) w := (zero_of_info (P := Tryz.prog) (t := 165) (v := .agg z117) (n := 129) (by kernel_rfl)).1
end Go.Proofs.YtobokocpapfjbaaGreat
/- The cache is settled. -/
namespace Go.Proofs.YtobokocpapfjbaaGreat
open Go.RowKit Go.Maps
set_option linter.unusedVariables false

def yes (_ : Nat) : Bool := true
/-- lasting sectors in the place of others. -/
def DS.las (S : DS) (L : List (List Int)) : DS := { S with ls := L }
def DS.set (S : DS) (f : Nat → Bool) : DS := { S with ls := settled S.ls S.ws f S.ws.length, ws := [] }
theorem DS.Good.las {S : DS} (h : S.Good) {L : List (List Int)} (hl : L.length = S.ls.length) (hL : ∀ s ∈ L, s.length = 128 ∧ Byts s) : (S.las L).Good :=
  ⟨hL, fun x hx => by show x.1 < L.length ∧ _; rw [hl]; exact h.ws x hx, by show L.length ≤ _; rw [hl]; exact h.most, h.few, h.t, h.f1, h.f2, h.f3, h.n1, h.n2, h.n3⟩
theorem DS.Good.set {S : DS} (h : S.Good) (f : Nat → Bool) : (S.set f).Good :=
  ⟨settled_good _ _ f h.ls (fun x hx => (h.ws x hx).2) _ (Nat.le_refl _), fun x hx => by simp [DS.set] at hx, by show (settled _ _ _ _).length ≤ _; rw [settled_len]; exact h.most, by simp [DS.set], h.t, h.f1, h.f2, h.f3, h.n1, h.n2, h.n3⟩
theorem flat_len (L : List (List Int)) (h : ∀ s ∈ L, s.length = 128) : (flat L).length = L.length * 128 := by
  have := flatten_len (n := 128) (L.map sv) (by intro s hs; simp only [List.mem_map] at hs; obtain ⟨x, hx, rfl⟩ := hs; rw [sv_len]; exact h x hx)
  simpa [flat] using this
theorem flat_set (L : List (List Int)) (h : ∀ s ∈ L, s.length = 128) (n : Nat) (ys : List Int) (hy : ys.length = 128) (hn : n < L.length) : flat (L.set n ys) = (flat L).take (n * 128) ++ sv ys ++ (flat L).drop (n * 128 + 128) := by
  have := flatten_set (n := 128) (L.map sv) (by intro s hs; simp only [List.mem_map] at hs; obtain ⟨x, hx, rfl⟩ := hs; rw [sv_len]; exact h x hx) n (sv ys) (by rw [sv_len]; exact hy) (by simpa using hn)
  simpa [flat, List.map_set] using this
/-- one lasting sector is written. -/
theorem Dk.put {w : World} {p q : Nat} {vw : Value} {m : Option Nat} {S : DS} (h : Dk w p q vw m S) (n : Nat) (ys : List Int) (hn : n < S.ls.length) (hy : ys.length = 128) (hb : Byts ys) :
    Dk (w.setRow q ((flat S.ls).take (n * 128) ++ sv ys ++ (flat S.ls).drop (n * 128 + (sv ys).length)).toArray) p q vw m (S.las (S.ls.set n ys)) := by
  have hl : (S.ls.set n ys).length = S.ls.length := by simp
  have ho : ∀ k, k ≠ q → (w.setRow q ((flat S.ls).take (n * 128) ++ sv ys ++ (flat S.ls).drop (n * 128 + (sv ys).length)).toArray).heap[k]? = w.heap[k]? := fun k hk => setRow_other w q k _ (fun e => hk e)
  refine ⟨?_, ?_, ?_, ?_, h.pq, h.pv, h.qv, h.pm, h.qm, h.vm, h.good.las hl (fun s hs => ?_)⟩
  · rw [ho p h.pq, h.blk]
    simp [cells, DS.las]
  · rw [setRow_heap w q _ _ 114 _ h.las]
    show some (Obj.cells _ 114 (0, 0)) = some (Obj.cells (flat (S.ls.set n ys)).toArray 114 (0, 0))
    rw [flat_set S.ls (fun s hs => (h.good.ls s hs).1) n ys hy hn, sv_len, hy]
  · obtain ⟨k1, k2⟩ := h.wri
    refine ⟨k1, ?_⟩
    rcases k2 with k2 | ⟨g, cap, cur, rfl, hg, hh, r⟩
    · exact .inl k2
    · exact .inr ⟨g, cap, cur, rfl, hg, by rw [ho g (fun e => h.qv (by rw [← e]; rfl))]; exact hh, r⟩
  · have := h.map
    cases m with
    | none => exact this
    | some b =>
      obtain ⟨k, D, hk, ⟨es, clock, e1, e2⟩, ht⟩ := this
      exact ⟨k, D, hk, ⟨es, clock, (ho b (fun e => h.qm (by rw [e]))).trans e1, e2⟩, ht⟩
  · rcases List.mem_or_eq_of_mem_set hs with hs | rfl
    · exact h.good.ls s hs
    · exact ⟨hy, hb⟩
theorem mv_setRow (w : World) (q : Nat) (cs : Array Value) : Mv (· = q) w (w.setRow q cs) := ⟨rfl, rfl, rfl, by simp [World.setRow], fun k _ hk => setRow_other w q k _ (fun e => hk e)⟩
/-- the k-th write of the cache. -/
theorem Dk.wr_at {w : World} {p q g cap : Nat} {m : Option Nat} {S : DS} (h : Dk w p q (.slice (some ⟨g, 0, none⟩) S.ws.length cap) m S) (k : Nat) (x : Nat × List Int) (hx : S.ws[k]? = some x) : w.rangeAt g (k * 129) (wv x) := by
  intro j v hv
  have hc := h.wri.cells (g := g) rfl (k * 129 + j) v (by
    have := flatten_at (n := 129) (S.ws.map wv) (by intro s hs; simp only [List.mem_map] at hs; obtain ⟨y, hy, rfl⟩ := hs; simp [wv, sv_len, (h.good.ws y hy).2.1]) k (wv x) (by simp [hx]) j v hv
    simpa [wflat] using this)
  rwa [Addr.add_lit, Nat.zero_add] at hc
theorem wp_store_atL {op : Oper} {a : Act} {w : World} {K : Act → World → Prop} {Q : Exit → Act → World → Prop} (ty : TypeId) (x y : Operand) (ho : op.op = .store ty x y)
    (g o : Nat) (cells : List Value) (hx : a.eval x = .pointer (some ⟨g, o, none⟩)) (hy : a.eval y = .agg cells.toArray) (t : TypeId) (L : List Value)
    (hg : w.heap[g]? = some (.cells L.toArray t (0, 0))) (hi : (Tryz.prog.info? ty).map (·.size) = some cells.length) (hfit : o + cells.length ≤ L.toArray.size) (h1 : ∀ v ∈ cells, v.oneCell' = true)
    (W' : World) (hW : W' = w.setRow g (L.take o ++ cells ++ L.drop (o + cells.length)).toArray) (h : K (a.put op.dst undef) W') : op.wp Tryz.prog a w K Q := by
  subst hW
  exact wp_store_at ty x y ho g o cells hx hy t L.toArray hg hi hfit h1 h

set_option maxHeartbeats 3200000 in
set_option maxRecDepth 1000000 in
theorem settle_all (p q : Nat) (vw : Value) (m : Option Nat) (S : DS)  (w : World) (h : Dk w p q vw m S) :
    Calls Tryz.prog 59 #[.pointer (some ⟨p, 0, none⟩), .func (.func 104) #[] #[]] w fun e w' => e = .returned (.tuple #[]) ∧ Dk w' p q (.slice none 0 0) none (S.set yes) ∧ Mv (Ow p q vw m) w w' := by
  have HD := hide h
  have HG := hide h.good
  have c1 := h.c 1 vw rfl
  have HCl : Hid (∀ W (k : Nat), Mv (Ow p q vw m) w W → k ≤ 1000000 → Calls Tryz.prog 104 #[.int .i64 (k : Int)] W fun e w' => e = .returned (.bool (yes k)) ∧ Below W.heap.size W w') := fun W k _ _ => all_kept k W
  obtain ⟨a, len, cap, rfl, hlen, hnn⟩ : ∃ a len cap, vw = .slice a len cap ∧ len = S.ws.length ∧ (a = none ∧ len = 0 ∨ ∃ g, a = some ⟨g, 0, none⟩ ∧ len ≤ cap) := by
    rcases h.wri.2 with ⟨e, e2⟩ | ⟨g, cap, cur, e, _, _, hle, _⟩
    · exact ⟨none, 0, 0, e, e2.symm, .inl ⟨rfl, rfl⟩⟩
    · exact ⟨_, _, cap, e, rfl, .inr ⟨g, rfl, hle⟩⟩
  have HL := hide hlen
  have hfew : len ≤ 1000000 := by rw [hlen]; exact h.good.few
  have hbt := (zero117)
  have hbd94 : ∀ W, (Instr.build 102 #[]).run Tryz.prog W = .ok (.agg #[.slice none 0 0, .map none]) W := fun W => run_build W 102 #[] _ (by kernel_rfl)
  have HF : Hid (∀ wr, Dk wr p q (.slice a len cap) m (S.las (settled S.ls S.ws yes S.ws.length)) → Mv (Ow p q (.slice a len cap) m) w wr → Dk ((wr.setCell ⟨p, 1, none⟩ (.slice none 0 0)).setCell ⟨p, 2, none⟩ (.map none)) p q (.slice none 0 0) none (S.set yes) ∧ Mv (Ow p q (.slice a len cap) m) w ((wr.setCell ⟨p, 1, none⟩ (.slice none 0 0)).setCell ⟨p, 2, none⟩ (.map none))) := fun wr hd hm => by
    refine ⟨⟨?_, ?_, World.ownsRow_nil _ _ _ _, rfl, hd.pq, by simp [Value.ownBlock], by simp [Value.ownBlock], by simp, by simp, by simp, HG.out.set yes⟩, ?_⟩
    · rw [heap_setCell_same _ p 2 _ 108 _ (heap_setCell_same _ p 1 _ 108 _ hd.blk)]; rfl
    · rw [set_other _ _ _ _ _ hd.pq.symm, set_other _ _ _ _ _ hd.pq.symm]; exact hd.las
    · exact hm.trans' (((Go1.of_mv (mv_set _ p 1 _) (.inl rfl)).mv).trans' ((Go1.of_mv (mv_set _ p 2 _) (.inl rfl)).mv))
  clear h hlen
  go_enter Tryz.func59, Tryz.ntmps59
  go_wp2
  go_loopw [12] (fun i wr' => ∃ k : Nat, k ≤ len ∧ i = .int .i64 (k : Int) ∧ Dk wr' p q (.slice a len cap) m (S.las (settled S.ls S.ws yes k)) ∧ Mv (Ow p q (.slice a len cap) m) w wr') (fun i _ => len - (intOf i).toNat)
  case atStart => exact ⟨0, Nat.zero_le _, rfl, HD.out, Mv.refl _ _⟩
  case round =>
    obtain ⟨k, hk, rfl, hd, hm⟩ := hrel
    have HDr := hide hd
    have HMr := hide hm
    clear hd hm c1
    by_cases hlt : k < len
    · rcases hnn with ⟨rfl, h0⟩ | ⟨g, rfl, hle⟩
      · omega
      · obtain ⟨⟨n, ys⟩, hx⟩ : ∃ x, S.ws[k]? = some x := ⟨_, List.getElem?_eq_getElem (by rw [← HL.out]; exact hlt)⟩
        have HX := hide hx
        obtain ⟨hn, hy, hby⟩ := HG.out.ws (n, ys) (List.mem_of_getElem? hx)
        have HY : Hid ((wv (n, ys)).length = 129) := by simp [wv, sv_len, hy, Hid]
        have HR0 : Hid (wr.rangeAt g (k * 129) (wv (n, ys))) := Dk.wr_at (S := S.las (settled S.ls S.ws yes k)) (by have := HDr.out; rw [HL.out] at this; exact this) k (n, ys) hx
        have HI : Hid ((Tryz.prog.info? 165).map (·.size) = some (wv (n, ys)).length) := by rw [Hid, HY.out]; exact size117
        have HI2 : Hid ((Tryz.prog.info? 165).map (·.size) = some (wv (n, ys)).toArray.size) := by rw [Hid, List.size_toArray, HY.out]; exact size117
        have HT : Hid ((wr.alloc (.cells z117 165)).heap[wr.heap.size]? = some (.cells z117 165 (0, 0))) := heap_alloc_new wr _
        have HZ : Hid (z117.size = (wv (n, ys)).toArray.size) := by simp only [Hid, List.size_toArray, HY.out]; rfl
        have H1 := hide (all_oneCell_toArray (wv_one (n, ys)))
        have HN := hide (heap_alloc_new wr (.cells (wv (n, ys)).toArray 165))
        have HB1 := hide (below_alloc wr (.cells (wv (n, ys)).toArray 165))
        have HD1 := hide (HDr.out.below HB1.out)
        have HM1 := hide (HMr.out.trans' (Go1.of_below (O := Ow p q (.slice (some ⟨g, 0, none⟩) len cap) m) HB1.out).mv)
        have HC2 := hide (HCl.out _ k HM1.out (by omega))
        have HYl := hide hy
        have HNl := hide hn
        have HBy := hide hby
        have HStep : Hid (settled S.ls S.ws yes (k + 1) = if yes k then (settled S.ls S.ws yes k).set n ys else settled S.ls S.ws yes k) := by
          rw [Hid, settled, List.getD_eq_getElem?_getD, hx]; rfl
        have hgm : (g : Nat) = g := rfl
        generalize hvv : (wv (n, ys)).toArray = vv at HI2 HZ H1 HN HB1 HD1 HM1 HC2
        have HVV := hide hvv
        clear hx hy hby hn hvv hgm
        go_wp2_with (first | (refine wpList_load_mid (by rfl) 165 (.tmp 15) (by rfl) g (k * 129) (by rfl) (wv (n, ys)) _ HR0.out Tryz.underlying165 rfl HI.out ?_; rw [HVV.out]) | (refine wpList_store_row (by rfl) 165 (.tmp 5) (.tmp 16) (by rfl) wr.heap.size vv (by rfl) (by rfl) 165 z117 HT.out HI2.out HZ.out H1.out ?_; rw [World.setRow_alloc_new]))
        obtain ⟨β, hβ⟩ : ∃ β, β = yes k := ⟨_, rfl⟩
        rw [← hβ] at HC2 HStep
        clear hβ
        refine HC2.out.mono ?_
        rintro e w2 ⟨rfl, hb2⟩
        have HD2 := hide (HD1.out.below hb2)
        have HM2 := hide (HM1.out.trans' (Go1.of_below (O := Ow p q (.slice (some ⟨g, 0, none⟩) len cap) m) hb2).mv)
        have HN2 : Hid (w2.heap[wr.heap.size]? = some (.cells vv 165 (0, 0))) := (hb2.block _ (lt_of_block HN.out)).trans HN.out
        clear hb2 HC2
        cases β
        · go_wp2
          go_roundw
          case rel => exact ⟨k + 1, by omega, by go_num, by rw [HStep.out]; exact HD2.out, HM2.out⟩
          case measure => simp [intOf]; omega
        · have HLn : Hid ((settled S.ls S.ws yes k).length = S.ls.length) := settled_len _ _ _ _
          have HI110 : Hid ((Tryz.prog.info? 114).map (·.size) = some (sv ys).length) := by rw [Hid, sv_len, HYl.out]; exact size110
          have hqr : q < wr.heap.size := HDr.out.lt q (.inr (.inl rfl))
          have hpr : p < wr.heap.size := HDr.out.lt p (.inl rfl)
          have HD2d := hide (HD2.out.below (Below.refl _ _).drew)
          have HQ : Hid (w2.drew.heap[q]? = some (.cells (flat (settled S.ls S.ws yes k)).toArray 114 (0, 0))) := HD2.out.las
          have HFit : Hid (n * 128 + (sv ys).length ≤ (flat (settled S.ls S.ws yes k)).toArray.size) := by
            have e1 := flat_len (settled S.ls S.ws yes k) (fun s hs => (HD2.out.good.ls s hs).1)
            have e2 := HLn.out
            have e3 := HNl.out
            rw [Hid, sv_len, HYl.out, List.size_toArray, e1, e2]
            omega
          have HD3 := hide (HD2d.out.put n ys (by show n < (settled S.ls S.ws yes k).length; rw [HLn.out]; exact HNl.out) HYl.out HBy.out)
          have HM3 := hide (HM2.out.trans' (Mv.trans' (Go1.of_below (O := Ow p q (.slice (some ⟨g, 0, none⟩) len cap) m) (Below.refl _ w2).drew).mv (Go1.of_mv (mv_setRow w2.drew q ((flat (settled S.ls S.ws yes k)).take (n * 128) ++ sv ys ++ (flat (settled S.ls S.ws yes k)).drop (n * 128 + (sv ys).length)).toArray) (.inr (.inl rfl))).mv))
          obtain ⟨Ln, HLe, hLn, hnL⟩ : ∃ Ln, Hid (Ln = S.ls.length) ∧ Ln ≤ 131072 ∧ n < Ln := ⟨_, rfl, HG.out.most, HNl.out⟩
          have HS2 : Hid (∀ W : World, W.heap[p]? = w2.heap[p]? → W.heap[wr.heap.size]? = w2.heap[wr.heap.size]? → W.cell? ⟨p, 0, none⟩ = some (.slice (some ⟨q, 0, none⟩) Ln Ln) ∧ W.cell? ⟨wr.heap.size, 0, none⟩ = some (.int .i64 (n : Int)) ∧ W.rangeAt wr.heap.size 1 (sv ys)) := fun W e1 e2 => by
            refine ⟨?_, ?_, fun j v hv => ?_⟩
            · rw [World.cell?_of_block (w := w2) e1, HD2.out.c 0 _ rfl]
              show some (Value.slice _ (settled S.ls S.ws yes k).length (settled S.ls S.ws yes k).length) = _
              rw [HLn.out, ← HLe.out]
            · rw [World.cell?_of_block (w := w2) e2, cell_of_row w2 _ 0 _ 165 (0, 0) HN2.out, ← HVV.out]
              simp [wv]
            · rw [World.cell?_of_block (w := w2) e2, cell_of_row w2 _ (1 + j) _ 165 (0, 0) HN2.out, ← HVV.out, Nat.add_comm 1 j]
              simpa [wv] using hv
          have HS0 := hide (HS2.out w2.drew rfl rfl)
          have HS3 := hide (HS2.out (w2.drew.setRow q ((flat (settled S.ls S.ws yes k)).take (n * 128) ++ sv ys ++ (flat (settled S.ls S.ws yes k)).drop (n * 128 + (sv ys).length)).toArray) (setRow_other w2.drew q p _ (fun e => HDr.out.pq e)) (setRow_other w2.drew q wr.heap.size _ (by omega)))
          obtain ⟨W3, HW3⟩ : ∃ W3, Hid (W3 = w2.drew.setRow q ((flat (settled S.ls S.ws yes k)).take (n * 128) ++ sv ys ++ (flat (settled S.ls S.ws yes k)).drop (n * 128 + (sv ys).length)).toArray) := ⟨_, rfl⟩
          have HD3' : Hid (Dk W3 p q (.slice (some ⟨g, 0, none⟩) len cap) m (S.las ((settled S.ls S.ws yes k).set n ys))) := by rw [HW3.out]; exact HD3.out
          rw [← HW3.out] at HM3 HS3
          clear HD3
          go_wp2
          refine wp_region_noPanic ?_
          refine wp_region_held_drew (S := (fun W => W.cell? ⟨p, 0, none⟩ = some (.slice (some ⟨q, 0, none⟩) Ln Ln) ∧ W.cell? ⟨wr.heap.size, 0, none⟩ = some (.int .i64 (n : Int)) ∧ W.rangeAt wr.heap.size 1 (sv ys))) (by kernel_rfl) HS0.out (fun _hS => ?_)
          refine wpAnyH_take (i := 0) (oi := { dst := some 20, op := Op.move (Operand.tmp 0), type := 26, pos := "cache.go:28", after := #[], guard := none }) (v := ?v0x1) rfl (by kernel_rfl) (by kernel_rfl) (by kernel_rfl) (fun _ _ _ h => h) (Or.inl ⟨by rfl, ?hy0x1⟩) (by assumption) ?rest0x1
          case hy0x1 => (intro w hSw; (try dsimp only at hSw); (first | (go_simp; with_reducible rfl) | go_simp))
          try simp only [Act.put, List.setIfInBounds_toArray, List.set_cons_zero, List.set_cons_succ]
          refine wpAnyH_take (i := 1) (oi := { dst := some 21, op := Op.nilCheck (Operand.tmp 20), type := 0, pos := "cache.go:28", after := #[{ on := 0, ground := Ground.data }], guard := none }) (v := ?v1x2) rfl (by kernel_rfl) (by kernel_rfl) (by kernel_rfl) (fun _ _ _ h => h) (Or.inl ⟨by rfl, ?hy1x2⟩) (by assumption) ?rest1x2
          case hy1x2 => (intro w hSw; (try dsimp only at hSw); (first | (go_simp; with_reducible rfl) | go_simp))
          try simp only [Act.put, List.setIfInBounds_toArray, List.set_cons_zero, List.set_cons_succ]
          refine wpAnyH_take (i := 2) (oi := { dst := some 22, op := Op.fieldAddr 108 (Operand.tmp 21) 0, type := 0, pos := "cache.go:28", after := #[{ on := 1, ground := Ground.data }], guard := none }) (v := ?v2x3) rfl (by kernel_rfl) (by kernel_rfl) (by kernel_rfl) (fun _ _ _ h => h) (Or.inl ⟨by rfl, ?hy2x3⟩) (by assumption) ?rest2x3
          case hy2x3 => (intro w hSw; (try dsimp only at hSw); (first | (go_simp; with_reducible rfl) | go_simp))
          try simp only [Act.put, List.setIfInBounds_toArray, List.set_cons_zero, List.set_cons_succ]
          refine wpAnyH_take (i := 3) (oi := { dst := some 23, op := Op.load 98 (Operand.tmp 22), type := 98, pos := "cache.go:28", after := #[{ on := 2, ground := Ground.data }], guard := none }) (v := ?v3x4) rfl (by kernel_rfl) (by kernel_rfl) (by kernel_rfl) (fun _ _ _ h => h) (Or.inl ⟨by rfl, ?hy3x4⟩) (by assumption) ?rest3x4
          case hy3x4 => (intro w hSw; (try dsimp only at hSw); (first | (go_simp; with_reducible rfl) | go_simp))
          try simp only [Act.put, List.setIfInBounds_toArray, List.set_cons_zero, List.set_cons_succ]
          refine wpAnyH_take (i := 4) (oi := { dst := some 24, op := Op.fieldAddr 165 (Operand.tmp 5) 0, type := 0, pos := "cache.go:28", after := #[], guard := none }) (v := ?v4x5) rfl (by kernel_rfl) (by kernel_rfl) (by kernel_rfl) (fun _ _ _ h => h) (Or.inl ⟨by rfl, ?hy4x5⟩) (by assumption) ?rest4x5
          case hy4x5 => (intro w hSw; (try dsimp only at hSw); (first | (go_simp; with_reducible rfl) | go_simp))
          try simp only [Act.put, List.setIfInBounds_toArray, List.set_cons_zero, List.set_cons_succ]
          refine wpAnyH_take (i := 5) (oi := { dst := some 25, op := Op.load 3 (Operand.tmp 24), type := 3, pos := "cache.go:28", after := #[{ on := 4, ground := Ground.data }], guard := none }) (v := ?v5x6) rfl (by kernel_rfl) (by kernel_rfl) (by kernel_rfl) (fun _ _ _ h => h) (Or.inl ⟨by rfl, ?hy5x6⟩) (by assumption) ?rest5x6
          case hy5x6 => (intro w hSw; (try dsimp only at hSw); (first | (go_simp; with_reducible rfl) | go_simp))
          try simp only [Act.put, List.setIfInBounds_toArray, List.set_cons_zero, List.set_cons_succ]
          refine wpAnyH_take (i := 6) (oi := { dst := some 26, op := Op.fieldAddr 165 (Operand.tmp 5) 1, type := 0, pos := "cache.go:28", after := #[], guard := none }) (v := ?v6x7) rfl (by kernel_rfl) (by kernel_rfl) (by kernel_rfl) (fun _ _ _ h => h) (Or.inl ⟨by rfl, ?hy6x7⟩) (by assumption) ?rest6x7
          case hy6x7 => (intro w hSw; (try dsimp only at hSw); (first | (go_simp; with_reducible rfl) | go_simp))
          try simp only [Act.put, List.setIfInBounds_toArray, List.set_cons_zero, List.set_cons_succ]
          refine wpAnyH_take (i := 7) (oi := { dst := some 27, op := Op.load 114 (Operand.tmp 26), type := 114, pos := "cache.go:28", after := #[{ on := 6, ground := Ground.data }], guard := none }) (v := .agg (sv ys).toArray) rfl (by kernel_rfl) (by kernel_rfl) (by kernel_rfl) (fun _ _ _ h => h) (yieldsIf_load_mid (by rfl) 114 (.tmp 26) (by rfl) wr.heap.size 1 (by rfl) (sv ys) _ (fun w h => h.2.2) Tryz.underlying114 rfl HI110.out) (by assumption) ?_
          try simp only [Act.put, List.setIfInBounds_toArray, List.set_cons_zero, List.set_cons_succ]
          refine wpAnyH_take (i := 8) (oi := { dst := some 28, op := Op.indexAddr 98 (Operand.tmp 23) (Operand.tmp 25), type := 0, pos := "cache.go:28", after := #[{ on := 3, ground := Ground.data }, { on := 5, ground := Ground.data }, { on := 0, ground := Ground.phase }, { on := 1, ground := Ground.phase }, { on := 2, ground := Ground.phase }, { on := 3, ground := Ground.phase }, { on := 4, ground := Ground.phase }, { on := 5, ground := Ground.phase }, { on := 6, ground := Ground.phase }, { on := 7, ground := Ground.phase }], guard := none }) (v := ?v8x8) rfl (by kernel_rfl) (by kernel_rfl) (by kernel_rfl) (fun _ _ _ h => h) (Or.inl ⟨by rfl, ?hy8x8⟩) (by assumption) ?rest8x8
          case hy8x8 => (intro w hSw; (try dsimp only at hSw); (first | (go_simp; with_reducible rfl) | go_simp))
          try simp only [Act.put, List.setIfInBounds_toArray, List.set_cons_zero, List.set_cons_succ]
          refine wpAnyH_ready (rs := [9]) (by kernel_rfl) (by simp) ?_
          refine AllReadyH.cons (o := { dst := none, op := Op.store 114 (Operand.tmp 28) (Operand.tmp 27), type := 0, pos := "cache.go:28", after := #[{ on := 8, ground := Ground.data }, { on := 7, ground := Ground.data }, { on := 0, ground := Ground.phase }, { on := 1, ground := Ground.phase }, { on := 2, ground := Ground.phase }, { on := 3, ground := Ground.phase }, { on := 4, ground := Ground.phase }, { on := 5, ground := Ground.phase }, { on := 6, ground := Ground.phase }, { on := 7, ground := Ground.phase }], guard := none }) rfl (fun K hK => ?_) AllReadyH.nil
          refine step_of rfl ?_
          refine wp_store_atL 114 (.tmp 28) (.tmp 27) rfl q (n * 128) (sv ys) rfl rfl 114 (flat (settled S.ls S.ws yes k)) HQ.out HI110.out HFit.out (sv_one ys) W3 HW3.out ?_
          refine hK.out _ _ HS3.out (fun _hS => ?_)
          clear hK K
          try simp only [Act.put]
          refine wpAnyH_done (by kernel_rfl) ?_ _
          refine NoPanic.normal ?_
          go_wp2
          go_roundw
          case rel => exact ⟨k + 1, by omega, by go_num, by rw [HStep.out]; exact HD3'.out, HM3.out⟩
          case measure => simp [intOf]; omega
    · have e : k = len := by omega
      subst e
      have HE := hide (HF.out wr (by rw [← HL.out]; exact HDr.out) HMr.out)
      have c1 := HDr.out.c 1 _ rfl
      have c2 := HDr.out.c 2 _ rfl
      have f1 := HDr.out.f 1
      have f2 := HDr.out.f 2
      go_wp2
      go_end0
      exact ⟨rfl, HE.out⟩

set_option maxHeartbeats 3200000 in
set_option maxRecDepth 1000000 in
theorem settle_some (p q : Nat) (vw : Value) (m : Option Nat) (S : DS) (kb : Nat) (ka : Option Addr) (kc : Nat) (bs : List Bool) (w : World) (h : Dk w p q vw m S) (h0 : w.cell? ⟨kb, 0, none⟩ = some (.slice ka bs.length kc)) (hkb : ¬ Ow p q vw m kb) (hbr : BRow w ka bs) (hka : bs ≠ [] → ∀ ad, ka = some ad → ¬ Ow p q vw m ad.block) (hbl : bs.length ≤ 9223372036854775807) :
    Calls Tryz.prog 59 #[.pointer (some ⟨p, 0, none⟩), .func (.func 60) #[] #[.pointer (some ⟨kb, 0, none⟩)]] w fun e w' => e = .returned (.tuple #[]) ∧ Dk w' p q (.slice none 0 0) none (S.set (kp bs)) ∧ Mv (Ow p q vw m) w w' := by
  have HD := hide h
  have HG := hide h.good
  have c1 := h.c 1 vw rfl
  have HCl : Hid (∀ W (k : Nat), Mv (Ow p q vw m) w W → k ≤ 1000000 → Calls Tryz.prog 60 #[.int .i64 (k : Int), .pointer (some ⟨kb, 0, none⟩)] W fun e w' => e = .returned (.bool ((kp bs) k)) ∧ Below W.heap.size W w') := fun W k hm hk => one_kept kb ka kc bs k W (hm.cell h0 hkb) (hbr.mv hm hka) hk hbl
  obtain ⟨a, len, cap, rfl, hlen, hnn⟩ : ∃ a len cap, vw = .slice a len cap ∧ len = S.ws.length ∧ (a = none ∧ len = 0 ∨ ∃ g, a = some ⟨g, 0, none⟩ ∧ len ≤ cap) := by
    rcases h.wri.2 with ⟨e, e2⟩ | ⟨g, cap, cur, e, _, _, hle, _⟩
    · exact ⟨none, 0, 0, e, e2.symm, .inl ⟨rfl, rfl⟩⟩
    · exact ⟨_, _, cap, e, rfl, .inr ⟨g, rfl, hle⟩⟩
  have HL := hide hlen
  have hfew : len ≤ 1000000 := by rw [hlen]; exact h.good.few
  have hbt := (zero117)
  have hbd94 : ∀ W, (Instr.build 102 #[]).run Tryz.prog W = .ok (.agg #[.slice none 0 0, .map none]) W := fun W => run_build W 102 #[] _ (by kernel_rfl)
  have HF : Hid (∀ wr, Dk wr p q (.slice a len cap) m (S.las (settled S.ls S.ws (kp bs) S.ws.length)) → Mv (Ow p q (.slice a len cap) m) w wr → Dk ((wr.setCell ⟨p, 1, none⟩ (.slice none 0 0)).setCell ⟨p, 2, none⟩ (.map none)) p q (.slice none 0 0) none (S.set (kp bs)) ∧ Mv (Ow p q (.slice a len cap) m) w ((wr.setCell ⟨p, 1, none⟩ (.slice none 0 0)).setCell ⟨p, 2, none⟩ (.map none))) := fun wr hd hm => by
    refine ⟨⟨?_, ?_, World.ownsRow_nil _ _ _ _, rfl, hd.pq, by simp [Value.ownBlock], by simp [Value.ownBlock], by simp, by simp, by simp, HG.out.set (kp bs)⟩, ?_⟩
    · rw [heap_setCell_same _ p 2 _ 108 _ (heap_setCell_same _ p 1 _ 108 _ hd.blk)]; rfl
    · rw [set_other _ _ _ _ _ hd.pq.symm, set_other _ _ _ _ _ hd.pq.symm]; exact hd.las
    · exact hm.trans' (((Go1.of_mv (mv_set _ p 1 _) (.inl rfl)).mv).trans' ((Go1.of_mv (mv_set _ p 2 _) (.inl rfl)).mv))
  clear h hlen
  go_enter Tryz.func59, Tryz.ntmps59
  go_wp2
  go_loopw [12] (fun i wr' => ∃ k : Nat, k ≤ len ∧ i = .int .i64 (k : Int) ∧ Dk wr' p q (.slice a len cap) m (S.las (settled S.ls S.ws (kp bs) k)) ∧ Mv (Ow p q (.slice a len cap) m) w wr') (fun i _ => len - (intOf i).toNat)
  case atStart => exact ⟨0, Nat.zero_le _, rfl, HD.out, Mv.refl _ _⟩
  case round =>
    obtain ⟨k, hk, rfl, hd, hm⟩ := hrel
    have HDr := hide hd
    have HMr := hide hm
    clear hd hm c1
    by_cases hlt : k < len
    · rcases hnn with ⟨rfl, h0⟩ | ⟨g, rfl, hle⟩
      · omega
      · obtain ⟨⟨n, ys⟩, hx⟩ : ∃ x, S.ws[k]? = some x := ⟨_, List.getElem?_eq_getElem (by rw [← HL.out]; exact hlt)⟩
        have HX := hide hx
        obtain ⟨hn, hy, hby⟩ := HG.out.ws (n, ys) (List.mem_of_getElem? hx)
        have HY : Hid ((wv (n, ys)).length = 129) := by simp [wv, sv_len, hy, Hid]
        have HR0 : Hid (wr.rangeAt g (k * 129) (wv (n, ys))) := Dk.wr_at (S := S.las (settled S.ls S.ws (kp bs) k)) (by have := HDr.out; rw [HL.out] at this; exact this) k (n, ys) hx
        have HI : Hid ((Tryz.prog.info? 165).map (·.size) = some (wv (n, ys)).length) := by rw [Hid, HY.out]; exact size117
        have HI2 : Hid ((Tryz.prog.info? 165).map (·.size) = some (wv (n, ys)).toArray.size) := by rw [Hid, List.size_toArray, HY.out]; exact size117
        have HT : Hid ((wr.alloc (.cells z117 165)).heap[wr.heap.size]? = some (.cells z117 165 (0, 0))) := heap_alloc_new wr _
        have HZ : Hid (z117.size = (wv (n, ys)).toArray.size) := by simp only [Hid, List.size_toArray, HY.out]; rfl
        have H1 := hide (all_oneCell_toArray (wv_one (n, ys)))
        have HN := hide (heap_alloc_new wr (.cells (wv (n, ys)).toArray 165))
        have HB1 := hide (below_alloc wr (.cells (wv (n, ys)).toArray 165))
        have HD1 := hide (HDr.out.below HB1.out)
        have HM1 := hide (HMr.out.trans' (Go1.of_below (O := Ow p q (.slice (some ⟨g, 0, none⟩) len cap) m) HB1.out).mv)
        have HC2 := hide (HCl.out _ k HM1.out (by omega))
        have HYl := hide hy
        have HNl := hide hn
        have HBy := hide hby
        have HStep : Hid (settled S.ls S.ws (kp bs) (k + 1) = if (kp bs) k then (settled S.ls S.ws (kp bs) k).set n ys else settled S.ls S.ws (kp bs) k) := by
          rw [Hid, settled, List.getD_eq_getElem?_getD, hx]; rfl
        have hgm : (g : Nat) = g := rfl
        generalize hvv : (wv (n, ys)).toArray = vv at HI2 HZ H1 HN HB1 HD1 HM1 HC2
        have HVV := hide hvv
        clear hx hy hby hn hvv hgm
        go_wp2_with (first | (refine wpList_load_mid (by rfl) 165 (.tmp 15) (by rfl) g (k * 129) (by rfl) (wv (n, ys)) _ HR0.out Tryz.underlying165 rfl HI.out ?_; rw [HVV.out]) | (refine wpList_store_row (by rfl) 165 (.tmp 5) (.tmp 16) (by rfl) wr.heap.size vv (by rfl) (by rfl) 165 z117 HT.out HI2.out HZ.out H1.out ?_; rw [World.setRow_alloc_new]))
        obtain ⟨β, hβ⟩ : ∃ β, β = (kp bs) k := ⟨_, rfl⟩
        rw [← hβ] at HC2 HStep
        clear hβ
        refine HC2.out.mono ?_
        rintro e w2 ⟨rfl, hb2⟩
        have HD2 := hide (HD1.out.below hb2)
        have HM2 := hide (HM1.out.trans' (Go1.of_below (O := Ow p q (.slice (some ⟨g, 0, none⟩) len cap) m) hb2).mv)
        have HN2 : Hid (w2.heap[wr.heap.size]? = some (.cells vv 165 (0, 0))) := (hb2.block _ (lt_of_block HN.out)).trans HN.out
        clear hb2 HC2
        cases β
        · go_wp2
          go_roundw
          case rel => exact ⟨k + 1, by omega, by go_num, by rw [HStep.out]; exact HD2.out, HM2.out⟩
          case measure => simp [intOf]; omega
        · have HLn : Hid ((settled S.ls S.ws (kp bs) k).length = S.ls.length) := settled_len _ _ _ _
          have HI110 : Hid ((Tryz.prog.info? 114).map (·.size) = some (sv ys).length) := by rw [Hid, sv_len, HYl.out]; exact size110
          have hqr : q < wr.heap.size := HDr.out.lt q (.inr (.inl rfl))
          have hpr : p < wr.heap.size := HDr.out.lt p (.inl rfl)
          have HD2d := hide (HD2.out.below (Below.refl _ _).drew)
          have HQ : Hid (w2.drew.heap[q]? = some (.cells (flat (settled S.ls S.ws (kp bs) k)).toArray 114 (0, 0))) := HD2.out.las
          have HFit : Hid (n * 128 + (sv ys).length ≤ (flat (settled S.ls S.ws (kp bs) k)).toArray.size) := by
            have e1 := flat_len (settled S.ls S.ws (kp bs) k) (fun s hs => (HD2.out.good.ls s hs).1)
            have e2 := HLn.out
            have e3 := HNl.out
            rw [Hid, sv_len, HYl.out, List.size_toArray, e1, e2]
            omega
          have HD3 := hide (HD2d.out.put n ys (by show n < (settled S.ls S.ws (kp bs) k).length; rw [HLn.out]; exact HNl.out) HYl.out HBy.out)
          have HM3 := hide (HM2.out.trans' (Mv.trans' (Go1.of_below (O := Ow p q (.slice (some ⟨g, 0, none⟩) len cap) m) (Below.refl _ w2).drew).mv (Go1.of_mv (mv_setRow w2.drew q ((flat (settled S.ls S.ws (kp bs) k)).take (n * 128) ++ sv ys ++ (flat (settled S.ls S.ws (kp bs) k)).drop (n * 128 + (sv ys).length)).toArray) (.inr (.inl rfl))).mv))
          obtain ⟨Ln, HLe, hLn, hnL⟩ : ∃ Ln, Hid (Ln = S.ls.length) ∧ Ln ≤ 131072 ∧ n < Ln := ⟨_, rfl, HG.out.most, HNl.out⟩
          have HS2 : Hid (∀ W : World, W.heap[p]? = w2.heap[p]? → W.heap[wr.heap.size]? = w2.heap[wr.heap.size]? → W.cell? ⟨p, 0, none⟩ = some (.slice (some ⟨q, 0, none⟩) Ln Ln) ∧ W.cell? ⟨wr.heap.size, 0, none⟩ = some (.int .i64 (n : Int)) ∧ W.rangeAt wr.heap.size 1 (sv ys)) := fun W e1 e2 => by
            refine ⟨?_, ?_, fun j v hv => ?_⟩
            · rw [World.cell?_of_block (w := w2) e1, HD2.out.c 0 _ rfl]
              show some (Value.slice _ (settled S.ls S.ws (kp bs) k).length (settled S.ls S.ws (kp bs) k).length) = _
              rw [HLn.out, ← HLe.out]
            · rw [World.cell?_of_block (w := w2) e2, cell_of_row w2 _ 0 _ 165 (0, 0) HN2.out, ← HVV.out]
              simp [wv]
            · rw [World.cell?_of_block (w := w2) e2, cell_of_row w2 _ (1 + j) _ 165 (0, 0) HN2.out, ← HVV.out, Nat.add_comm 1 j]
              simpa [wv] using hv
          have HS0 := hide (HS2.out w2.drew rfl rfl)
          have HS3 := hide (HS2.out (w2.drew.setRow q ((flat (settled S.ls S.ws (kp bs) k)).take (n * 128) ++ sv ys ++ (flat (settled S.ls S.ws (kp bs) k)).drop (n * 128 + (sv ys).length)).toArray) (setRow_other w2.drew q p _ (fun e => HDr.out.pq e)) (setRow_other w2.drew q wr.heap.size _ (by omega)))
          obtain ⟨W3, HW3⟩ : ∃ W3, Hid (W3 = w2.drew.setRow q ((flat (settled S.ls S.ws (kp bs) k)).take (n * 128) ++ sv ys ++ (flat (settled S.ls S.ws (kp bs) k)).drop (n * 128 + (sv ys).length)).toArray) := ⟨_, rfl⟩
          have HD3' : Hid (Dk W3 p q (.slice (some ⟨g, 0, none⟩) len cap) m (S.las ((settled S.ls S.ws (kp bs) k).set n ys))) := by rw [HW3.out]; exact HD3.out
          rw [← HW3.out] at HM3 HS3
          clear HD3
          go_wp2
          refine wp_region_noPanic ?_
          refine wp_region_held_drew (S := (fun W => W.cell? ⟨p, 0, none⟩ = some (.slice (some ⟨q, 0, none⟩) Ln Ln) ∧ W.cell? ⟨wr.heap.size, 0, none⟩ = some (.int .i64 (n : Int)) ∧ W.rangeAt wr.heap.size 1 (sv ys))) (by kernel_rfl) HS0.out (fun _hS => ?_)
          refine wpAnyH_take (i := 0) (oi := { dst := some 20, op := Op.move (Operand.tmp 0), type := 26, pos := "cache.go:28", after := #[], guard := none }) (v := ?v0x701) rfl (by kernel_rfl) (by kernel_rfl) (by kernel_rfl) (fun _ _ _ h => h) (Or.inl ⟨by rfl, ?hy0x701⟩) (by assumption) ?rest0x701
          case hy0x701 => (intro w hSw; (try dsimp only at hSw); (first | (go_simp; with_reducible rfl) | go_simp))
          try simp only [Act.put, List.setIfInBounds_toArray, List.set_cons_zero, List.set_cons_succ]
          refine wpAnyH_take (i := 1) (oi := { dst := some 21, op := Op.nilCheck (Operand.tmp 20), type := 0, pos := "cache.go:28", after := #[{ on := 0, ground := Ground.data }], guard := none }) (v := ?v1x702) rfl (by kernel_rfl) (by kernel_rfl) (by kernel_rfl) (fun _ _ _ h => h) (Or.inl ⟨by rfl, ?hy1x702⟩) (by assumption) ?rest1x702
          case hy1x702 => (intro w hSw; (try dsimp only at hSw); (first | (go_simp; with_reducible rfl) | go_simp))
          try simp only [Act.put, List.setIfInBounds_toArray, List.set_cons_zero, List.set_cons_succ]
          refine wpAnyH_take (i := 2) (oi := { dst := some 22, op := Op.fieldAddr 108 (Operand.tmp 21) 0, type := 0, pos := "cache.go:28", after := #[{ on := 1, ground := Ground.data }], guard := none }) (v := ?v2x703) rfl (by kernel_rfl) (by kernel_rfl) (by kernel_rfl) (fun _ _ _ h => h) (Or.inl ⟨by rfl, ?hy2x703⟩) (by assumption) ?rest2x703
          case hy2x703 => (intro w hSw; (try dsimp only at hSw); (first | (go_simp; with_reducible rfl) | go_simp))
          try simp only [Act.put, List.setIfInBounds_toArray, List.set_cons_zero, List.set_cons_succ]
          refine wpAnyH_take (i := 3) (oi := { dst := some 23, op := Op.load 98 (Operand.tmp 22), type := 98, pos := "cache.go:28", after := #[{ on := 2, ground := Ground.data }], guard := none }) (v := ?v3x704) rfl (by kernel_rfl) (by kernel_rfl) (by kernel_rfl) (fun _ _ _ h => h) (Or.inl ⟨by rfl, ?hy3x704⟩) (by assumption) ?rest3x704
          case hy3x704 => (intro w hSw; (try dsimp only at hSw); (first | (go_simp; with_reducible rfl) | go_simp))
          try simp only [Act.put, List.setIfInBounds_toArray, List.set_cons_zero, List.set_cons_succ]
          refine wpAnyH_take (i := 4) (oi := { dst := some 24, op := Op.fieldAddr 165 (Operand.tmp 5) 0, type := 0, pos := "cache.go:28", after := #[], guard := none }) (v := ?v4x705) rfl (by kernel_rfl) (by kernel_rfl) (by kernel_rfl) (fun _ _ _ h => h) (Or.inl ⟨by rfl, ?hy4x705⟩) (by assumption) ?rest4x705
          case hy4x705 => (intro w hSw; (try dsimp only at hSw); (first | (go_simp; with_reducible rfl) | go_simp))
          try simp only [Act.put, List.setIfInBounds_toArray, List.set_cons_zero, List.set_cons_succ]
          refine wpAnyH_take (i := 5) (oi := { dst := some 25, op := Op.load 3 (Operand.tmp 24), type := 3, pos := "cache.go:28", after := #[{ on := 4, ground := Ground.data }], guard := none }) (v := ?v5x706) rfl (by kernel_rfl) (by kernel_rfl) (by kernel_rfl) (fun _ _ _ h => h) (Or.inl ⟨by rfl, ?hy5x706⟩) (by assumption) ?rest5x706
          case hy5x706 => (intro w hSw; (try dsimp only at hSw); (first | (go_simp; with_reducible rfl) | go_simp))
          try simp only [Act.put, List.setIfInBounds_toArray, List.set_cons_zero, List.set_cons_succ]
          refine wpAnyH_take (i := 6) (oi := { dst := some 26, op := Op.fieldAddr 165 (Operand.tmp 5) 1, type := 0, pos := "cache.go:28", after := #[], guard := none }) (v := ?v6x707) rfl (by kernel_rfl) (by kernel_rfl) (by kernel_rfl) (fun _ _ _ h => h) (Or.inl ⟨by rfl, ?hy6x707⟩) (by assumption) ?rest6x707
          case hy6x707 => (intro w hSw; (try dsimp only at hSw); (first | (go_simp; with_reducible rfl) | go_simp))
          try simp only [Act.put, List.setIfInBounds_toArray, List.set_cons_zero, List.set_cons_succ]
          refine wpAnyH_take (i := 7) (oi := { dst := some 27, op := Op.load 114 (Operand.tmp 26), type := 114, pos := "cache.go:28", after := #[{ on := 6, ground := Ground.data }], guard := none }) (v := .agg (sv ys).toArray) rfl (by kernel_rfl) (by kernel_rfl) (by kernel_rfl) (fun _ _ _ h => h) (yieldsIf_load_mid (by rfl) 114 (.tmp 26) (by rfl) wr.heap.size 1 (by rfl) (sv ys) _ (fun w h => h.2.2) Tryz.underlying114 rfl HI110.out) (by assumption) ?_
          try simp only [Act.put, List.setIfInBounds_toArray, List.set_cons_zero, List.set_cons_succ]
          refine wpAnyH_take (i := 8) (oi := { dst := some 28, op := Op.indexAddr 98 (Operand.tmp 23) (Operand.tmp 25), type := 0, pos := "cache.go:28", after := #[{ on := 3, ground := Ground.data }, { on := 5, ground := Ground.data }, { on := 0, ground := Ground.phase }, { on := 1, ground := Ground.phase }, { on := 2, ground := Ground.phase }, { on := 3, ground := Ground.phase }, { on := 4, ground := Ground.phase }, { on := 5, ground := Ground.phase }, { on := 6, ground := Ground.phase }, { on := 7, ground := Ground.phase }], guard := none }) (v := ?v8x708) rfl (by kernel_rfl) (by kernel_rfl) (by kernel_rfl) (fun _ _ _ h => h) (Or.inl ⟨by rfl, ?hy8x708⟩) (by assumption) ?rest8x708
          case hy8x708 => (intro w hSw; (try dsimp only at hSw); (first | (go_simp; with_reducible rfl) | go_simp))
          try simp only [Act.put, List.setIfInBounds_toArray, List.set_cons_zero, List.set_cons_succ]
          refine wpAnyH_ready (rs := [9]) (by kernel_rfl) (by simp) ?_
          refine AllReadyH.cons (o := { dst := none, op := Op.store 114 (Operand.tmp 28) (Operand.tmp 27), type := 0, pos := "cache.go:28", after := #[{ on := 8, ground := Ground.data }, { on := 7, ground := Ground.data }, { on := 0, ground := Ground.phase }, { on := 1, ground := Ground.phase }, { on := 2, ground := Ground.phase }, { on := 3, ground := Ground.phase }, { on := 4, ground := Ground.phase }, { on := 5, ground := Ground.phase }, { on := 6, ground := Ground.phase }, { on := 7, ground := Ground.phase }], guard := none }) rfl (fun K hK => ?_) AllReadyH.nil
          refine step_of rfl ?_
          refine wp_store_atL 114 (.tmp 28) (.tmp 27) rfl q (n * 128) (sv ys) rfl rfl 114 (flat (settled S.ls S.ws (kp bs) k)) HQ.out HI110.out HFit.out (sv_one ys) W3 HW3.out ?_
          refine hK.out _ _ HS3.out (fun _hS => ?_)
          clear hK K
          try simp only [Act.put]
          refine wpAnyH_done (by kernel_rfl) ?_ _
          refine NoPanic.normal ?_
          go_wp2
          go_roundw
          case rel => exact ⟨k + 1, by omega, by go_num, by rw [HStep.out]; exact HD3'.out, HM3.out⟩
          case measure => simp [intOf]; omega
    · have e : k = len := by omega
      subst e
      have HE := hide (HF.out wr (by rw [← HL.out]; exact HDr.out) HMr.out)
      have c1 := HDr.out.c 1 _ rfl
      have c2 := HDr.out.c 2 _ rfl
      have f1 := HDr.out.f 1
      have f2 := HDr.out.f 2
      go_wp2
      go_end0
      exact ⟨rfl, HE.out⟩
end Go.Proofs.YtobokocpapfjbaaGreat
