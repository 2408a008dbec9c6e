/- The document's own disk in memory: it has the same states. -/
import Derived.Test.YtobokocpapfjbaaGreatDT
namespace Go.Proofs.YtobokocpapfjbaaGreat
open Go.RowKit Go.Maps
set_option linter.unusedVariables false

/-- a countdown as the document has it: -1 where there is none. -/
def ft (s : Bool) (l : Int) : Int := if s then l else -1
/-- a sector's bytes: a row that is never turned. -/
def Sl (w : World) (v : Value) (zs : List Int) : Prop := Own w v zs
theorem Sl.stays {w w' : World} {v : Value} {zs : List Int} (h : Sl w v zs) (hb : ∀ k, v.ownBlock = some k → k < w.heap.size → w'.heap[k]? = w.heap[k]?) (hs : w.heap.size ≤ w'.heap.size) : Sl w' v zs := Own.of_block h fun k hk => hb k hk (Own.lt h hk)
theorem Own.sl {w : World} {v : Value} {zs : List Int} (h : Own w v zs) : Sl w v zs := h
theorem Sl.shape {w : World} {v : Value} {zs : List Int} (h : Sl w v zs) : ∃ a c, v = .slice a zs.length c ∧ zs.length ≤ c ∧ c ≤ maxLen ∧ (a = none → zs.length = 0 ∧ c = 0) ∧ Row w a zs := by
  obtain ⟨a, c, e, h1, h2, h3, h4, -⟩ := Own.shape h
  exact ⟨a, c, e, h1, h2, h3, h4⟩
/-- the cells of the cache's writes. -/
def rwc : List (Nat × List Int) → List Value → List Value
  | x :: ws, v :: vs => .int .i64 (x.1 : Int) :: v :: rwc ws vs
  | _, _ => []
theorem rwc_len : ∀ (ws : List (Nat × List Int)) (vs : List Value), ws.length = vs.length → (rwc ws vs).length = ws.length * 2
  | [], [], _ => rfl
  | x :: ws, v :: vs, h => by simp [rwc, rwc_len ws vs (by simpa using h)]; omega
  | [], _ :: _, h => by simp at h
  | _ :: _, [], h => by simp at h
theorem rwc_at : ∀ (ws : List (Nat × List Int)) (vs : List Value) (i : Nat) (x : Nat × List Int) (v : Value), ws[i]? = some x → vs[i]? = some v → (rwc ws vs)[i * 2]? = some (.int .i64 (x.1 : Int)) ∧ (rwc ws vs)[i * 2 + 1]? = some v
  | [], _, i, x, v, h, _ => by simp at h
  | _ :: _, [], i, x, v, _, h => by simp at h
  | y :: ws, u :: vs, 0, x, v, h1, h2 => by simp at h1 h2; subst h1 h2; exact ⟨rfl, rfl⟩
  | y :: ws, u :: vs, i + 1, x, v, h1, h2 => by
    have := rwc_at ws vs i x v (by simpa using h1) (by simpa using h2)
    rw [show (i + 1) * 2 = i * 2 + 1 + 1 by omega]
    exact this
theorem rwc_snoc : ∀ (ws : List (Nat × List Int)) (vs : List Value) (x : Nat × List Int) (v : Value), ws.length = vs.length → rwc (ws ++ [x]) (vs ++ [v]) = rwc ws vs ++ [.int .i64 (x.1 : Int), v]
  | [], [], x, v, _ => rfl
  | y :: ws, u :: vs, x, v, h => by simp [rwc, rwc_snoc ws vs x v (by simpa using h)]
  | [], _ :: _, _, _, h => by simp at h
  | _ :: _, [], _, _, h => by simp at h
/-- the struct's cells. -/
def rcells (vl vc : Value) (f : Nat) (S : DS) : Array Value := #[vl, vc, .bool S.dk, .int .i64 (ft S.ts S.tl), .slice (some ⟨f, 0, none⟩) 4 4, .int .i64 S.n1, .int .i64 S.n2, .int .i64 S.n3]
def fcells (S : DS) : Array Value := #[.int .i64 (-1), .int .i64 (ft S.s1 S.l1), .int .i64 (ft S.s2 S.l2), .int .i64 (ft S.s3 S.l3)]
structure RD (w : World) (p : Nat) (vl : Value) (Ls : List Value) (vc : Value) (Cs : List Value) (f : Nat) (S : DS) : Prop where
  blk : w.heap[p]? = some (.cells (rcells vl vc f S) 88 (0, 0))
  las : w.ownsRow 0 22 1 vl S.ls.length Ls
  lle : Ls.length = S.ls.length
  lsl : ∀ (i : Nat) (zs : List Int) (v : Value), S.ls[i]? = some zs → Ls[i]? = some v → Sl w v zs
  cac : w.ownsRow 0 118 2 vc S.ws.length (rwc S.ws Cs)
  cle : Cs.length = S.ws.length
  csl : ∀ (i : Nat) (x : Nat × List Int) (v : Value), S.ws[i]? = some x → Cs[i]? = some v → Sl w v x.2
  fau : w.heap[f]? = some (.cells (fcells S) 3 (0, 0))
  good : S.Good
/-- the blocks of the document's disk. -/
def OwR (p : Nat) (vl : Value) (Ls : List Value) (vc : Value) (Cs : List Value) (f : Nat) (k : Nat) : Prop := k = p ∨ vl.ownBlock = some k ∨ vc.ownBlock = some k ∨ k = f ∨ (∃ v ∈ Ls, v.ownBlock = some k) ∨ (∃ v ∈ Cs, v.ownBlock = some k)
variable {w w' : World} {p f : Nat} {vl vc : Value} {Ls Cs : List Value} {S S' : DS}
theorem RD.c (h : RD w p vl Ls vc Cs f S) (i : Nat) (v : Value) (hv : (rcells vl vc f S)[i]? = some v) : w.cell? ⟨p, i, none⟩ = some v := by simp [World.cell?, h.blk, hv]
theorem RD.fz (h : RD w p vl Ls vc Cs f S) (i : Nat) : w.frozen? ⟨p, i, none⟩ = false := by simp [World.frozen?, h.blk]
theorem RD.fc (h : RD w p vl Ls vc Cs f S) (i : Nat) (v : Value) (hv : (fcells S)[i]? = some v) : w.cell? ⟨f, i, none⟩ = some v := by simp [World.cell?, h.fau, hv]
theorem RD.ff (h : RD w p vl Ls vc Cs f S) (i : Nat) : w.frozen? ⟨f, i, none⟩ = false := by simp [World.frozen?, h.fau]
theorem row_type {w : World} {t sz : Nat} {v : Value} {n : Nat} {xs : List Value} (h : w.ownsRow 0 t sz v n xs) {k : Nat} (hk : v.ownBlock = some k) : ∃ cur g, w.heap[k]? = some (.cells cur t g) := by
  rcases h.2 with ⟨rfl, _⟩ | ⟨g, cap, cur, rfl, _, hh, _⟩
  · simp [Value.ownBlock] at hk
  · simp [Value.ownBlock] at hk
    subst hk
    exact ⟨_, _, hh⟩
theorem row_keep {w w' : World} {t sz : Nat} {v : Value} {n : Nat} {xs : List Value} (h : w.ownsRow 0 t sz v n xs) (hb : ∀ k, v.ownBlock = some k → w'.heap[k]? = w.heap[k]?) : w'.ownsRow 0 t sz v n xs := by
  obtain ⟨h1, h2⟩ := h
  refine ⟨h1, ?_⟩
  rcases h2 with h2 | ⟨g, cap, cur, rfl, hg, hh, r⟩
  · exact .inl h2
  · exact .inr ⟨g, cap, cur, rfl, hg, by rw [hb g rfl]; exact hh, r⟩
theorem RD.lt (h : RD w p vl Ls vc Cs f S) (k : Nat) (hk : k = p ∨ vl.ownBlock = some k ∨ vc.ownBlock = some k ∨ k = f) : k < w.heap.size := by
  rcases hk with rfl | hk | hk | rfl
  · exact lt_of_block h.blk
  · exact (h.las.lt k hk).2
  · exact (h.cac.lt k hk).2
  · exact lt_of_block h.fau
/-- a disk whose own blocks are as they were is as it was. -/
theorem RD.stays (h : RD w p vl Ls vc Cs f S) (hb : ∀ k, OwR p vl Ls vc Cs f k → k < w.heap.size → w'.heap[k]? = w.heap[k]?) (hs : w.heap.size ≤ w'.heap.size) : RD w' p vl Ls vc Cs f S := by
  refine ⟨(hb p (.inl rfl) (h.lt p (.inl rfl))).trans h.blk, row_keep h.las fun k hk => hb k (.inr (.inl hk)) (h.lt k (.inr (.inl hk))), h.lle, fun i zs v h1 h2 => (h.lsl i zs v h1 h2).stays (fun k hk hl => hb k (.inr (.inr (.inr (.inr (.inl ⟨v, List.mem_of_getElem? h2, hk⟩))))) hl) hs, row_keep h.cac fun k hk => hb k (.inr (.inr (.inl hk))) (h.lt k (.inr (.inr (.inl hk)))), h.cle, fun i x v h1 h2 => (h.csl i x v h1 h2).stays (fun k hk hl => hb k (.inr (.inr (.inr (.inr (.inr ⟨v, List.mem_of_getElem? h2, hk⟩))))) hl) hs, (hb f (.inr (.inr (.inr (.inl rfl)))) (h.lt f (.inr (.inr (.inr rfl))))).trans h.fau, h.good⟩
theorem RD.below (h : RD w p vl Ls vc Cs f S) (hb : Below w.heap.size w w') : RD w' p vl Ls vc Cs f S := h.stays (fun k _ hl => hb.block k hl) hb.size
theorem RD.pf (h : RD w p vl Ls vc Cs f S) : p ≠ f := fun e => by
  have := h.blk
  rw [e, h.fau] at this
  simp at this
/-- bytes lie in no block of another kind. -/
theorem Sl.type {v : Value} {zs : List Int} (h : Sl w v zs) {k : Nat} (hk : v.ownBlock = some k) : ∃ cur g, w.heap[k]? = some (.cells cur 5 g) := row_type h hk
/-- fields of the struct and faults are turned, all else stays. -/
theorem RD.fields (h : RD w p vl Ls vc Cs f S) (h1 : S'.ls = S.ls) (h2 : S'.ws = S.ws) (hg : S'.Good) (hbp : w'.heap[p]? = some (.cells (rcells vl vc f S') 88 (0, 0))) (hbf : w'.heap[f]? = some (.cells (fcells S') 3 (0, 0))) (hm : Mv (fun k => k = p ∨ k = f) w w') : RD w' p vl Ls vc Cs f S' := by
  have hnb : ∀ {t sz : Nat} {v : Value} {n : Nat} {xs : List Value}, w.ownsRow 0 t sz v n xs → t ≠ 88 → t ≠ 3 → ∀ k, v.ownBlock = some k → w'.heap[k]? = w.heap[k]? := fun ho ht1 ht2 k hk => by
    obtain ⟨cur, g, hh⟩ := row_type ho hk
    refine hm.block k (lt_of_block hh) (fun hx => ?_)
    rcases hx with rfl | rfl
    · rw [h.blk] at hh; simp at hh; exact ht1 hh.2.1.symm
    · rw [h.fau] at hh; simp at hh; exact ht2 hh.2.1.symm
  have hsl : ∀ v zs, Sl w v zs → Sl w' v zs := fun v zs hs => hs.stays (fun k hk hl => hm.block k hl (fun hx => by
    obtain ⟨cur, g, hh⟩ := hs.type hk
    rcases hx with rfl | rfl
    · rw [h.blk] at hh; simp at hh
    · rw [h.fau] at hh; simp at hh)) hm.size
  refine ⟨hbp, ?_, by rw [h1]; exact h.lle, fun i zs v g1 g2 => ?_, ?_, by rw [h2]; exact h.cle, fun i x v g1 g2 => ?_, hbf, hg⟩
  · rw [h1]; exact row_keep h.las (hnb h.las (by decide) (by decide))
  · rw [h1] at g1
    exact hsl v zs (h.lsl i zs v g1 g2)
  · rw [h2]; exact row_keep h.cac (hnb h.cac (by decide) (by decide))
  · rw [h2] at g1
    exact hsl v x.2 (h.csl i x v g1 g2)
end Go.Proofs.YtobokocpapfjbaaGreat
/- May an operation be done? The document's own disk. -/
namespace Go.Proofs.YtobokocpapfjbaaGreat
open Go.RowKit Go.Maps
set_option linter.unusedVariables false
set_option linter.unusedSimpArgs false
variable {w w' : World} {p f : Nat} {vl vc : Value} {Ls Cs : List Value} {S S' : DS}

theorem Mv.mono' {O O' : Nat → Prop} (h : Mv O w w') (ho : ∀ k, O k → O' k) : Mv O' w w' := ⟨h.os, h.tape, h.output, h.size, fun k hk hn => h.block k hk fun x => hn (ho k x)⟩
theorem sets_nil (w : World) (p : Nat) : sets w p [] = w := rfl
/-- cells of the struct are turned, then cells of the faults. -/
theorem RD.turned (h : RD w p vl Ls vc Cs f S) (lp lf : List (Nat × Value)) (h1 : S'.ls = S.ls) (h2 : S'.ws = S.ws) (hg : S'.Good) (hp : lp.foldl (fun C x => C.setIfInBounds x.1 x.2) (rcells vl vc f S) = rcells vl vc f S') (hf : lf.foldl (fun C x => C.setIfInBounds x.1 x.2) (fcells S) = fcells S') :
    RD (sets (sets w p lp) f lf) p vl Ls vc Cs f S' ∧ Mv (fun k => k = p ∨ k = f) w (sets (sets w p lp) f lf) := by
  have hm : Mv (fun k => k = p ∨ k = f) w (sets (sets w p lp) f lf) := ((sets_mv p lp w).mono' fun k hk => .inl hk).trans' ((sets_mv f lf _).mono' fun k hk => .inr hk)
  refine ⟨h.fields h1 h2 hg ?_ ?_ hm, hm⟩
  · rw [sets_other f p h.pf, sets_blk p 88 lp w _ h.blk, hp]
  · rw [sets_blk f 3 lf _ _ ((sets_other p f (fun e => h.pf e.symm) lp w).trans h.fau), hf]
theorem bft (b : Bool) : b = false ∨ b = true := by cases b <;> simp
theorem tick_ft (l : Int) : tick false l = (false, false, l) := rfl
set_option maxHeartbeats 3200000 in
set_option maxRecDepth 1000000 in
theorem begins1 (h : RD w p vl Ls vc Cs f S) (hn : S.n1 + 1 ≤ 1000000) :
    Calls Tryz.prog 42 #[.pointer (some ⟨p, 0, none⟩), .int .i64 1] w fun e w' => e = .returned (.int .u16 (S.er S.s1 S.l1 : Int)) ∧ RD w' p vl Ls vc Cs f (S.be S.op1) ∧ Mv (fun k => k = p ∨ k = f) w w' := by
  have hls : (S.be S.op1).ls = S.ls := by unfold DS.be; split; rfl; split <;> rfl
  have hws : (S.be S.op1).ws = S.ws := by unfold DS.be; split; rfl; split <;> rfl
  have hgd : (S.be S.op1).Good := DS.be_good h.good (h.good.op1 hn)
  have hn0 := h.good.n1.1
  have ht := h.good.t
  have hf := h.good.f1
  have c2 := h.c 2 (.bool S.dk) rfl
  have c3 := h.c 3 (.int .i64 (ft S.ts S.tl)) rfl
  have c4 := h.c 4 (.slice (some ⟨f, 0, none⟩) 4 4) rfl
  have c5 := h.c 5 (.int .i64 S.n1) rfl
  have g1 := h.fc 1 (.int .i64 (ft S.s1 S.l1)) rfl
  have z2 := h.fz 2
  have z3 := h.fz 3
  have z5 := h.fz 5
  have y1 := h.ff 1
  have hpf := h.pf
  have hfp : f ≠ p := fun e => hpf e.symm
  rcases bft S.dk with hdk | hdk
  · rcases bft S.ts with hts | hts
    · rcases bft S.s1 with hs | hs
      · have HF := hide (h.turned (S' := S.be S.op1) [(5, .int .i64 (S.n1 + 1))] [] hls hws hgd (by simp [rcells, DS.be, DS.op1, DS.tr, DS.out, tick, ft, hdk, hts, hs]) (by simp [fcells, DS.be, DS.op1, DS.tr, DS.out, tick, ft, hdk, hts, hs]))
        have HEr : Hid (S.er S.s1 S.l1 = 0) := by simp [Hid, DS.er, tick, hdk, hts, hs]
        rw [HEr.out]
        rw [show ft S.ts S.tl = -1 by simp [ft, hts]] at c3
        rw [hdk] at c2
        rw [show ft S.s1 S.l1 = -1 by simp [ft, hs]] at g1
        clear hls hws hgd h
        go_enter Tryz.func42, Tryz.ntmps42
        go_wp2
        go_ret
        exact ⟨rfl, HF.out⟩
      · by_cases hl : S.l1 = 0
        · have HF := hide (h.turned (S' := S.be S.op1) [(5, .int .i64 (S.n1 + 1))] [(1, .int .i64 (-1))] hls hws hgd (by simp [rcells, DS.be, DS.op1, DS.tr, DS.out, tick, ft, hdk, hts, hs, hl]) (by simp [fcells, DS.be, DS.op1, DS.tr, DS.out, tick, ft, hdk, hts, hs, hl]))
          have HEr : Hid (S.er S.s1 S.l1 = 6) := by simp [Hid, DS.er, tick, hdk, hts, hs, hl]
          rw [HEr.out]
          rw [show ft S.ts S.tl = -1 by simp [ft, hts]] at c3
          rw [hdk] at c2
          rw [show ft S.s1 S.l1 = 0 by simp [ft, hs, hl]] at g1
          clear hls hws hgd h
          go_enter Tryz.func42, Tryz.ntmps42
          go_wp2
          go_ret
          exact ⟨rfl, HF.out⟩
        · have HF := hide (h.turned (S' := S.be S.op1) [(5, .int .i64 (S.n1 + 1))] [(1, .int .i64 (S.l1 - 1))] hls hws hgd (by simp [rcells, DS.be, DS.op1, DS.tr, DS.out, tick, ft, hdk, hts, hs, hl]) (by simp [fcells, DS.be, DS.op1, DS.tr, DS.out, tick, ft, hdk, hts, hs, hl]))
          have HEr : Hid (S.er S.s1 S.l1 = 0) := by simp [Hid, DS.er, tick, hdk, hts, hs, hl]
          rw [HEr.out]
          rw [show ft S.ts S.tl = -1 by simp [ft, hts]] at c3
          rw [hdk] at c2
          rw [show ft S.s1 S.l1 = S.l1 by simp [ft, hs]] at g1
          have hl1 : 0 < S.l1 := by have := hf.1; omega
          have hl2 : S.l1 ≤ 9223372036854775807 := hf.2
          have hl3 : (S.l1 == 0) = false := by simpa using hl
          clear hls hws hgd h
          go_enter Tryz.func42, Tryz.ntmps42
          go_wp2
          go_ret
          exact ⟨rfl, HF.out⟩
    · by_cases htl : S.tl = 0
      · have HF := hide (h.turned (S' := S.be S.op1) [(2, .bool true), (3, .int .i64 (-1))] [] hls hws hgd (by simp [rcells, DS.be, DS.op1, DS.tr, DS.out, tick, ft, hdk, hts, htl]) (by simp [fcells, DS.be, DS.op1, DS.tr, DS.out, tick, ft, hdk, hts, htl]))
        have HEr : Hid (S.er S.s1 S.l1 = 4) := by simp [Hid, DS.er, tick, hdk, hts, htl]
        rw [HEr.out]
        rw [hdk] at c2
        rw [show ft S.ts S.tl = 0 by simp [ft, hts, htl]] at c3
        clear hls hws hgd h
        go_enter Tryz.func42, Tryz.ntmps42
        go_wp2
        go_ret
        exact ⟨rfl, HF.out⟩
      · rcases bft S.s1 with hs | hs
        · have HF := hide (h.turned (S' := S.be S.op1) [(3, .int .i64 (S.tl - 1)), (5, .int .i64 (S.n1 + 1))] [] hls hws hgd (by simp [rcells, DS.be, DS.op1, DS.tr, DS.out, tick, ft, hdk, hts, htl, hs]) (by simp [fcells, DS.be, DS.op1, DS.tr, DS.out, tick, ft, hdk, hts, htl, hs]))
          have HEr : Hid (S.er S.s1 S.l1 = 0) := by simp [Hid, DS.er, tick, hdk, hts, htl, hs]
          rw [HEr.out]
          rw [show ft S.ts S.tl = S.tl by simp [ft, hts]] at c3
          have ht1 : 0 < S.tl := by have := ht.1; omega
          have ht2 : S.tl ≤ 9223372036854775807 := ht.2
          have ht3 : (S.tl == 0) = false := by simpa using htl
          rw [hdk] at c2
          rw [show ft S.s1 S.l1 = -1 by simp [ft, hs]] at g1
          clear hls hws hgd h
          go_enter Tryz.func42, Tryz.ntmps42
          go_wp2
          go_ret
          exact ⟨rfl, HF.out⟩
        · by_cases hl : S.l1 = 0
          · have HF := hide (h.turned (S' := S.be S.op1) [(3, .int .i64 (S.tl - 1)), (5, .int .i64 (S.n1 + 1))] [(1, .int .i64 (-1))] hls hws hgd (by simp [rcells, DS.be, DS.op1, DS.tr, DS.out, tick, ft, hdk, hts, htl, hs, hl]) (by simp [fcells, DS.be, DS.op1, DS.tr, DS.out, tick, ft, hdk, hts, htl, hs, hl]))
            have HEr : Hid (S.er S.s1 S.l1 = 6) := by simp [Hid, DS.er, tick, hdk, hts, htl, hs, hl]
            rw [HEr.out]
            rw [show ft S.ts S.tl = S.tl by simp [ft, hts]] at c3
            have ht1 : 0 < S.tl := by have := ht.1; omega
            have ht2 : S.tl ≤ 9223372036854775807 := ht.2
            have ht3 : (S.tl == 0) = false := by simpa using htl
            rw [hdk] at c2
            rw [show ft S.s1 S.l1 = 0 by simp [ft, hs, hl]] at g1
            clear hls hws hgd h
            go_enter Tryz.func42, Tryz.ntmps42
            go_wp2
            go_ret
            exact ⟨rfl, HF.out⟩
          · have HF := hide (h.turned (S' := S.be S.op1) [(3, .int .i64 (S.tl - 1)), (5, .int .i64 (S.n1 + 1))] [(1, .int .i64 (S.l1 - 1))] hls hws hgd (by simp [rcells, DS.be, DS.op1, DS.tr, DS.out, tick, ft, hdk, hts, htl, hs, hl]) (by simp [fcells, DS.be, DS.op1, DS.tr, DS.out, tick, ft, hdk, hts, htl, hs, hl]))
            have HEr : Hid (S.er S.s1 S.l1 = 0) := by simp [Hid, DS.er, tick, hdk, hts, htl, hs, hl]
            rw [HEr.out]
            rw [show ft S.ts S.tl = S.tl by simp [ft, hts]] at c3
            have ht1 : 0 < S.tl := by have := ht.1; omega
            have ht2 : S.tl ≤ 9223372036854775807 := ht.2
            have ht3 : (S.tl == 0) = false := by simpa using htl
            rw [hdk] at c2
            rw [show ft S.s1 S.l1 = S.l1 by simp [ft, hs]] at g1
            have hl1 : 0 < S.l1 := by have := hf.1; omega
            have hl2 : S.l1 ≤ 9223372036854775807 := hf.2
            have hl3 : (S.l1 == 0) = false := by simpa using hl
            clear hls hws hgd h
            go_enter Tryz.func42, Tryz.ntmps42
            go_wp2
            go_ret
            exact ⟨rfl, HF.out⟩
  · have HF := hide (h.turned (S' := S.be S.op1) [] [] hls hws hgd (by simp [rcells, DS.be, DS.op1, DS.tr, DS.out, tick, ft, hdk]) (by simp [fcells, DS.be, DS.op1, DS.tr, DS.out, tick, ft, hdk]))
    have HEr : Hid (S.er S.s1 S.l1 = 4) := by simp [Hid, DS.er, tick, hdk]
    rw [HEr.out]
    rw [hdk] at c2
    clear hls hws hgd h
    go_enter Tryz.func42, Tryz.ntmps42
    go_wp2
    go_ret
    exact ⟨rfl, HF.out⟩
set_option maxHeartbeats 3200000 in
set_option maxRecDepth 1000000 in
theorem begins2 (h : RD w p vl Ls vc Cs f S) (hn : S.n2 + 1 ≤ 1000000) :
    Calls Tryz.prog 42 #[.pointer (some ⟨p, 0, none⟩), .int .i64 2] w fun e w' => e = .returned (.int .u16 (S.er S.s2 S.l2 : Int)) ∧ RD w' p vl Ls vc Cs f (S.be S.op2) ∧ Mv (fun k => k = p ∨ k = f) w w' := by
  have hls : (S.be S.op2).ls = S.ls := by unfold DS.be; split; rfl; split <;> rfl
  have hws : (S.be S.op2).ws = S.ws := by unfold DS.be; split; rfl; split <;> rfl
  have hgd : (S.be S.op2).Good := DS.be_good h.good (h.good.op2 hn)
  have hn0 := h.good.n2.1
  have ht := h.good.t
  have hf := h.good.f2
  have c2 := h.c 2 (.bool S.dk) rfl
  have c3 := h.c 3 (.int .i64 (ft S.ts S.tl)) rfl
  have c4 := h.c 4 (.slice (some ⟨f, 0, none⟩) 4 4) rfl
  have c5 := h.c 6 (.int .i64 S.n2) rfl
  have g1 := h.fc 2 (.int .i64 (ft S.s2 S.l2)) rfl
  have z2 := h.fz 2
  have z3 := h.fz 3
  have z5 := h.fz 6
  have y1 := h.ff 2
  have hpf := h.pf
  have hfp : f ≠ p := fun e => hpf e.symm
  rcases bft S.dk with hdk | hdk
  · rcases bft S.ts with hts | hts
    · rcases bft S.s2 with hs | hs
      · have HF := hide (h.turned (S' := S.be S.op2) [(6, .int .i64 (S.n2 + 1))] [] hls hws hgd (by simp [rcells, DS.be, DS.op2, DS.tr, DS.out, tick, ft, hdk, hts, hs]) (by simp [fcells, DS.be, DS.op2, DS.tr, DS.out, tick, ft, hdk, hts, hs]))
        have HEr : Hid (S.er S.s2 S.l2 = 0) := by simp [Hid, DS.er, tick, hdk, hts, hs]
        rw [HEr.out]
        rw [show ft S.ts S.tl = -1 by simp [ft, hts]] at c3
        rw [hdk] at c2
        rw [show ft S.s2 S.l2 = -1 by simp [ft, hs]] at g1
        clear hls hws hgd h
        go_enter Tryz.func42, Tryz.ntmps42
        go_wp2
        go_ret
        exact ⟨rfl, HF.out⟩
      · by_cases hl : S.l2 = 0
        · have HF := hide (h.turned (S' := S.be S.op2) [(6, .int .i64 (S.n2 + 1))] [(2, .int .i64 (-1))] hls hws hgd (by simp [rcells, DS.be, DS.op2, DS.tr, DS.out, tick, ft, hdk, hts, hs, hl]) (by simp [fcells, DS.be, DS.op2, DS.tr, DS.out, tick, ft, hdk, hts, hs, hl]))
          have HEr : Hid (S.er S.s2 S.l2 = 6) := by simp [Hid, DS.er, tick, hdk, hts, hs, hl]
          rw [HEr.out]
          rw [show ft S.ts S.tl = -1 by simp [ft, hts]] at c3
          rw [hdk] at c2
          rw [show ft S.s2 S.l2 = 0 by simp [ft, hs, hl]] at g1
          clear hls hws hgd h
          go_enter Tryz.func42, Tryz.ntmps42
          go_wp2
          go_ret
          exact ⟨rfl, HF.out⟩
        · have HF := hide (h.turned (S' := S.be S.op2) [(6, .int .i64 (S.n2 + 1))] [(2, .int .i64 (S.l2 - 1))] hls hws hgd (by simp [rcells, DS.be, DS.op2, DS.tr, DS.out, tick, ft, hdk, hts, hs, hl]) (by simp [fcells, DS.be, DS.op2, DS.tr, DS.out, tick, ft, hdk, hts, hs, hl]))
          have HEr : Hid (S.er S.s2 S.l2 = 0) := by simp [Hid, DS.er, tick, hdk, hts, hs, hl]
          rw [HEr.out]
          rw [show ft S.ts S.tl = -1 by simp [ft, hts]] at c3
          rw [hdk] at c2
          rw [show ft S.s2 S.l2 = S.l2 by simp [ft, hs]] at g1
          have hl1 : 0 < S.l2 := by have := hf.1; omega
          have hl2 : S.l2 ≤ 9223372036854775807 := hf.2
          have hl3 : (S.l2 == 0) = false := by simpa using hl
          clear hls hws hgd h
          go_enter Tryz.func42, Tryz.ntmps42
          go_wp2
          go_ret
          exact ⟨rfl, HF.out⟩
    · by_cases htl : S.tl = 0
      · have HF := hide (h.turned (S' := S.be S.op2) [(2, .bool true), (3, .int .i64 (-1))] [] hls hws hgd (by simp [rcells, DS.be, DS.op2, DS.tr, DS.out, tick, ft, hdk, hts, htl]) (by simp [fcells, DS.be, DS.op2, DS.tr, DS.out, tick, ft, hdk, hts, htl]))
        have HEr : Hid (S.er S.s2 S.l2 = 4) := by simp [Hid, DS.er, tick, hdk, hts, htl]
        rw [HEr.out]
        rw [hdk] at c2
        rw [show ft S.ts S.tl = 0 by simp [ft, hts, htl]] at c3
        clear hls hws hgd h
        go_enter Tryz.func42, Tryz.ntmps42
        go_wp2
        go_ret
        exact ⟨rfl, HF.out⟩
      · rcases bft S.s2 with hs | hs
        · have HF := hide (h.turned (S' := S.be S.op2) [(3, .int .i64 (S.tl - 1)), (6, .int .i64 (S.n2 + 1))] [] hls hws hgd (by simp [rcells, DS.be, DS.op2, DS.tr, DS.out, tick, ft, hdk, hts, htl, hs]) (by simp [fcells, DS.be, DS.op2, DS.tr, DS.out, tick, ft, hdk, hts, htl, hs]))
          have HEr : Hid (S.er S.s2 S.l2 = 0) := by simp [Hid, DS.er, tick, hdk, hts, htl, hs]
          rw [HEr.out]
          rw [show ft S.ts S.tl = S.tl by simp [ft, hts]] at c3
          have ht1 : 0 < S.tl := by have := ht.1; omega
          have ht2 : S.tl ≤ 9223372036854775807 := ht.2
          have ht3 : (S.tl == 0) = false := by simpa using htl
          rw [hdk] at c2
          rw [show ft S.s2 S.l2 = -1 by simp [ft, hs]] at g1
          clear hls hws hgd h
          go_enter Tryz.func42, Tryz.ntmps42
          go_wp2
          go_ret
          exact ⟨rfl, HF.out⟩
        · by_cases hl : S.l2 = 0
          · have HF := hide (h.turned (S' := S.be S.op2) [(3, .int .i64 (S.tl - 1)), (6, .int .i64 (S.n2 + 1))] [(2, .int .i64 (-1))] hls hws hgd (by simp [rcells, DS.be, DS.op2, DS.tr, DS.out, tick, ft, hdk, hts, htl, hs, hl]) (by simp [fcells, DS.be, DS.op2, DS.tr, DS.out, tick, ft, hdk, hts, htl, hs, hl]))
            have HEr : Hid (S.er S.s2 S.l2 = 6) := by simp [Hid, DS.er, tick, hdk, hts, htl, hs, hl]
            rw [HEr.out]
            rw [show ft S.ts S.tl = S.tl by simp [ft, hts]] at c3
            have ht1 : 0 < S.tl := by have := ht.1; omega
            have ht2 : S.tl ≤ 9223372036854775807 := ht.2
            have ht3 : (S.tl == 0) = false := by simpa using htl
            rw [hdk] at c2
            rw [show ft S.s2 S.l2 = 0 by simp [ft, hs, hl]] at g1
            clear hls hws hgd h
            go_enter Tryz.func42, Tryz.ntmps42
            go_wp2
            go_ret
            exact ⟨rfl, HF.out⟩
          · have HF := hide (h.turned (S' := S.be S.op2) [(3, .int .i64 (S.tl - 1)), (6, .int .i64 (S.n2 + 1))] [(2, .int .i64 (S.l2 - 1))] hls hws hgd (by simp [rcells, DS.be, DS.op2, DS.tr, DS.out, tick, ft, hdk, hts, htl, hs, hl]) (by simp [fcells, DS.be, DS.op2, DS.tr, DS.out, tick, ft, hdk, hts, htl, hs, hl]))
            have HEr : Hid (S.er S.s2 S.l2 = 0) := by simp [Hid, DS.er, tick, hdk, hts, htl, hs, hl]
            rw [HEr.out]
            rw [show ft S.ts S.tl = S.tl by simp [ft, hts]] at c3
            have ht1 : 0 < S.tl := by have := ht.1; omega
            have ht2 : S.tl ≤ 9223372036854775807 := ht.2
            have ht3 : (S.tl == 0) = false := by simpa using htl
            rw [hdk] at c2
            rw [show ft S.s2 S.l2 = S.l2 by simp [ft, hs]] at g1
            have hl1 : 0 < S.l2 := by have := hf.1; omega
            have hl2 : S.l2 ≤ 9223372036854775807 := hf.2
            have hl3 : (S.l2 == 0) = false := by simpa using hl
            clear hls hws hgd h
            go_enter Tryz.func42, Tryz.ntmps42
            go_wp2
            go_ret
            exact ⟨rfl, HF.out⟩
  · have HF := hide (h.turned (S' := S.be S.op2) [] [] hls hws hgd (by simp [rcells, DS.be, DS.op2, DS.tr, DS.out, tick, ft, hdk]) (by simp [fcells, DS.be, DS.op2, DS.tr, DS.out, tick, ft, hdk]))
    have HEr : Hid (S.er S.s2 S.l2 = 4) := by simp [Hid, DS.er, tick, hdk]
    rw [HEr.out]
    rw [hdk] at c2
    clear hls hws hgd h
    go_enter Tryz.func42, Tryz.ntmps42
    go_wp2
    go_ret
    exact ⟨rfl, HF.out⟩
set_option maxHeartbeats 3200000 in
set_option maxRecDepth 1000000 in
theorem begins3 (h : RD w p vl Ls vc Cs f S) (hn : S.n3 + 1 ≤ 1000000) :
    Calls Tryz.prog 42 #[.pointer (some ⟨p, 0, none⟩), .int .i64 3] w fun e w' => e = .returned (.int .u16 (S.er S.s3 S.l3 : Int)) ∧ RD w' p vl Ls vc Cs f (S.be S.op3) ∧ Mv (fun k => k = p ∨ k = f) w w' := by
  have hls : (S.be S.op3).ls = S.ls := by unfold DS.be; split; rfl; split <;> rfl
  have hws : (S.be S.op3).ws = S.ws := by unfold DS.be; split; rfl; split <;> rfl
  have hgd : (S.be S.op3).Good := DS.be_good h.good (h.good.op3 hn)
  have hn0 := h.good.n3.1
  have ht := h.good.t
  have hf := h.good.f3
  have c2 := h.c 2 (.bool S.dk) rfl
  have c3 := h.c 3 (.int .i64 (ft S.ts S.tl)) rfl
  have c4 := h.c 4 (.slice (some ⟨f, 0, none⟩) 4 4) rfl
  have c5 := h.c 7 (.int .i64 S.n3) rfl
  have g1 := h.fc 3 (.int .i64 (ft S.s3 S.l3)) rfl
  have z2 := h.fz 2
  have z3 := h.fz 3
  have z5 := h.fz 7
  have y1 := h.ff 3
  have hpf := h.pf
  have hfp : f ≠ p := fun e => hpf e.symm
  rcases bft S.dk with hdk | hdk
  · rcases bft S.ts with hts | hts
    · rcases bft S.s3 with hs | hs
      · have HF := hide (h.turned (S' := S.be S.op3) [(7, .int .i64 (S.n3 + 1))] [] hls hws hgd (by simp [rcells, DS.be, DS.op3, DS.tr, DS.out, tick, ft, hdk, hts, hs]) (by simp [fcells, DS.be, DS.op3, DS.tr, DS.out, tick, ft, hdk, hts, hs]))
        have HEr : Hid (S.er S.s3 S.l3 = 0) := by simp [Hid, DS.er, tick, hdk, hts, hs]
        rw [HEr.out]
        rw [show ft S.ts S.tl = -1 by simp [ft, hts]] at c3
        rw [hdk] at c2
        rw [show ft S.s3 S.l3 = -1 by simp [ft, hs]] at g1
        clear hls hws hgd h
        go_enter Tryz.func42, Tryz.ntmps42
        go_wp2
        go_ret
        exact ⟨rfl, HF.out⟩
      · by_cases hl : S.l3 = 0
        · have HF := hide (h.turned (S' := S.be S.op3) [(7, .int .i64 (S.n3 + 1))] [(3, .int .i64 (-1))] hls hws hgd (by simp [rcells, DS.be, DS.op3, DS.tr, DS.out, tick, ft, hdk, hts, hs, hl]) (by simp [fcells, DS.be, DS.op3, DS.tr, DS.out, tick, ft, hdk, hts, hs, hl]))
          have HEr : Hid (S.er S.s3 S.l3 = 6) := by simp [Hid, DS.er, tick, hdk, hts, hs, hl]
          rw [HEr.out]
          rw [show ft S.ts S.tl = -1 by simp [ft, hts]] at c3
          rw [hdk] at c2
          rw [show ft S.s3 S.l3 = 0 by simp [ft, hs, hl]] at g1
          clear hls hws hgd h
          go_enter Tryz.func42, Tryz.ntmps42
          go_wp2
          go_ret
          exact ⟨rfl, HF.out⟩
        · have HF := hide (h.turned (S' := S.be S.op3) [(7, .int .i64 (S.n3 + 1))] [(3, .int .i64 (S.l3 - 1))] hls hws hgd (by simp [rcells, DS.be, DS.op3, DS.tr, DS.out, tick, ft, hdk, hts, hs, hl]) (by simp [fcells, DS.be, DS.op3, DS.tr, DS.out, tick, ft, hdk, hts, hs, hl]))
          have HEr : Hid (S.er S.s3 S.l3 = 0) := by simp [Hid, DS.er, tick, hdk, hts, hs, hl]
          rw [HEr.out]
          rw [show ft S.ts S.tl = -1 by simp [ft, hts]] at c3
          rw [hdk] at c2
          rw [show ft S.s3 S.l3 = S.l3 by simp [ft, hs]] at g1
          have hl1 : 0 < S.l3 := by have := hf.1; omega
          have hl2 : S.l3 ≤ 9223372036854775807 := hf.2
          have hl3 : (S.l3 == 0) = false := by simpa using hl
          clear hls hws hgd h
          go_enter Tryz.func42, Tryz.ntmps42
          go_wp2
          go_ret
          exact ⟨rfl, HF.out⟩
    · by_cases htl : S.tl = 0
      · have HF := hide (h.turned (S' := S.be S.op3) [(2, .bool true), (3, .int .i64 (-1))] [] hls hws hgd (by simp [rcells, DS.be, DS.op3, DS.tr, DS.out, tick, ft, hdk, hts, htl]) (by simp [fcells, DS.be, DS.op3, DS.tr, DS.out, tick, ft, hdk, hts, htl]))
        have HEr : Hid (S.er S.s3 S.l3 = 4) := by simp [Hid, DS.er, tick, hdk, hts, htl]
        rw [HEr.out]
        rw [hdk] at c2
        rw [show ft S.ts S.tl = 0 by simp [ft, hts, htl]] at c3
        clear hls hws hgd h
        go_enter Tryz.func42, Tryz.ntmps42
        go_wp2
        go_ret
        exact ⟨rfl, HF.out⟩
      · rcases bft S.s3 with hs | hs
        · have HF := hide (h.turned (S' := S.be S.op3) [(3, .int .i64 (S.tl - 1)), (7, .int .i64 (S.n3 + 1))] [] hls hws hgd (by simp [rcells, DS.be, DS.op3, DS.tr, DS.out, tick, ft, hdk, hts, htl, hs]) (by simp [fcells, DS.be, DS.op3, DS.tr, DS.out, tick, ft, hdk, hts, htl, hs]))
          have HEr : Hid (S.er S.s3 S.l3 = 0) := by simp [Hid, DS.er, tick, hdk, hts, htl, hs]
          rw [HEr.out]
          rw [show ft S.ts S.tl = S.tl by simp [ft, hts]] at c3
          have ht1 : 0 < S.tl := by have := ht.1; omega
          have ht2 : S.tl ≤ 9223372036854775807 := ht.2
          have ht3 : (S.tl == 0) = false := by simpa using htl
          rw [hdk] at c2
          rw [show ft S.s3 S.l3 = -1 by simp [ft, hs]] at g1
          clear hls hws hgd h
          go_enter Tryz.func42, Tryz.ntmps42
          go_wp2
          go_ret
          exact ⟨rfl, HF.out⟩
        · by_cases hl : S.l3 = 0
          · have HF := hide (h.turned (S' := S.be S.op3) [(3, .int .i64 (S.tl - 1)), (7, .int .i64 (S.n3 + 1))] [(3, .int .i64 (-1))] hls hws hgd (by simp [rcells, DS.be, DS.op3, DS.tr, DS.out, tick, ft, hdk, hts, htl, hs, hl]) (by simp [fcells, DS.be, DS.op3, DS.tr, DS.out, tick, ft, hdk, hts, htl, hs, hl]))
            have HEr : Hid (S.er S.s3 S.l3 = 6) := by simp [Hid, DS.er, tick, hdk, hts, htl, hs, hl]
            rw [HEr.out]
            rw [show ft S.ts S.tl = S.tl by simp [ft, hts]] at c3
            have ht1 : 0 < S.tl := by have := ht.1; omega
            have ht2 : S.tl ≤ 9223372036854775807 := ht.2
            have ht3 : (S.tl == 0) = false := by simpa using htl
            rw [hdk] at c2
            rw [show ft S.s3 S.l3 = 0 by simp [ft, hs, hl]] at g1
            clear hls hws hgd h
            go_enter Tryz.func42, Tryz.ntmps42
            go_wp2
            go_ret
            exact ⟨rfl, HF.out⟩
          · have HF := hide (h.turned (S' := S.be S.op3) [(3, .int .i64 (S.tl - 1)), (7, .int .i64 (S.n3 + 1))] [(3, .int .i64 (S.l3 - 1))] hls hws hgd (by simp [rcells, DS.be, DS.op3, DS.tr, DS.out, tick, ft, hdk, hts, htl, hs, hl]) (by simp [fcells, DS.be, DS.op3, DS.tr, DS.out, tick, ft, hdk, hts, htl, hs, hl]))
            have HEr : Hid (S.er S.s3 S.l3 = 0) := by simp [Hid, DS.er, tick, hdk, hts, htl, hs, hl]
            rw [HEr.out]
            rw [show ft S.ts S.tl = S.tl by simp [ft, hts]] at c3
            have ht1 : 0 < S.tl := by have := ht.1; omega
            have ht2 : S.tl ≤ 9223372036854775807 := ht.2
            have ht3 : (S.tl == 0) = false := by simpa using htl
            rw [hdk] at c2
            rw [show ft S.s3 S.l3 = S.l3 by simp [ft, hs]] at g1
            have hl1 : 0 < S.l3 := by have := hf.1; omega
            have hl2 : S.l3 ≤ 9223372036854775807 := hf.2
            have hl3 : (S.l3 == 0) = false := by simpa using hl
            clear hls hws hgd h
            go_enter Tryz.func42, Tryz.ntmps42
            go_wp2
            go_ret
            exact ⟨rfl, HF.out⟩
  · have HF := hide (h.turned (S' := S.be S.op3) [] [] hls hws hgd (by simp [rcells, DS.be, DS.op3, DS.tr, DS.out, tick, ft, hdk]) (by simp [fcells, DS.be, DS.op3, DS.tr, DS.out, tick, ft, hdk]))
    have HEr : Hid (S.er S.s3 S.l3 = 4) := by simp [Hid, DS.er, tick, hdk]
    rw [HEr.out]
    rw [hdk] at c2
    clear hls hws hgd h
    go_enter Tryz.func42, Tryz.ntmps42
    go_wp2
    go_ret
    exact ⟨rfl, HF.out⟩
end Go.Proofs.YtobokocpapfjbaaGreat
