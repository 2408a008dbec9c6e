/- The document's own disk in memory: it has the same states. -/
import Derived.Test.YtkammfkknfflgaaDT
namespace Go.Proofs.Ytkammfkknfflgaa
open Go.RowKit Go.Maps
set_option linter.unusedVariables false

/-- a countdown as the document has it: -1 where there is none. -/
def ft (s : Bool) (l : Int) : Int := if s then l else -1
/-- a sector's bytes: a row that is never turned. -/
def Sl (w : World) (v : Value) (zs : List Int) : Prop := Own w v zs
theorem Sl.stays {w w' : World} {v : Value} {zs : List Int} (h : Sl w v zs) (hb : ∀ k, v.ownBlock = some k → k < w.heap.size → w'.heap[k]? = w.heap[k]?) (hs : w.heap.size ≤ w'.heap.size) : Sl w' v zs := Own.of_block h fun k hk => hb k hk (Own.lt h hk)
theorem Own.sl {w : World} {v : Value} {zs : List Int} (h : Own w v zs) : Sl w v zs := h
theorem Sl.shape {w : World} {v : Value} {zs : List Int} (h : Sl w v zs) : ∃ a c, v = .slice a zs.length c ∧ zs.length ≤ c ∧ c ≤ maxLen ∧ (a = none → zs.length = 0 ∧ c = 0) ∧ Row w a zs := by
  obtain ⟨a, c, e, h1, h2, h3, h4, -⟩ := Own.shape h
  exact ⟨a, c, e, h1, h2, h3, h4⟩
/-- the cells of the cache's writes. -/
def rwc : List (Nat × List Int) → List Value → List Value
  | x :: ws, v :: vs => .int .i64 (x.1 : Int) :: v :: rwc ws vs
  | _, _ => []
theorem rwc_len : ∀ (ws : List (Nat × List Int)) (vs : List Value), ws.length = vs.length → (rwc ws vs).length = ws.length * 2
  | [], [], _ => rfl
  | x :: ws, v :: vs, h => by simp [rwc, rwc_len ws vs (by simpa using h)]; omega
  | [], _ :: _, h => by simp at h
  | _ :: _, [], h => by simp at h
theorem rwc_at : ∀ (ws : List (Nat × List Int)) (vs : List Value) (i : Nat) (x : Nat × List Int) (v : Value), ws[i]? = some x → vs[i]? = some v → (rwc ws vs)[i * 2]? = some (.int .i64 (x.1 : Int)) ∧ (rwc ws vs)[i * 2 + 1]? = some v
  | [], _, i, x, v, h, _ => by simp at h
  | _ :: _, [], i, x, v, _, h => by simp at h
  | y :: ws, u :: vs, 0, x, v, h1, h2 => by simp at h1 h2; subst h1 h2; exact ⟨rfl, rfl⟩
  | y :: ws, u :: vs, i + 1, x, v, h1, h2 => by
    have := rwc_at ws vs i x v (by simpa using h1) (by simpa using h2)
    rw [show (i + 1) * 2 = i * 2 + 1 + 1 by omega]
    exact this
theorem rwc_snoc : ∀ (ws : List (Nat × List Int)) (vs : List Value) (x : Nat × List Int) (v : Value), ws.length = vs.length → rwc (ws ++ [x]) (vs ++ [v]) = rwc ws vs ++ [.int .i64 (x.1 : Int), v]
  | [], [], x, v, _ => rfl
  | y :: ws, u :: vs, x, v, h => by simp [rwc, rwc_snoc ws vs x v (by simpa using h)]
  | [], _ :: _, _, _, h => by simp at h
  | _ :: _, [], _, _, h => by simp at h
/-- the struct's cells. -/
def rcells (vl vc : Value) (f : Nat) (S : DS) : Array Value := #[vl, vc, .bool S.dk, .int .i64 (ft S.ts S.tl), .slice (some ⟨f, 0, none⟩) 4 4, .int .i64 S.n1, .int .i64 S.n2, .int .i64 S.n3]
def fcells (S : DS) : Array Value := #[.int .i64 (-1), .int .i64 (ft S.s1 S.l1), .int .i64 (ft S.s2 S.l2), .int .i64 (ft S.s3 S.l3)]
structure RD (w : World) (p : Nat) (vl : Value) (Ls : List Value) (vc : Value) (Cs : List Value) (f : Nat) (S : DS) : Prop where
  blk : w.heap[p]? = some (.cells (rcells vl vc f S) 100 (0, 0))
  las : w.ownsRow 0 63 1 vl S.ls.length Ls
  lle : Ls.length = S.ls.length
  lsl : ∀ (i : Nat) (zs : List Int) (v : Value), S.ls[i]? = some zs → Ls[i]? = some v → Sl w v zs
  cac : w.ownsRow 0 146 2 vc S.ws.length (rwc S.ws Cs)
  cle : Cs.length = S.ws.length
  csl : ∀ (i : Nat) (x : Nat × List Int) (v : Value), S.ws[i]? = some x → Cs[i]? = some v → Sl w v x.2
  fau : w.heap[f]? = some (.cells (fcells S) 3 (0, 0))
  good : S.Good
/-- the blocks of the document's disk. -/
def OwR (p : Nat) (vl : Value) (Ls : List Value) (vc : Value) (Cs : List Value) (f : Nat) (k : Nat) : Prop := k = p ∨ vl.ownBlock = some k ∨ vc.ownBlock = some k ∨ k = f ∨ (∃ v ∈ Ls, v.ownBlock = some k) ∨ (∃ v ∈ Cs, v.ownBlock = some k)
variable {w w' : World} {p f : Nat} {vl vc : Value} {Ls Cs : List Value} {S S' : DS}
theorem RD.c (h : RD w p vl Ls vc Cs f S) (i : Nat) (v : Value) (hv : (rcells vl vc f S)[i]? = some v) : w.cell? ⟨p, i, none⟩ = some v := by simp [World.cell?, h.blk, hv]
theorem RD.fz (h : RD w p vl Ls vc Cs f S) (i : Nat) : w.frozen? ⟨p, i, none⟩ = false := by simp [World.frozen?, h.blk]
theorem RD.fc (h : RD w p vl Ls vc Cs f S) (i : Nat) (v : Value) (hv : (fcells S)[i]? = some v) : w.cell? ⟨f, i, none⟩ = some v := by simp [World.cell?, h.fau, hv]
theorem RD.ff (h : RD w p vl Ls vc Cs f S) (i : Nat) : w.frozen? ⟨f, i, none⟩ = false := by simp [World.frozen?, h.fau]
theorem row_type {w : World} {t sz : Nat} {v : Value} {n : Nat} {xs : List Value} (h : w.ownsRow 0 t sz v n xs) {k : Nat} (hk : v.ownBlock = some k) : ∃ cur g, w.heap[k]? = some (.cells cur t g) := by
  rcases h.2 with ⟨rfl, _⟩ | ⟨g, cap, cur, rfl, _, hh, _⟩
  · simp [Value.ownBlock] at hk
  · simp [Value.ownBlock] at hk
    subst hk
    exact ⟨_, _, hh⟩
theorem row_keep {w w' : World} {t sz : Nat} {v : Value} {n : Nat} {xs : List Value} (h : w.ownsRow 0 t sz v n xs) (hb : ∀ k, v.ownBlock = some k → w'.heap[k]? = w.heap[k]?) : w'.ownsRow 0 t sz v n xs := by
  obtain ⟨h1, h2⟩ := h
  refine ⟨h1, ?_⟩
  rcases h2 with h2 | ⟨g, cap, cur, rfl, hg, hh, r⟩
  · exact .inl h2
  · exact .inr ⟨g, cap, cur, rfl, hg, by rw [hb g rfl]; exact hh, r⟩
theorem RD.lt (h : RD w p vl Ls vc Cs f S) (k : Nat) (hk : k = p ∨ vl.ownBlock = some k ∨ vc.ownBlock = some k ∨ k = f) : k < w.heap.size := by
  rcases hk with rfl | hk | hk | rfl
  · exact lt_of_block h.blk
  · exact (h.las.lt k hk).2
  · exact (h.cac.lt k hk).2
  · exact lt_of_block h.fau
/-- a disk whose own blocks are as they were is as it was. -/
theorem RD.stays (h : RD w p vl Ls vc Cs f S) (hb : ∀ k, OwR p vl Ls vc Cs f k → k < w.heap.size → w'.heap[k]? = w.heap[k]?) (hs : w.heap.size ≤ w'.heap.size) : RD w' p vl Ls vc Cs f S := by
  refine ⟨(hb p (.inl rfl) (h.lt p (.inl rfl))).trans h.blk, row_keep h.las fun k hk => hb k (.inr (.inl hk)) (h.lt k (.inr (.inl hk))), h.lle, fun i zs v h1 h2 => (h.lsl i zs v h1 h2).stays (fun k hk hl => hb k (.inr (.inr (.inr (.inr (.inl ⟨v, List.mem_of_getElem? h2, hk⟩))))) hl) hs, row_keep h.cac fun k hk => hb k (.inr (.inr (.inl hk))) (h.lt k (.inr (.inr (.inl hk)))), h.cle, fun i x v h1 h2 => (h.csl i x v h1 h2).stays (fun k hk hl => hb k (.inr (.inr (.inr (.inr (.inr ⟨v, List.mem_of_getElem? h2, hk⟩))))) hl) hs, (hb f (.inr (.inr (.inr (.inl rfl)))) (h.lt f (.inr (.inr (.inr rfl))))).trans h.fau, h.good⟩
theorem RD.below (h : RD w p vl Ls vc Cs f S) (hb : Below w.heap.size w w') : RD w' p vl Ls vc Cs f S := h.stays (fun k _ hl => hb.block k hl) hb.size
theorem RD.pf (h : RD w p vl Ls vc Cs f S) : p ≠ f := fun e => by
  have := h.blk
  rw [e, h.fau] at this
  simp at this
/-- bytes lie in no block of another kind. -/
theorem Sl.type {v : Value} {zs : List Int} (h : Sl w v zs) {k : Nat} (hk : v.ownBlock = some k) : ∃ cur g, w.heap[k]? = some (.cells cur 5 g) := row_type h hk
/-- fields of the struct and faults are turned, all else stays. -/
theorem RD.fields (h : RD w p vl Ls vc Cs f S) (h1 : S'.ls = S.ls) (h2 : S'.ws = S.ws) (hg : S'.Good) (hbp : w'.heap[p]? = some (.cells (rcells vl vc f S') 100 (0, 0))) (hbf : w'.heap[f]? = some (.cells (fcells S') 3 (0, 0))) (hm : Mv (fun k => k = p ∨ k = f) w w') : RD w' p vl Ls vc Cs f S' := by
  have hnb : ∀ {t sz : Nat} {v : Value} {n : Nat} {xs : List Value}, w.ownsRow 0 t sz v n xs → t ≠ 100 → t ≠ 3 → ∀ k, v.ownBlock = some k → w'.heap[k]? = w.heap[k]? := fun ho ht1 ht2 k hk => by
    obtain ⟨cur, g, hh⟩ := row_type ho hk
    refine hm.block k (lt_of_block hh) (fun hx => ?_)
    rcases hx with rfl | rfl
    · rw [h.blk] at hh; simp at hh; exact ht1 hh.2.1.symm
    · rw [h.fau] at hh; simp at hh; exact ht2 hh.2.1.symm
  have hsl : ∀ v zs, Sl w v zs → Sl w' v zs := fun v zs hs => hs.stays (fun k hk hl => hm.block k hl (fun hx => by
    obtain ⟨cur, g, hh⟩ := hs.type hk
    rcases hx with rfl | rfl
    · rw [h.blk] at hh; simp at hh
    · rw [h.fau] at hh; simp at hh)) hm.size
  refine ⟨hbp, ?_, by rw [h1]; exact h.lle, fun i zs v g1 g2 => ?_, ?_, by rw [h2]; exact h.cle, fun i x v g1 g2 => ?_, hbf, hg⟩
  · rw [h1]; exact row_keep h.las (hnb h.las (by decide) (by decide))
  · rw [h1] at g1
    exact hsl v zs (h.lsl i zs v g1 g2)
  · rw [h2]; exact row_keep h.cac (hnb h.cac (by decide) (by decide))
  · rw [h2] at g1
    exact hsl v x.2 (h.csl i x v g1 g2)
end Go.Proofs.Ytkammfkknfflgaa
