/- An act beside the pair. -/
import Derived.Test.YtkammfkknfflgaaUC
import Derived.Deep.RegionHeld3
namespace Go.Proofs.Ytkammfkknfflgaa
open Go.RowKit
set_option linter.unusedVariables false

def acv (x : Ac) : Array Value := #[.int .u8 (x.k : Int), .int .i64 x.pt, .int .i64 x.of, .slice x.da x.db.length x.dc, .slice x.ka x.kb.length x.kc]
structure Pa (x : Ac) (ab : Nat) (w0 w : World) (pp p q r bq n m : Nat) (S T : DS) (O O2 OB : Nat → Prop) : Prop where
  pr : Pr w0.heap.size w0 w pp p q r bq n m S T O O2 OB
  act : w.heap[ab]? = some (.cells (acv x) 96 (0, 0))
  ap : w0.heap.size ≤ ab ∧ ab ≠ pp ∧ ¬ O ab ∧ ¬ O2 ab ∧ ¬ OB ab
  ok : x.Ok w0
section
variable {x : Ac} {ab : Nat} {w0 w w' : World} {pp p q r bq n m : Nat} {S T S' T' : DS} {O O2 OB O' : Nat → Prop}
theorem Pa.cells (h : Pa x ab w0 w pp p q r bq n m S T O O2 OB) : w.cell? ⟨pp, 0, none⟩ = some (.pointer (some ⟨p, 0, none⟩)) ∧ w.cell? ⟨pp, 1, none⟩ = some (.pointer (some ⟨r, 0, none⟩)) ∧ w.cell? ⟨pp, 2, none⟩ = some (.pointer (some ⟨bq, 0, none⟩)) ∧ w.cell? ⟨ab, 1, none⟩ = some (.int .i64 x.pt) ∧ w.cell? ⟨ab, 2, none⟩ = some (.int .i64 x.of) ∧ w.cell? ⟨ab, 3, none⟩ = some (.slice x.da x.db.length x.dc) ∧ w.cell? ⟨ab, 4, none⟩ = some (.slice x.ka x.kb.length x.kc) :=
  ⟨h.pr.c0, h.pr.c1, h.pr.c2, by simp [World.cell?, h.act, acv], by simp [World.cell?, h.act, acv], by simp [World.cell?, h.act, acv], by simp [World.cell?, h.act, acv]⟩
theorem Pa.lt (h : Pa x ab w0 w pp p q r bq n m S T O O2 OB) : ab < w.heap.size := lt_of_block h.act
theorem Pa.moveD (h : Pa x ab w0 w pp p q r bq n m S T O O2 OB) (hd : DkAt w' p q S' O') (g : Go1 O w O' w') : Pa x ab w0 w' pp p q r bq n m S' T O' O2 OB :=
  ⟨h.pr.moveD hd g, (g.mv.block ab h.lt h.ap.2.2.1).trans h.act, ⟨h.ap.1, h.ap.2.1, fun e => (g.own ab e).elim h.ap.2.2.1 (fun e => by have := h.lt; omega), h.ap.2.2.2.1, h.ap.2.2.2.2⟩, h.ok⟩
theorem Pa.moveR (h : Pa x ab w0 w pp p q r bq n m S T O O2 OB) (hd : RdAt w' r T' O') (g : Go1 O2 w O' w') : Pa x ab w0 w' pp p q r bq n m S T' O O' OB :=
  ⟨h.pr.moveR hd g, (g.mv.block ab h.lt h.ap.2.2.2.1).trans h.act, ⟨h.ap.1, h.ap.2.1, h.ap.2.2.1, fun e => (g.own ab e).elim h.ap.2.2.2.1 (fun e => by have := h.lt; omega), h.ap.2.2.2.2⟩, h.ok⟩
theorem Pa.moveB {n' m' : Nat} {v : Value} (h : Pa x ab w0 w pp p q r bq n m S T O O2 OB) (ha : Apt w w0.heap.size pp O O2 OB v) (hab : v.ownBlock ≠ some ab) (hb : BkAt w' bq n' m' O') (hm : Mv OB w w') (g : ∀ k, O' k → OB k ∨ v.ownBlock = some k ∨ w.heap.size ≤ k) : Pa x ab w0 w' pp p q r bq n' m' S T O O2 O' :=
  ⟨h.pr.moveB ha hb hm g, (hm.block ab h.lt h.ap.2.2.2.2).trans h.act, ⟨h.ap.1, h.ap.2.1, h.ap.2.2.1, h.ap.2.2.2.1, fun e => by
    rcases g ab e with e | e | e
    · exact h.ap.2.2.2.2 e
    · exact hab e
    · have := h.lt; omega⟩, h.ok⟩
theorem Pa.below (h : Pa x ab w0 w pp p q r bq n m S T O O2 OB) (hb : Below w.heap.size w w') : Pa x ab w0 w' pp p q r bq n m S T O O2 OB :=
  ⟨h.pr.below hb, (hb.block ab h.lt).trans h.act, h.ap, h.ok⟩
theorem Pa.away {O1 : Nat → Prop} (h : Pa x ab w0 w pp p q r bq n m S T O O2 OB) (hm : Mv O1 w w') (hx : ∀ k, O1 k → w0.heap.size ≤ k ∧ k ≠ pp ∧ ¬ O k ∧ ¬ O2 k ∧ ¬ OB k) (ha : ¬ O1 ab) : Pa x ab w0 w' pp p q r bq n m S T O O2 OB :=
  ⟨h.pr.away hm hx, (hm.block ab h.lt ha).trans h.act, h.ap, h.ok⟩
theorem Pa.drew (h : Pa x ab w0 w pp p q r bq n m S T O O2 OB) : Pa x ab w0 w.drew pp p q r bq n m S T O O2 OB := h.below (Below.refl _ _).drew
theorem Pa.start (h : Pr w0.heap.size w0 w pp p q r bq n m S T O O2 OB) (hok : x.Ok w0) : Pa x w.heap.size w0 (w.alloc (.cells (acv x) 96)) pp p q r bq n m S T O O2 OB := by
  have h1 := h.size
  exact ⟨h.below (below_alloc w _), heap_alloc_new w _, ⟨h.Bsz, by omega, fun e => by have := h.d.lt _ e; omega, fun e => by have := h.r.lt _ e; omega, fun e => by have := h.b.lt _ e; omega⟩, hok⟩
/-- what was made since is no block of the act. -/
theorem Pa.newa {v : Value} {W : World} (h : Pa x ab w0 W pp p q r bq n m S T O O2 OB) (hn : News W v) : v.ownBlock ≠ some ab := fun e => by have := hn ab e; have := h.lt; omega
end
/-- what is told of a state, its counts and its cache. -/
structure Bd (S : DS) (L m : Nat) : Prop where
  ls : S.ls.length = L
  l8 : L % 8 = 0
  ws : S.ws.length ≤ 8 * m
  n1 : S.n1 ≤ m
  n2 : S.n2 ≤ m
  n3 : S.n3 ≤ m
theorem Bd.of {S S' : DS} {L m : Nat} (h : Bd S L m) (e : S'.ls.length = S.ls.length) (e1 : S'.ws.length ≤ S.ws.length + 8) (e2 : S'.n1 ≤ S.n1 + 1) (e3 : S'.n2 ≤ S.n2 + 1) (e4 : S'.n3 ≤ S.n3 + 1) : Bd S' L (m + 1) := by
  have h1 := h.ws
  have h2 := h.n1
  have h3 := h.n2
  have h4 := h.n3
  exact ⟨e.trans h.ls, h.l8, by omega, by omega, by omega, by omega⟩
def stp (S : DS) (x : Ac) : DS :=
  if x.k % 9 = 0 then S.be S.op1 else if x.k % 9 = 1 ∨ x.k % 9 = 2 then wrS S x.pt x.db else if x.k % 9 = 3 then S.sy else if x.k % 9 = 4 then S.cut x.kb else if x.k % 9 = 5 ∨ x.k % 9 = 6 then S else if x.k % 9 = 7 then trS S x.pt else flS S x.of x.pt
theorem be_bd {S S' : DS} {L m : Nat} (h : Bd S L m) (h' : Bd S' L (m + 1)) : Bd (S.be S') L (m + 1) := by
  unfold DS.be
  split
  · exact h.of rfl (by omega) (by omega) (by omega) (by omega)
  · split
    · exact h.of rfl (by show S.ws.length ≤ _; omega) (by show S.n1 ≤ _; omega) (by show S.n2 ≤ _; omega) (by show S.n3 ≤ _; omega)
    · exact h'
theorem op1_bd {S : DS} {L m : Nat} (h : Bd S L m) : Bd S.op1 L (m + 1) := h.of rfl (by show S.ws.length ≤ _; omega) (by show S.n1 + 1 ≤ _; omega) (by show S.n2 ≤ _; omega) (by show S.n3 ≤ _; omega)
theorem op2_bd {S : DS} {L m : Nat} (h : Bd S L m) : Bd S.op2 L (m + 1) := h.of rfl (by show S.ws.length ≤ _; omega) (by show S.n1 ≤ _; omega) (by show S.n2 + 1 ≤ _; omega) (by show S.n3 ≤ _; omega)
theorem op3_bd {S : DS} {L m : Nat} (h : Bd S L m) : Bd S.op3 L (m + 1) := h.of rfl (by show S.ws.length ≤ _; omega) (by show S.n1 ≤ _; omega) (by show S.n2 ≤ _; omega) (by show S.n3 + 1 ≤ _; omega)
theorem stp_bd {S : DS} {L m : Nat} (h : Bd S L m) (x : Ac) : Bd (stp S x) L (m + 1) := by
  have hid : Bd S L (m + 1) := h.of rfl (by omega) (by omega) (by omega) (by omega)
  have hadd : ∀ b zs k, k ≤ 8 → Bd (S.op2.adds b zs k) L (m + 1) := fun b zs k hk => h.of rfl (by rw [DS.adds_len]; show S.ws.length + k ≤ _; omega) (by show S.n1 ≤ _; omega) (by show S.n2 + 1 ≤ _; omega) (by show S.n3 ≤ _; omega)
  unfold stp
  split
  · exact be_bd h (op1_bd h)
  split
  · unfold wrS
    split
    · exact hadd _ _ _ (by omega)
    split
    · exact hadd _ _ _ (by omega)
    · exact be_bd h (op2_bd h)
  split
  · unfold DS.sy
    split
    · exact h.of (settled_len _ _ _ _) (by show 0 ≤ _; omega) (by show S.n1 ≤ _; omega) (by show S.n2 ≤ _; omega) (by show S.n3 + 1 ≤ _; omega)
    · exact be_bd h (op3_bd h)
  split
  · exact h.of (settled_len _ _ _ _) (by show 0 ≤ _; omega) (by show S.n1 ≤ _; omega) (by show S.n2 ≤ _; omega) (by show S.n3 ≤ _; omega)
  split
  · exact hid
  split
  · unfold trS
    split
    · exact hid
    · exact h.of rfl (by show S.ws.length ≤ _; omega) (by show S.n1 ≤ _; omega) (by show S.n2 ≤ _; omega) (by show S.n3 ≤ _; omega)
  · unfold flS
    split
    · exact hid
    split
    · exact h.of rfl (by show S.ws.length ≤ _; omega) (by show S.n1 ≤ _; omega) (by show S.n2 ≤ _; omega) (by show S.n3 ≤ _; omega)
    split
    · exact h.of rfl (by show S.ws.length ≤ _; omega) (by show S.n1 ≤ _; omega) (by show S.n2 ≤ _; omega) (by show S.n3 ≤ _; omega)
    · exact h.of rfl (by show S.ws.length ≤ _; omega) (by show S.n1 ≤ _; omega) (by show S.n2 ≤ _; omega) (by show S.n3 ≤ _; omega)
/-- what does answers. -/
def DoesOut (x : Ac) (w0 : World) (pp p q r bq n m : Nat) (S : DS) (e : Ending) (w' : World) : Prop := e = .returned (.bool true) ∧ ∃ n' m' O O2 OB, n' ≤ n + 1 ∧ m' ≤ m + 1 ∧ Pr w0.heap.size w0 w' pp p q r bq n' m' (stp S x) (stp S x) O O2 OB
theorem rdB_len {S : DS} (h : S.Good) {L : Nat} (hl : S.ls.length = L) (h8 : L % 8 = 0) (pg : Int) : (rdB S pg).length ≤ 1024 := by
  unfold rdB
  split
  · rename_i hh
    have h1 := hh.2.1
    have h2 := hh.2.2
    rw [rd_len h (8 * pg.toNat) 8 (by omega)]
    omega
  · simp
end Go.Proofs.Ytkammfkknfflgaa
