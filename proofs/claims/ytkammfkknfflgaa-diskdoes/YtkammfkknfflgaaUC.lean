/- The pair: two disks in their states, and a book. -/
import Derived.Test.YtkammfkknfflgaaUB
import Derived.Test.YtkammfkknfflgaaGO
namespace Go.Proofs.Ytkammfkknfflgaa
open Go.RowKit
set_option linter.unusedVariables false

/-- a book of bytes and of ints, with its blocks. -/
def OwK (bq : Nat) (F : Nat → Value) (n : Nat) (A : Nat → Option Addr) (m : Nat) (A2 : Nat → Option Addr) (k : Nat) : Prop := k = bq ∨ Bo.blks (F 0) k ∨ Bo.rft n A k ∨ Bo.blks (F 2) k ∨ Bo.rft m A2 k
structure BK (w : World) (bq n m : Nat) (OB : Nat → Prop) (F : Nat → Value) (A : Nat → Option Addr) (C : Nat → Nat) (Z : Nat → List Int) (A2 : Nat → Option Addr) (C2 : Nat → Nat) (Z2 : Nat → List Int) : Prop where
  bk : Bo.Bk w bq F
  fn : ∀ j, j ≠ 0 → j ≠ 2 → F j = .slice none 0 0
  f0 : Bo.Fam .u8 5 63 w (F 0) n A C Z
  z0 : ∀ i, i < n → (Z i).length ≤ 1000000000
  f2 : Bo.Fam .i64 3 73 w (F 2) m A2 C2 Z2
  z2 : ∀ i, i < m → (Z2 i).length ≤ 1000000000
  ob : ∀ k, OB k ↔ OwK bq F n A m A2 k
def BkAt (w : World) (bq n m : Nat) (OB : Nat → Prop) : Prop := ∃ F A C Z A2 C2 Z2, BK w bq n m OB F A C Z A2 C2 Z2
theorem BK.lt {w : World} {bq n m : Nat} {OB : Nat → Prop} {F : Nat → Value} {A : Nat → Option Addr} {C : Nat → Nat} {Z : Nat → List Int} {A2 : Nat → Option Addr} {C2 : Nat → Nat} {Z2 : Nat → List Int} (h : BK w bq n m OB F A C Z A2 C2 Z2) (k : Nat) (hk : OwK bq F n A m A2 k) : k < w.heap.size := by
  rcases hk with rfl | hk | hk | hk | hk
  · exact h.bk.lt
  · exact h.f0.lt k (.inl hk)
  · exact h.f0.lt k (.inr hk)
  · exact h.f2.lt k (.inl hk)
  · exact h.f2.lt k (.inr hk)
theorem BkAt.lt {w : World} {bq n m : Nat} {OB : Nat → Prop} (h : BkAt w bq n m OB) (k : Nat) (hk : OB k) : k < w.heap.size := by
  obtain ⟨F, A, C, Z, A2, C2, Z2, h⟩ := h
  exact h.lt k ((h.ob k).1 hk)
theorem BkAt.other {w w' : World} {bq n m : Nat} {OB O1 : Nat → Prop} (h : BkAt w bq n m OB) (hm : Mv O1 w w') (hap : ∀ k, OB k → ¬ O1 k) : BkAt w' bq n m OB := by
  obtain ⟨F, A, C, Z, A2, C2, Z2, h⟩ := h
  have hs : ∀ k, OwK bq F n A m A2 k → w'.heap[k]? = w.heap[k]? := fun k hk => hm.block k (h.lt k hk) (hap k ((h.ob k).2 hk))
  exact ⟨F, A, C, Z, A2, C2, Z2, h.bk.of_block (hs bq (.inl rfl)), h.fn, h.f0.of_block (fun k hk => hs k (hk.elim (fun e => .inr (.inl e)) (fun e => .inr (.inr (.inl e))))), h.z0, h.f2.of_block (fun k hk => hs k (hk.elim (fun e => .inr (.inr (.inr (.inl e)))) (fun e => .inr (.inr (.inr (.inr e)))))), h.z2, h.ob⟩
theorem kp_mv {f : Nat → Prop} {w w' : World} (h : Bo.Kp f w w') : Mv f w w' := ⟨h.os, h.tape, h.output, h.size, h.block⟩
theorem Mv.wider {f g : Nat → Prop} {w w' : World} (h : Mv f w w') (hf : ∀ k, f k → g k) : Mv g w w' := ⟨h.os, h.tape, h.output, h.size, fun k hk hn => h.block k hk (fun e => hn (hf k e))⟩
/-- what is put into one list turns nothing of the other family. -/
theorem fam_kept {K K' : IntKind} {et lty et' lty' : TypeId} {w w' : World} {u v : Value} {n m : Nat} {A A2 : Nat → Option Addr} {C C2 : Nat → Nat} {Z Z2 : Nat → List Int} {bq : Nat} {F : Nat → Value} (hb : Bo.Bk w bq F) (h : Bo.Fam K et lty w v n A C Z) (h2 : Bo.Fam K' et' lty' w u m A2 C2 Z2) (k : Bo.Kp (fun k => k = bq ∨ Bo.blks v k) w w') (e1 : et' ≠ 59) (e2 : lty' ≠ 59) (e3 : lty ≠ lty') (e4 : lty ≠ et') : Bo.Fam K' et' lty' w' u m A2 C2 Z2 := by
  refine h2.of_block fun j hj => k.block j (h2.lt j hj) ?_
  rcases hj with hj | ⟨i, hi, hj⟩
  · rintro (rfl | hv)
    · exact Bo.book_ne hb h2.list e2 hj
    · exact Bo.rows_ne h.list h2.list e3 j hv hj
  · have hr : Bo.blks (Bo.rv (A2 i) (C2 i) (Z2 i)) j := (Bo.blks_rv _ _ _ j).2 hj
    rintro (rfl | hv)
    · exact Bo.book_ne hb (h2.rows i hi) e1 hr
    · exact Bo.rows_ne h.list (h2.rows i hi) e4 j hv hr
theorem bk_bytes (bq n m : Nat) (OB : Nat → Prop) (w : World) (h : BkAt w bq n m OB) (a : Option Addr) (l c : Nat) (zs : List Int) (ho : Own w (.slice a l c) zs) (hl : zs.length = l) (hap : ∀ k, (Value.slice a l c).ownBlock = some k → ¬ OB k) (hz : zs.length ≤ 1000000000) (hn : n ≤ 100000000) :
    Calls Try.prog 16 #[.pointer (some ⟨bq, 0, none⟩), .slice a l c] w fun e w' => e = .returned (.tuple #[]) ∧ ∃ OB', BkAt w' bq (n + 1) m OB' ∧ Mv OB w w' ∧ ∀ k, OB' k → OB k ∨ (Value.slice a l c).ownBlock = some k ∨ w.heap.size ≤ k := by
  obtain ⟨F, A, C, Z, A2, C2, Z2, h⟩ := h
  have hab : ∀ k, Bo.rft n A k → ¬ ∃ ad, a = some ad ∧ ad.block = k := by
    rintro k hk ⟨ad, rfl, rfl⟩
    exact hap ad.block rfl ((h.ob _).2 (.inr (.inr (.inl hk))))
  refine (Bo.bookBytes_any bq F (F 0) rfl n A C Z a c zs l hl w h.bk h.f0 ho hab (by omega)).mono ?_
  rintro e w' ⟨rfl, v', hb, hf, hk, hv⟩
  have e0 : Bo.putf F 0 v' 0 = v' := Bo.putf_same _ _ _
  have e2 : Bo.putf F 0 v' 2 = F 2 := Bo.putf_other _ _ _ _ (by omega)
  refine ⟨rfl, _, ⟨Bo.putf F 0 v', _, _, _, A2, C2, Z2, hb, fun j h0 h2 => by rw [Bo.putf_other _ _ _ _ h0]; exact h.fn j h0 h2, by rw [e0]; exact hf, ?_, by rw [e2]; exact fam_kept h.bk h.f0 h.f2 hk (by decide) (by decide) (by decide) (by decide), h.z2, fun k => Iff.rfl⟩, (kp_mv hk).wider ?_, ?_⟩
  · intro i hi
    by_cases e : i = n
    · subst e; rw [Bo.putf_same]; exact hz
    · rw [Bo.putf_other _ _ _ _ e]; exact h.z0 i (by omega)
  · rintro k (e | e)
    · exact (h.ob k).2 (.inl e)
    · exact (h.ob k).2 (.inr (.inl e))
  · intro k hk
    unfold OwK at hk
    rw [e0, e2] at hk
    rcases hk with e | e | e | e | e
    · exact .inl ((h.ob k).2 (.inl e))
    · exact (hv k e).elim (fun e => .inl ((h.ob k).2 (.inr (.inl e)))) (fun e => .inr (.inr e))
    · rcases Bo.rft_putf n A a k e with e | ⟨ad, rfl, rfl⟩
      · exact .inl ((h.ob k).2 (.inr (.inr (.inl e))))
      · exact .inr (.inl rfl)
    · exact .inl ((h.ob k).2 (.inr (.inr (.inr (.inl e)))))
    · exact .inl ((h.ob k).2 (.inr (.inr (.inr (.inr e)))))
theorem bk_ints (bq n m : Nat) (OB : Nat → Prop) (w : World) (h : BkAt w bq n m OB) (a : Option Addr) (l c : Nat) (zs : List Int) (ho : Bo.OwnK .i64 3 w (.slice a l c) zs) (hl : zs.length = l) (hap : ∀ k, (Value.slice a l c).ownBlock = some k → ¬ OB k) (hz : zs.length ≤ 1000000000) (hn : m ≤ 100000000) :
    Calls Try.prog 48 #[.pointer (some ⟨bq, 0, none⟩), .slice a l c] w fun e w' => e = .returned (.tuple #[]) ∧ ∃ OB', BkAt w' bq n (m + 1) OB' ∧ Mv OB w w' ∧ ∀ k, OB' k → OB k ∨ (Value.slice a l c).ownBlock = some k ∨ w.heap.size ≤ k := by
  obtain ⟨F, A, C, Z, A2, C2, Z2, h⟩ := h
  have hab : ∀ k, Bo.rft m A2 k → ¬ ∃ ad, a = some ad ∧ ad.block = k := by
    rintro k hk ⟨ad, rfl, rfl⟩
    exact hap ad.block rfl ((h.ob _).2 (.inr (.inr (.inr (.inr hk)))))
  refine (Bo.bookInts_any bq F (F 2) rfl m A2 C2 Z2 a c zs l hl w h.bk h.f2 ho hab (by omega)).mono ?_
  rintro e w' ⟨rfl, v', hb, hf, hk, hv⟩
  have e0 : Bo.putf F 2 v' 2 = v' := Bo.putf_same _ _ _
  have e2 : Bo.putf F 2 v' 0 = F 0 := Bo.putf_other _ _ _ _ (by omega)
  refine ⟨rfl, _, ⟨Bo.putf F 2 v', A, C, Z, _, _, _, hb, fun j h0 h2 => by rw [Bo.putf_other _ _ _ _ h2]; exact h.fn j h0 h2, by rw [e2]; exact fam_kept h.bk h.f2 h.f0 hk (by decide) (by decide) (by decide) (by decide), h.z0, by rw [e0]; exact hf, ?_, fun k => Iff.rfl⟩, (kp_mv hk).wider ?_, ?_⟩
  · intro i hi
    by_cases e : i = m
    · subst e; rw [Bo.putf_same]; exact hz
    · rw [Bo.putf_other _ _ _ _ e]; exact h.z2 i (by omega)
  · rintro k (e | e)
    · exact (h.ob k).2 (.inl e)
    · exact (h.ob k).2 (.inr (.inr (.inr (.inl e))))
  · intro k hk
    unfold OwK at hk
    rw [e0, e2] at hk
    rcases hk with e | e | e | e | e
    · exact .inl ((h.ob k).2 (.inl e))
    · exact .inl ((h.ob k).2 (.inr (.inl e)))
    · exact .inl ((h.ob k).2 (.inr (.inr (.inl e))))
    · exact (hv k e).elim (fun e => .inl ((h.ob k).2 (.inr (.inr (.inr (.inl e)))))) (fun e => .inr (.inr e))
    · rcases Bo.rft_putf m A2 a k e with e | ⟨ad, rfl, rfl⟩
      · exact .inl ((h.ob k).2 (.inr (.inr (.inr (.inr e)))))
      · exact .inr (.inl rfl)
theorem bk_own (bq n m : Nat) (OB : Nat → Prop) (w : World) (h : BkAt w bq n m OB) (hn : n ≤ 100000000) (hm : m ≤ 100000000) :
    Calls Try.prog 30 #[.pointer (some ⟨bq, 0, none⟩)] w fun e w' => e = .returned (.bool true) ∧ Mv OB w w' := by
  obtain ⟨F, A, C, Z, A2, C2, Z2, h⟩ := h
  refine (Bo.bookOwn_any bq F (F 0) rfl n A C Z (F 2) rfl m A2 C2 Z2 w h.bk h.fn h.f0 hn h.z0 h.f2 hm h.z2).mono ?_
  rintro e w' ⟨rfl, hk⟩
  exact ⟨rfl, (kp_mv hk).wider fun k e => (h.ob k).2 (e.elim (fun e => .inr (.inr (.inl e))) (fun e => .inr (.inr (.inr (.inr e)))))⟩
theorem bk_new (w : World) : BkAt (w.alloc (.cells #[.slice none 0 0, .slice none 0 0, .slice none 0 0, .slice none 0 0, .slice none 0 0, .slice none 0 0, .slice none 0 0, .slice none 0 0, .slice none 0 0, .slice none 0 0, .slice none 0 0, .slice none 0 0, .slice none 0 0, .slice none 0 0, .slice none 0 0, .slice none 0 0, .slice none 0 0, .slice none 0 0, .slice none 0 0, .slice none 0 0, .slice none 0 0, .slice none 0 0, .slice none 0 0] 59)) w.heap.size 0 0 (· = w.heap.size) := by
  refine ⟨Bo.nilf, _, _, _, _, _, _, Bo.book_new w, fun _ _ _ => rfl, Bo.fam_none _ (by decide), fun i hi => by omega, Bo.fam_none _ (by decide), fun i hi => by omega, fun k => ⟨fun e => .inl e, ?_⟩⟩
  rintro (e | e | ⟨i, hi, _⟩ | e | ⟨i, hi, _⟩)
  · exact e
  · simp [Bo.blks, Bo.nilf, Value.ownBlock] at e
  · omega
  · simp [Bo.blks, Bo.nilf, Value.ownBlock] at e
  · omega
/-- the pair: the program's disk in the state S, the document's in the state T. -/
structure Pr (B : Nat) (w0 w : World) (pp p q r bq n m : Nat) (S T : DS) (O O2 OB : Nat → Prop) : Prop where
  pair : w.heap[pp]? = some (.cells #[.pointer (some ⟨p, 0, none⟩), .pointer (some ⟨r, 0, none⟩), .pointer (some ⟨bq, 0, none⟩)] 61 (0, 0))
  d : DkAt w p q S O
  r : RdAt w r T O2
  b : BkAt w bq n m OB
  dr : ∀ k, O k → ¬ O2 k
  db : ∀ k, O k → ¬ OB k
  rb : ∀ k, O2 k → ¬ OB k
  pd : ¬ O pp
  pr : ¬ O2 pp
  pb : ¬ OB pp
  lo : B ≤ pp ∧ (∀ k, O k → B ≤ k) ∧ (∀ k, O2 k → B ≤ k) ∧ ∀ k, OB k → B ≤ k
  bel : Below B w0 w
section
variable {B : Nat} {w0 w w' : World} {pp p q r bq n m : Nat} {S T S' T' : DS} {O O2 OB O' : Nat → Prop}
theorem Pr.size (h : Pr B w0 w pp p q r bq n m S T O O2 OB) : pp < w.heap.size := lt_of_block h.pair
theorem Pr.Bsz (h : Pr B w0 w pp p q r bq n m S T O O2 OB) : B ≤ w.heap.size := by have := h.size; have := h.lo.1; omega
theorem Pr.c0 (h : Pr B w0 w pp p q r bq n m S T O O2 OB) : w.cell? ⟨pp, 0, none⟩ = some (.pointer (some ⟨p, 0, none⟩)) := by simp [World.cell?, h.pair]
theorem Pr.c1 (h : Pr B w0 w pp p q r bq n m S T O O2 OB) : w.cell? ⟨pp, 1, none⟩ = some (.pointer (some ⟨r, 0, none⟩)) := by simp [World.cell?, h.pair]
theorem Pr.c2 (h : Pr B w0 w pp p q r bq n m S T O O2 OB) : w.cell? ⟨pp, 2, none⟩ = some (.pointer (some ⟨bq, 0, none⟩)) := by simp [World.cell?, h.pair]
theorem mv_bel (hb : Below B w0 w) (hm : Mv O w w') (hB : B ≤ w.heap.size) (hl : ∀ k, O k → B ≤ k) : Below B w0 w' :=
  ⟨hm.os.trans hb.os, hm.tape.trans hb.tape, hm.output.trans hb.output, Nat.le_trans hb.size hm.size, fun k hk => (hm.block k (by omega) (fun e => by have := hl k e; omega)).trans (hb.block k hk)⟩
theorem Pr.moveD (h : Pr B w0 w pp p q r bq n m S T O O2 OB) (hd : DkAt w' p q S' O') (g : Go1 O w O' w') : Pr B w0 w' pp p q r bq n m S' T O' O2 OB := by
  have hB := h.Bsz
  have hp := h.size
  refine ⟨(g.mv.block pp hp h.pd).trans h.pair, hd, h.r.other g.mv (fun k h2 h1 => h.dr k h1 h2), h.b.other g.mv (fun k h2 h1 => h.db k h1 h2), ?_, ?_, h.rb, ?_, h.pr, h.pb, ⟨h.lo.1, ?_, h.lo.2.2.1, h.lo.2.2.2⟩, mv_bel h.bel g.mv hB h.lo.2.1⟩
  · intro k h1 h2
    exact (g.own k h1).elim (fun e => h.dr k e h2) (fun e => by have := h.r.lt k h2; omega)
  · intro k h1 h2
    exact (g.own k h1).elim (fun e => h.db k e h2) (fun e => by have := h.b.lt k h2; omega)
  · intro h1
    exact (g.own pp h1).elim h.pd (fun e => by omega)
  · intro k h1
    exact (g.own k h1).elim (h.lo.2.1 k) (fun e => by omega)
theorem Pr.moveR (h : Pr B w0 w pp p q r bq n m S T O O2 OB) (hd : RdAt w' r T' O') (g : Go1 O2 w O' w') : Pr B w0 w' pp p q r bq n m S T' O O' OB := by
  have hB := h.Bsz
  have hp := h.size
  refine ⟨(g.mv.block pp hp h.pr).trans h.pair, h.d.other g.mv h.dr, hd, h.b.other g.mv (fun k h2 h1 => h.rb k h1 h2), ?_, h.db, ?_, h.pd, ?_, h.pb, ⟨h.lo.1, h.lo.2.1, ?_, h.lo.2.2.2⟩, mv_bel h.bel g.mv hB h.lo.2.2.1⟩
  · intro k h1 h2
    exact (g.own k h2).elim (fun e => h.dr k h1 e) (fun e => by have := h.d.lt k h1; omega)
  · intro k h1 h2
    exact (g.own k h1).elim (fun e => h.rb k e h2) (fun e => by have := h.b.lt k h2; omega)
  · intro h1
    exact (g.own pp h1).elim h.pr (fun e => by omega)
  · intro k h1
    exact (g.own k h1).elim (h.lo.2.2.1 k) (fun e => by omega)
/-- blocks of a value that lie apart from the pair's. -/
def Apt (w : World) (B pp : Nat) (O O2 OB : Nat → Prop) (v : Value) : Prop := ∀ k, v.ownBlock = some k → k < w.heap.size ∧ B ≤ k ∧ k ≠ pp ∧ ¬ O k ∧ ¬ O2 k ∧ ¬ OB k
theorem Pr.moveB {n' m' : Nat} {v : Value} (h : Pr B w0 w pp p q r bq n m S T O O2 OB) (ha : Apt w B pp O O2 OB v) (hb : BkAt w' bq n' m' O') (hm : Mv OB w w') (g : ∀ k, O' k → OB k ∨ v.ownBlock = some k ∨ w.heap.size ≤ k) : Pr B w0 w' pp p q r bq n' m' S T O O2 O' := by
  have hB := h.Bsz
  have hp := h.size
  refine ⟨(hm.block pp hp h.pb).trans h.pair, h.d.other hm h.db, h.r.other hm h.rb, hb, h.dr, ?_, ?_, h.pd, h.pr, ?_, ⟨h.lo.1, h.lo.2.1, h.lo.2.2.1, ?_⟩, mv_bel h.bel hm hB h.lo.2.2.2⟩
  · intro k h1 h2
    rcases g k h2 with e | e | e
    · exact h.db k h1 e
    · exact (ha k e).2.2.2.1 h1
    · have := h.d.lt k h1; omega
  · intro k h1 h2
    rcases g k h2 with e | e | e
    · exact h.rb k h1 e
    · exact (ha k e).2.2.2.2.1 h1
    · have := h.r.lt k h1; omega
  · intro h1
    rcases g pp h1 with e | e | e
    · exact h.pb e
    · exact (ha pp e).2.2.1 rfl
    · omega
  · intro k h1
    rcases g k h1 with e | e | e
    · exact h.lo.2.2.2 k e
    · exact (ha k e).2.1
    · omega
/-- what turns lies apart from the pair's blocks. -/
theorem Pr.away {O1 : Nat → Prop} (h : Pr B w0 w pp p q r bq n m S T O O2 OB) (hm : Mv O1 w w') (hx : ∀ k, O1 k → B ≤ k ∧ k ≠ pp ∧ ¬ O k ∧ ¬ O2 k ∧ ¬ OB k) : Pr B w0 w' pp p q r bq n m S T O O2 OB :=
  ⟨(hm.block pp h.size (fun e => (hx pp e).2.1 rfl)).trans h.pair, h.d.other hm (fun k h1 h2 => (hx k h2).2.2.1 h1), h.r.other hm (fun k h1 h2 => (hx k h2).2.2.2.1 h1), h.b.other hm (fun k h1 h2 => (hx k h2).2.2.2.2 h1), h.dr, h.db, h.rb, h.pd, h.pr, h.pb, h.lo, mv_bel h.bel hm h.Bsz (fun k e => (hx k e).1)⟩
theorem Pr.below (h : Pr B w0 w pp p q r bq n m S T O O2 OB) (hb : Below w.heap.size w w') : Pr B w0 w' pp p q r bq n m S T O O2 OB :=
  h.away (O1 := fun _ => False) ⟨hb.os, hb.tape, hb.output, hb.size, fun k hk _ => hb.block k hk⟩ (fun k e => e.elim)
theorem Pr.new {v : Value} {W : World} (h : Pr B w0 W pp p q r bq n m S T O O2 OB) (hs : W.heap.size ≤ w.heap.size) (hn : News W v) (hl : ∀ k, v.ownBlock = some k → k < w.heap.size) : Apt w B pp O O2 OB v := fun k hk => by
  have h1 := hn k hk
  have h2 := h.size
  have h3 := h.Bsz
  exact ⟨hl k hk, by omega, by omega, fun e => by have := h.d.lt k e; omega, fun e => by have := h.r.lt k e; omega, fun e => by have := h.b.lt k e; omega⟩
end
end Go.Proofs.Ytkammfkknfflgaa
