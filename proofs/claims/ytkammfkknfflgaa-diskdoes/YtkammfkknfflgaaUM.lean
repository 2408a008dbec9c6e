/- What is lent beside the pair. -/
import Derived.Test.YtkammfkknfflgaaUD
namespace Go.Proofs.Ytkammfkknfflgaa
open Go.RowKit
set_option linter.unusedVariables false

section
variable {x : Ac} {ab : Nat} {w0 w w' : World} {pp p q r bq n m : Nat} {S T : DS} {O O2 OB O' : Nat → Prop}
theorem Pa.data (h : Pa x ab w0 w pp p q r bq n m S T O O2 OB) : Inn w x.da x.db.length x.dc x.db := h.ok.data.below h.pr.bel
theorem Pa.keep (h : Pa x ab w0 w pp p q r bq n m S T O O2 OB) : BRow w x.ka x.kb := brow_below h.ok.keep h.pr.bel
theorem Pa.data_far (h : Pa x ab w0 w pp p q r bq n m S T O O2 OB) (h0 : x.db ≠ []) (ad : Addr) (e : x.da = some ad) : ¬ O ad.block ∧ ¬ O2 ad.block ∧ ¬ OB ad.block := by
  rcases h.ok.data.row with h1 | ⟨b, off, e2, hb, _⟩
  · exact absurd h1 h0
  · rw [e2] at e
    cases e
    exact ⟨fun e => by have := h.pr.lo.2.1 _ e; simp at this; omega, fun e => by have := h.pr.lo.2.2.1 _ e; simp at this; omega, fun e => by have := h.pr.lo.2.2.2 _ e; simp at this; omega⟩
theorem Pa.keep_far (h : Pa x ab w0 w pp p q r bq n m S T O O2 OB) (h0 : x.kb ≠ []) (ad : Addr) (e : x.ka = some ad) : ¬ O ad.block ∧ ¬ O2 ad.block ∧ ¬ OB ad.block := by
  rcases h.ok.keep with h1 | ⟨b, off, e2, hb, _⟩
  · exact absurd h1 h0
  · rw [e2] at e
    cases e
    exact ⟨fun e => by have := h.pr.lo.2.1 _ e; simp at this; omega, fun e => by have := h.pr.lo.2.2.1 _ e; simp at this; omega, fun e => by have := h.pr.lo.2.2.2 _ e; simp at this; omega⟩
/-- what is lent: a value apart from the pair and from the act. -/
structure Ln (w : World) (B pp ab : Nat) (O O2 OB : Nat → Prop) (g l : Nat) (zs : List Int) : Prop where
  own : Own w (.slice (some ⟨g, 0, none⟩) (l + 2) (l + 2)) (zs ++ [91, 92])
  ap : B ≤ g ∧ g ≠ pp ∧ ¬ O g ∧ ¬ O2 g ∧ ¬ OB g
  ab : g ≠ ab
theorem Ln.lt {B g l : Nat} {zs : List Int} (h : Ln w B pp ab O O2 OB g l zs) : g < w.heap.size := h.own.lt rfl
theorem Ln.row {B g l : Nat} {zs : List Int} (h : Ln w B pp ab O O2 OB g l zs) : Row w (some ⟨g, 0, none⟩) (zs ++ [91, 92]) := by
  obtain ⟨a, c, e, -, -, -, hr, -⟩ := h.own.shape
  have e1 : some (⟨g, 0, none⟩ : Addr) = a := by injection e
  rw [e1]
  exact hr
theorem Ln.below {B g l : Nat} {zs : List Int} (h : Ln w B pp ab O O2 OB g l zs) (hb : Below w.heap.size w w') : Ln w' B pp ab O O2 OB g l zs := ⟨h.own.of_block fun k hk => hb.block k (h.own.lt hk), h.ap, h.ab⟩
theorem Ln.moveD {B g l : Nat} {zs : List Int} (h : Ln w B pp ab O O2 OB g l zs) (hg : Go1 O w O' w') : Ln w' B pp ab O' O2 OB g l zs :=
  ⟨h.own.of_block fun k hk => by cases hk; exact hg.mv.block g h.lt h.ap.2.2.1, ⟨h.ap.1, h.ap.2.1, fun e => (hg.own g e).elim h.ap.2.2.1 (fun e => by have := h.lt; omega), h.ap.2.2.2⟩, h.ab⟩
theorem Ln.moveR {B g l : Nat} {zs : List Int} (h : Ln w B pp ab O O2 OB g l zs) (hg : Go1 O2 w O' w') : Ln w' B pp ab O O' OB g l zs :=
  ⟨h.own.of_block fun k hk => by cases hk; exact hg.mv.block g h.lt h.ap.2.2.2.1, ⟨h.ap.1, h.ap.2.1, h.ap.2.2.1, fun e => (hg.own g e).elim h.ap.2.2.2.1 (fun e => by have := h.lt; omega), h.ap.2.2.2.2⟩, h.ab⟩
theorem lent_at (h : Pa x ab w0 w pp p q r bq n m S T O O2 OB) (hl : x.db.length ≤ 2000000) : Calls Try.prog 10 #[.slice x.da x.db.length x.dc] w fun e w' => ∃ g, e = .returned (.slice (some ⟨g, 0, none⟩) x.db.length (x.db.length + 2)) ∧ Ln w' w0.heap.size pp ab O O2 OB g x.db.length x.db ∧ Below w.heap.size w w' := by
  have hi := h.data
  refine (Le.lent_any x.da x.db.length x.dc x.db w rfl (by omega) hi.bare hi.row).mono ?_
  rintro e w' ⟨rfl, ho, hb⟩
  have h1 := h.pr.size
  have h2 := h.pr.Bsz
  have h3 := h.lt
  exact ⟨_, rfl, ⟨ho, ⟨h2, by omega, fun e => by have := h.pr.d.lt _ e; omega, fun e => by have := h.pr.r.lt _ e; omega, fun e => by have := h.pr.b.lt _ e; omega⟩, by omega⟩, hb⟩
theorem whole_at {g : Nat} (h : Pa x ab w0 w pp p q r bq n m S T O O2 OB) (hl : x.db.length ≤ 2000000) (hn : Ln w w0.heap.size pp ab O O2 OB g x.db.length x.db) : Calls Try.prog 13 #[.slice (some ⟨g, 0, none⟩) x.db.length (x.db.length + 2), .slice x.da x.db.length x.dc] w fun e w' => e = .returned (.bool true) ∧ Below w.heap.size w w' :=
  Le.whole_any g x.da x.db.length x.dc x.db w rfl (by omega) hn.row h.data.row
theorem spoil_at {g : Nat} (h : Pa x ab w0 w pp p q r bq n m S T O O2 OB) (hl : x.db.length ≤ 2000000) (hn : Ln w w0.heap.size pp ab O O2 OB g x.db.length x.db) : Calls Try.prog 14 #[.slice (some ⟨g, 0, none⟩) x.db.length (x.db.length + 2)] w fun e w' => e = .returned (.tuple #[]) ∧ Pa x ab w0 w' pp p q r bq n m S T O O2 OB := by
  refine (Le.spoil_any g x.db.length (x.db.length + 2) w (Le.own_blk hn.own) (by omega) (by omega)).mono ?_
  rintro e w' ⟨rfl, hg⟩
  refine ⟨rfl, h.away (O1 := (· = g)) ⟨hg.os, hg.tape, hg.output, hg.size, fun k hk hne => hg.block k hk (fun e => hne (by cases e; rfl))⟩ (fun k e => by subst e; exact hn.ap) (fun e => hn.ab e.symm)⟩
/-- bools that are lent. -/
structure Lb (w : World) (B pp ab : Nat) (O O2 OB : Nat → Prop) (g l : Nat) (zs : List Bool) : Prop where
  own : OwnB w (.slice (some ⟨g, 0, none⟩) (l + 2) (l + 2)) (zs ++ [true, false])
  ap : B ≤ g ∧ g ≠ pp ∧ ¬ O g ∧ ¬ O2 g ∧ ¬ OB g
  ab : g ≠ ab
theorem Lb.lt {B g l : Nat} {zs : List Bool} (h : Lb w B pp ab O O2 OB g l zs) : g < w.heap.size := h.own.lt rfl
theorem Lb.row {B g l : Nat} {zs : List Bool} (h : Lb w B pp ab O O2 OB g l zs) : BRow w (some ⟨g, 0, none⟩) (zs ++ [true, false]) := h.own.brow
theorem Lb.below {B g l : Nat} {zs : List Bool} (h : Lb w B pp ab O O2 OB g l zs) (hb : Below w.heap.size w w') : Lb w' B pp ab O O2 OB g l zs := ⟨h.own.of_block fun k hk => hb.block k (h.own.lt hk), h.ap, h.ab⟩
theorem Lb.moveD {B g l : Nat} {zs : List Bool} (h : Lb w B pp ab O O2 OB g l zs) (hg : Go1 O w O' w') : Lb w' B pp ab O' O2 OB g l zs :=
  ⟨h.own.of_block fun k hk => by cases hk; exact hg.mv.block g h.lt h.ap.2.2.1, ⟨h.ap.1, h.ap.2.1, fun e => (hg.own g e).elim h.ap.2.2.1 (fun e => by have := h.lt; omega), h.ap.2.2.2⟩, h.ab⟩
theorem Lb.moveR {B g l : Nat} {zs : List Bool} (h : Lb w B pp ab O O2 OB g l zs) (hg : Go1 O2 w O' w') : Lb w' B pp ab O O' OB g l zs :=
  ⟨h.own.of_block fun k hk => by cases hk; exact hg.mv.block g h.lt h.ap.2.2.2.1, ⟨h.ap.1, h.ap.2.1, h.ap.2.2.1, fun e => (hg.own g e).elim h.ap.2.2.2.1 (fun e => by have := h.lt; omega), h.ap.2.2.2.2⟩, h.ab⟩
theorem lentb_at (h : Pa x ab w0 w pp p q r bq n m S T O O2 OB) (hl : x.kb.length ≤ 2000000) : Calls Try.prog 44 #[.slice x.ka x.kb.length x.kc] w fun e w' => ∃ g, e = .returned (.slice (some ⟨g, 0, none⟩) x.kb.length (x.kb.length + 2)) ∧ Lb w' w0.heap.size pp ab O O2 OB g x.kb.length x.kb ∧ Below w.heap.size w w' := by
  refine (lentb_any x.ka x.kb.length x.kc x.kb w rfl (by omega) h.ok.bare h.keep).mono ?_
  rintro e w' ⟨rfl, ho, hb⟩
  have h1 := h.pr.size
  have h2 := h.pr.Bsz
  have h3 := h.lt
  exact ⟨_, rfl, ⟨ho, ⟨h2, by omega, fun e => by have := h.pr.d.lt _ e; omega, fun e => by have := h.pr.r.lt _ e; omega, fun e => by have := h.pr.b.lt _ e; omega⟩, by omega⟩, hb⟩
theorem wholeb_at {g : Nat} (h : Pa x ab w0 w pp p q r bq n m S T O O2 OB) (hl : x.kb.length ≤ 2000000) (hn : Lb w w0.heap.size pp ab O O2 OB g x.kb.length x.kb) : Calls Try.prog 46 #[.slice (some ⟨g, 0, none⟩) x.kb.length (x.kb.length + 2), .slice x.ka x.kb.length x.kc] w fun e w' => e = .returned (.bool true) ∧ Below w.heap.size w w' :=
  wholeb_any g x.ka x.kb.length x.kc x.kb w rfl (by omega) hn.row h.keep
theorem spoilb_at {g : Nat} (h : Pa x ab w0 w pp p q r bq n m S T O O2 OB) (hl : x.kb.length ≤ 2000000) (hn : Lb w w0.heap.size pp ab O O2 OB g x.kb.length x.kb) : Calls Try.prog 47 #[.slice (some ⟨g, 0, none⟩) x.kb.length (x.kb.length + 2)] w fun e w' => e = .returned (.tuple #[]) ∧ Pa x ab w0 w' pp p q r bq n m S T O O2 OB := by
  refine (spoilb_any g x.kb.length (x.kb.length + 2) w (own_blkb hn.own) (by omega) (by omega)).mono ?_
  rintro e w' ⟨rfl, hg⟩
  refine ⟨rfl, h.away (O1 := (· = g)) ⟨hg.os, hg.tape, hg.output, hg.size, fun k hk hne => hg.block k hk (fun e => hne (by cases e; rfl))⟩ (fun k e => by subst e; exact hn.ap) (fun e => hn.ab e.symm)⟩
/-- both writes of the act. -/
theorem dwrite_at {g M L : Nat} (h : Pa x ab w0 w pp p q r bq n m S T O O2 OB) (hb : Bd S L M) (hM : M ≤ 4000000) (hl : x.db.length ≤ 2000000) (hn : Ln w w0.heap.size pp ab O O2 OB g x.db.length x.db) : Calls Try.prog 18 #[.pointer (some ⟨p, 0, none⟩), .int .i64 x.pt, .slice (some ⟨g, 0, none⟩) x.db.length (x.db.length + 2)] w fun e w' => e = .returned (.int .u16 (wrE S x.pt x.db.length : Int)) ∧ ∃ O', DkAt w' p q (wrS S x.pt x.db) O' ∧ Go1 O w O' w' :=
  d_write p q O S x.pt _ _ _ x.db w h.pr.d rfl (Le.row_left hn.row) h.data.byts (by omega) (by omega) (fun _ ad e => by cases e; exact hn.ap.2.2.1) (by rw [hb.ls]; exact hb.l8) (by have := hb.ws; omega) (by have := hb.n2; omega)
theorem rwrite_at {M L : Nat} (h : Pa x ab w0 w pp p q r bq n m S T O O2 OB) (hb : Bd T L M) (hM : M ≤ 4000000) : Calls Try.prog 41 #[.pointer (some ⟨r, 0, none⟩), .int .i64 x.pt, .slice x.da x.db.length x.dc] w fun e w' => e = .returned (.int .u16 (wrE T x.pt x.db.length : Int)) ∧ ∃ O', RdAt w' r (wrS T x.pt x.db) O' ∧ Go1 O2 w O' w' :=
  r_write r O2 T x.pt _ _ _ x.db w h.pr.r rfl h.data.row h.data.byts h.data.cap h.data.max (fun h0 ad e => (h.data_far h0 ad e).2.1) (by have := hb.ws; omega) (by have := hb.n2; omega)
theorem dcut_at {g : Nat} (h : Pa x ab w0 w pp p q r bq n m S T O O2 OB) (hl : x.kb.length ≤ 2000000) (hn : Lb w w0.heap.size pp ab O O2 OB g x.kb.length x.kb) : Calls Try.prog 21 #[.pointer (some ⟨p, 0, none⟩), .slice (some ⟨g, 0, none⟩) x.kb.length (x.kb.length + 2)] w fun e w' => e = .returned (.tuple #[]) ∧ ∃ O', DkAt w' p q (S.cut x.kb) O' ∧ Go1 O w O' w' :=
  cut_any p q O S _ _ x.kb w h.pr.d (brow_left hn.row) (fun _ ad e => by cases e; exact hn.ap.2.2.1) (fun _ ad e => by cases e; exact hn.lt) (by omega)
theorem rcut_at (h : Pa x ab w0 w pp p q r bq n m S T O O2 OB) (hl : x.kb.length ≤ 2000000) : Calls Try.prog 45 #[.pointer (some ⟨r, 0, none⟩), .slice x.ka x.kb.length x.kc] w fun e w' => e = .returned (.tuple #[]) ∧ ∃ O', RdAt w' r (T.cut x.kb) O' ∧ Go1 O2 w O' w' :=
  r_cut r O2 T _ _ x.kb w h.pr.r h.keep (fun h0 ad e => (h.keep_far h0 ad e).2.1) (by omega)
end
end Go.Proofs.Ytkammfkknfflgaa
