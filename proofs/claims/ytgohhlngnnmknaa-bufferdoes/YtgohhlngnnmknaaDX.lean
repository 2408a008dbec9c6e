/- A list is put into a book. -/
import Derived.Test.YtgohhlngnnmknaaDB
import Derived.Test.YtgohhlngnnmknaaDC
import Derived.Test.YtgohhlngnnmknaaDR
import Derived.Test.YtgohhlngnnmknaaLC
import Derived.Test.YtgohhlngnnmknaaRS
namespace Go.Proofs.Ytgohhlngnnmknaa.Bo
open Go.RowKit
set_option linter.unusedVariables false

set_option maxHeartbeats 1600000 in
set_option maxRecDepth 1000000 in
theorem bookBytes_any (q : Nat) (f : Nat → Value) (v : Value) (hv : f 0 = v) (n : Nat) (A : Nat → Option Addr) (C : Nat → Nat) (Z : Nat → List Int) (a : Option Addr) (c : Nat) (zs : List Int) (m : Nat) (hm : zs.length = m) (w : World) (hb : Bk w q f) (h : Fam .u8 5 60 w v n A C Z) (ho : OwnK .u8 5 w (.slice a m c) zs) (hap : ∀ k, rft n A k → ¬ ∃ ad, a = some ad ∧ ad.block = k) (hn : n ≤ 1000000000) :
    Calls Try.prog 42 #[.pointer (some ⟨q, 0, none⟩), .slice a m c] w fun r w' => r = .returned (.tuple #[]) ∧ ∃ v', Bk w' q (putf f 0 v') ∧ Fam .u8 5 60 w' v' (n + 1) (putf A n a) (putf C n c) (putf Z n zs) ∧ Kp (fun k => k = q ∨ blks v k) w w' ∧ ∀ k, blks v' k → blks v k ∨ w.heap.size ≤ k := by
  subst hm
  obtain ⟨i0, hi, hz0, hz1, hz2⟩ := info_parts infoBytes_l
  have HB := hide hb
  have H := hide h
  have HO := hide ho
  have HAp := hide hap
  have c0 := hb.c 0 (by omega)
  rw [hv] at c0
  have HULL := hide (show Try.prog.underlying 34 = some (.slice 60) by kernel_rfl)
  have HV := hide hv
  have hlen : ((List.range n).map fun i => rv (A i) (C i) (Z i)).length = n := by simp
  have HL : Hid (w.ownsRow 0 60 1 v ((List.range n).map fun i => rv (A i) (C i) (Z i)).length ((List.range n).map fun i => rv (A i) (C i) (Z i))) := by rw [hlen]; exact h.list
  have HSz : Hid ((((List.range n).map fun i => rv (A i) (C i) (Z i)).length + 1) * i0.bytes ≤ 140737488355328) := by rw [hlen, hz2]; show _ ≤ _; omega
  have HSz2 : Hid (((List.range n).map fun i => rv (A i) (C i) (Z i)).length + 1 ≤ 140737488355328) := by rw [hlen]; show _ ≤ _; omega
  have HL1 := hide (list_of_block HL.out (w' := w.alloc (.cells #[rv a c zs] 60)) (fun k hk => Below.heap_alloc w _ k (list_lt HL.out k hk)))
  have HS := hide (src_laid (P := Try.prog) w (rv a c zs) HULL.out rfl)
  clear hlen hb h ho hap hv
  go_enter Try.func42, Try.ntmps42
  go_wp2_with (at_builtin; refine wpList_append_one (by rfl) _ _ 34 34 60 (by rfl) i0 (.slice none 0 0) HULL.out hi hz0 hz1 rfl v _ (by rfl) HL1.out _ 1 [rv a c zs] (by rfl) HS.out HSz.out HSz2.out ?_; intro v' w1 hown1 hg1 hf1 hfull; obtain ⟨x3, n3, c3, rfl, HN3⟩ := list_shape hown1; have HO1 := hide hown1; have HG1 := hide hg1; have HF1 := hide hf1; have hb1 : Bk w1 q f := ((hg1.block q (by have := HB.out.lt; simp; omega) (fun e => book_ne HB.out HL.out (by decide) e.symm)).trans (Below.heap_alloc w _ q HB.out.lt)).trans HB.out; have c1 := hb1.c 0 (by omega); rw [HV.out] at c1; have f1 := hb1.f 0; have HB1 := hide hb1; clear hown1 hg1 hf1 hfull hb1)
  go_end0
  have hkp : Kp (fun k => k = q ∨ blks v k) w (w1.setCell ⟨q, 0, none⟩ (.slice x3 n3 c3)) :=
    ((Kp.of_below (below_alloc w _)).trans (Kp.grown HG1.out (fun k hk => .inr hk))).trans (Kp.grown (grown_setCell w1 q 0 (.slice x3 n3 c3)) (fun k hk => .inl (by cases hk; rfl)))
  refine ⟨rfl, .slice x3 n3 c3, HB1.out.set 0, H.out.more HO.out ?_ (list_of_block HO1.out ?_) (by decide) ?_, hkp, ?_⟩
  · intro k h1 h2
    exact HAp.out k h1 ((blks_rv _ _ _ k).1 h2)
  · intro k hk
    refine Below.heap_setCell _ _ _ _ (fun e => ?_)
    subst e
    exact book_ne HB1.out HO1.out (by decide) hk
  · intro k hk hv
    by_cases e : k = q
    · subst e; exact .inr ⟨k, rfl, f, HB.out⟩
    · exact .inl (hkp.block k hk (fun h => h.elim e hv))
  · intro k hk
    rcases HF1.out k hk with h1 | h1
    · exact .inl h1
    · have : w.heap.size ≤ (w.alloc (.cells #[rv a c zs] 60)).heap.size := (below_alloc w _).size
      exact .inr (Nat.le_trans this h1)
end Go.Proofs.Ytgohhlngnnmknaa.Bo
/- A book of rows of bytes, of pairs and of changes. -/
namespace Go.Proofs.Ytgohhlngnnmknaa.Bd
open Go.RowKit Go.Maps Go.Proofs.Ytgohhlngnnmknaa.Bo
set_option linter.unusedVariables false

/-- a book of rows of bytes, of pairs, of changes. -/
structure Bb (w : World) (q : Nat) (f : Nat → Value) (n0 : Nat) (A0 : Nat → Option Addr) (C0 : Nat → Nat) (Z0 : Nat → List Int) (n1 : Nat) (A1 : Nat → Option Addr) (C1 : Nat → Nat) (Z1 : Nat → List Bp.Q4) (n2 : Nat) (A2 : Nat → Option Addr) (C2 : Nat → Nat) (Z2 : Nat → List Bc.Q4) : Prop where
  bk : Bk w q f
  nl : ∀ j, j ≠ 0 → j ≠ 13 → j ≠ 14 → f j = .slice none 0 0
  byt : Fam .u8 5 60 w (f 0) n0 A0 C0 Z0
  prs : Bp.Fe 22 w (f 13) n1 A1 C1 Z1
  chs : Bc.Fe 30 w (f 14) n2 A2 C2 Z2
  small : ∀ i, i < n0 → (Z0 i).length ≤ 140737488351232
theorem fp_keep {w w' : World} {v : Value} {n : Nat} {A : Nat → Option Addr} {C : Nat → Nat} {Z : Nat → List Bp.Q4} (h : Bp.Fe 22 w v n A C Z) {g : Nat → Prop} (hk : Kp g w w') (h1 : ∀ k, g k → ¬ rft n A k) (h2 : ∀ k, g k → ¬ blks v k) : Bp.Fe 22 w' v n A C Z :=
  h.of_block fun k hk' => hk.block k (h.lt k hk') (fun hg => hk'.elim (h2 k hg) (h1 k hg))
theorem fc_keep {w w' : World} {v : Value} {n : Nat} {A : Nat → Option Addr} {C : Nat → Nat} {Z : Nat → List Bc.Q4} (h : Bc.Fe 30 w v n A C Z) {g : Nat → Prop} (hk : Kp g w w') (h1 : ∀ k, g k → ¬ rft n A k) (h2 : ∀ k, g k → ¬ blks v k) : Bc.Fe 30 w' v n A C Z :=
  h.of_block fun k hk' => hk.block k (h.lt k hk') (fun hg => hk'.elim (h2 k hg) (h1 k hg))
theorem fb_keep {w w' : World} {v : Value} {n : Nat} {A : Nat → Option Addr} {C : Nat → Nat} {Z : Nat → List Int} (h : Fam .u8 5 60 w v n A C Z) {g : Nat → Prop} (hk : Kp g w w') (h1 : ∀ k, g k → ¬ rft n A k) (h2 : ∀ k, g k → ¬ blks v k) : Fam .u8 5 60 w' v n A C Z :=
  h.of_block fun k hk' => hk.block k (h.lt k hk') (fun hg => hk'.elim (h2 k hg) (h1 k hg))
theorem kp_on {g g2 : Nat → Prop} {a b c : World} (h : Kp g a b) (k : Kp g2 b c) (hg : ∀ i, g2 i → g i ∨ a.heap.size ≤ i) : Kp g a c :=
  ⟨k.os.trans h.os, k.tape.trans h.tape, k.output.trans h.output, Nat.le_trans h.size k.size, fun i hi hn => (k.block i (Nat.lt_of_lt_of_le hi h.size) (fun h2 => (hg i h2).elim hn (fun h3 => by omega))).trans (h.block i hi hn)⟩
theorem owns_low {w : World} {B e s : Nat} {v : Value} {n : Nat} {xs : List Value} (h : w.ownsRow B e s v n xs) : w.ownsRow 0 e s v n xs := by
  refine ⟨h.1, ?_⟩
  rcases h.2 with h2 | ⟨g, cap, cur, e1, hb, r⟩
  · exact .inl h2
  · exact .inr ⟨g, cap, cur, e1, Nat.zero_le _, r⟩
theorem blks_slice (a : Option Addr) (m c k : Nat) : blks (.slice a m c) k ↔ ∃ ad, a = some ad ∧ ad.block = k := by
  unfold blks
  cases a <;> simp [Value.ownBlock]
theorem has_key {y : En} {k : Nat} (h : ∃ ad, y.ka = some ad ∧ ad.block = k) : y.has k := .inl ((blks_slice _ _ _ k).2 h)
theorem has_val {y : En} {k : Nat} (h : ∃ ad, y.va = some ad ∧ ad.block = k) : y.has k := .inr ((blks_slice _ _ _ k).2 h)
/-- the blocks of a book. -/
def own (q : Nat) (f : Nat → Value) (n0 : Nat) (A0 : Nat → Option Addr) (n1 : Nat) (A1 : Nat → Option Addr) (n2 : Nat) (A2 : Nat → Option Addr) (k : Nat) : Prop := k = q ∨ blks (f 0) k ∨ rft n0 A0 k ∨ blks (f 13) k ∨ rft n1 A1 k ∨ blks (f 14) k ∨ rft n2 A2 k
section
variable {w w' : World} {q : Nat} {f : Nat → Value} {n0 : Nat} {A0 : Nat → Option Addr} {C0 : Nat → Nat} {Z0 : Nat → List Int} {n1 : Nat} {A1 : Nat → Option Addr} {C1 : Nat → Nat} {Z1 : Nat → List Bp.Q4} {n2 : Nat} {A2 : Nat → Option Addr} {C2 : Nat → Nat} {Z2 : Nat → List Bc.Q4}
theorem Bb.lt (h : Bb w q f n0 A0 C0 Z0 n1 A1 C1 Z1 n2 A2 C2 Z2) {k : Nat} (hk : own q f n0 A0 n1 A1 n2 A2 k) : k < w.heap.size := by
  rcases hk with rfl | h1 | h1 | h1 | h1 | h1 | h1
  · exact h.bk.lt
  · exact h.byt.lt k (.inl h1)
  · exact h.byt.lt k (.inr h1)
  · exact h.prs.lt k (.inl h1)
  · exact h.prs.lt k (.inr h1)
  · exact h.chs.lt k (.inl h1)
  · exact h.chs.lt k (.inr h1)
theorem Bb.of_block (h : Bb w q f n0 A0 C0 Z0 n1 A1 C1 Z1 n2 A2 C2 Z2) (hb : ∀ k, own q f n0 A0 n1 A1 n2 A2 k → w'.heap[k]? = w.heap[k]?) : Bb w' q f n0 A0 C0 Z0 n1 A1 C1 Z1 n2 A2 C2 Z2 :=
  ⟨h.bk.of_block (hb q (.inl rfl)), h.nl, h.byt.of_block fun k hk => hb k (hk.elim (fun h => .inr (.inl h)) (fun h => .inr (.inr (.inl h)))), h.prs.of_block fun k hk => hb k (hk.elim (fun h => .inr (.inr (.inr (.inl h)))) (fun h => .inr (.inr (.inr (.inr (.inl h)))))), h.chs.of_block fun k hk => hb k (hk.elim (fun h => .inr (.inr (.inr (.inr (.inr (.inl h)))))) (fun h => .inr (.inr (.inr (.inr (.inr (.inr h))))))), h.small⟩
theorem Bb.below (h : Bb w q f n0 A0 C0 Z0 n1 A1 C1 Z1 n2 A2 C2 Z2) (hb : Below w.heap.size w w') : Bb w' q f n0 A0 C0 Z0 n1 A1 C1 Z1 n2 A2 C2 Z2 := h.of_block fun k hk => hb.block k (h.lt hk)
/-- rows of bytes more. -/
theorem Bb.bytes {v' : Value} {a : Option Addr} {c : Nat} {zs : List Int} (hB : Bb w q f n0 A0 C0 Z0 n1 A1 C1 Z1 n2 A2 C2 Z2)
    (g1 : Bk w' q (putf f 0 v')) (g2 : Fam .u8 5 60 w' v' (n0 + 1) (putf A0 n0 a) (putf C0 n0 c) (putf Z0 n0 zs)) (g3 : Kp (fun k => k = q ∨ blks (f 0) k) w w') (hz : zs.length ≤ 140737488351232) :
    Bb w' q (putf f 0 v') (n0 + 1) (putf A0 n0 a) (putf C0 n0 c) (putf Z0 n0 zs) n1 A1 C1 Z1 n2 A2 C2 Z2 := by
  refine ⟨g1, fun i h0 h13 h14 => by rw [putf_other _ _ _ _ h0]; exact hB.nl i h0 h13 h14, by rw [putf_same]; exact g2, ?_, ?_, ?_⟩
  · rw [putf_other _ _ _ _ (by omega)]
    refine fp_keep hB.prs g3 ?_ ?_
    · rintro k (rfl | h0) ⟨i, hi, hh⟩
      · exact Bp.book_ne hB.bk (hB.prs.rows i hi) (by decide) ((Bp.blks_rv _ _ _ _).2 hh)
      · exact Bp.rows_ne hB.byt.list (hB.prs.rows i hi) (by decide) k h0 ((Bp.blks_rv _ _ _ _).2 hh)
    · rintro k (rfl | h0) h9
      · exact Bp.book_ne hB.bk hB.prs.list (by decide) h9
      · exact Bp.rows_ne hB.prs.list hB.byt.list (by decide) k h9 h0
  · rw [putf_other _ _ _ _ (by omega)]
    refine fc_keep hB.chs g3 ?_ ?_
    · rintro k (rfl | h0) ⟨i, hi, hh⟩
      · exact Bc.book_ne hB.bk (hB.chs.rows i hi) (by decide) ((Bc.blks_rv _ _ _ _).2 hh)
      · exact Bc.rows_ne hB.byt.list (hB.chs.rows i hi) (by decide) k h0 ((Bc.blks_rv _ _ _ _).2 hh)
    · rintro k (rfl | h0) h9
      · exact Bc.book_ne hB.bk hB.chs.list (by decide) h9
      · exact Bc.rows_ne hB.chs.list hB.byt.list (by decide) k h9 h0
  · intro i hi
    by_cases e : i = n0
    · subst e; rw [putf_same]; exact hz
    · rw [putf_other _ _ _ _ e]; exact hB.small i (by omega)
end
/-- pairs that lie in a row of the call's own, with bytes of their own. -/
structure Clp (B : Nat) (w : World) (v : Value) (ys : List En) : Prop where
  row : w.ownsRow B 74 2 v ys.length (prc ys)
  each : ∀ y ∈ ys, y.Own B w
  apart : ∀ (i j : Nat) (yi yj : En) (k : Nat), ys[i]? = some yi → ys[j]? = some yj → yi.has k → yj.has k → i = j
theorem Clp.block {B : Nat} {w : World} {v : Value} {ys : List En} (h : Clp B w v ys) {k : Nat} (hk : v.ownBlock = some k) : B ≤ k ∧ k < w.heap.size ∧ ∃ cur, w.heap[k]? = some (.cells cur 74 (0, 0)) := by
  rcases h.row.2 with ⟨rfl, _⟩ | ⟨g, cap, cur, rfl, hb, hg, _⟩
  · simp [Value.ownBlock] at hk
  · simp [Value.ownBlock] at hk; subst hk; exact ⟨hb, lt_of_block hg, cur, hg⟩
theorem Clp.of_block {B : Nat} {w w' : World} {v : Value} {ys : List En} (h : Clp B w v ys) (hv : ∀ k, v.ownBlock = some k → w'.heap[k]? = w.heap[k]?) (hy : ∀ y ∈ ys, ∀ k, y.has k → w'.heap[k]? = w.heap[k]?) : Clp B w' v ys :=
  ⟨row_of_block h.row hv, fun y hy' => (h.each y hy').of_block (hy y hy'), h.apart⟩
theorem Clp.below {B : Nat} {w w' : World} {v : Value} {ys : List En} (h : Clp B w v ys) (hb : Below w.heap.size w w') : Clp B w' v ys :=
  h.of_block (fun k hk => hb.block k (h.block hk).2.1) (fun y hy k hk => hb.block k ((h.each y hy).lt hk))
end Go.Proofs.Ytgohhlngnnmknaa.Bd
