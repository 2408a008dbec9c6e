/- A disk in a walk: what a statement says of it between two calls; the calls as the statements make them. -/
import Derived.Test.YtkkjppdooaipiaaDS
namespace Go.Proofs.Ytkkjppdooaipiaa
open Go.RowKit Go.Maps
set_option linter.unusedVariables false

/-- nothing below B has turned since w0, and what a disk owns lies from B on. -/
structure Fd (B : Nat) (w0 w : World) (O : Nat → Prop) : Prop where
  below : Below B w0 w
  size : B ≤ w.heap.size
  own : ∀ k, O k → B ≤ k
theorem Fd.go {B : Nat} {w0 w w' : World} {O O' : Nat → Prop} (h : Fd B w0 w O) (hg : Go1 O w O' w') : Fd B w0 w' O' :=
  ⟨h.below.trans (hg.mv.below h.size h.own), Nat.le_trans h.size hg.mv.size, fun k hk => (hg.own k hk).elim (h.own k) (fun hl => Nat.le_trans h.size hl)⟩
theorem Fd.on {B : Nat} {w0 w w' : World} {O : Nat → Prop} (h : Fd B w0 w O) (hb : Below w.heap.size w w') : Fd B w0 w' O := h.go (Go1.of_below hb)
/-- a slice that lies apart from what is owned. -/
def Ap (w : World) (O : Nat → Prop) (v : Value) : Prop := ∀ k, v.ownBlock = some k → k < w.heap.size ∧ ¬ O k
theorem Ap.go {w w' : World} {O O' : Nat → Prop} {v : Value} (h : Ap w O v) (hg : Go1 O w O' w') : Ap w' O' v := fun k hk =>
  ⟨Nat.lt_of_lt_of_le (h k hk).1 hg.mv.size, fun ho => (hg.own k ho).elim (h k hk).2 (fun hl => by have := (h k hk).1; omega)⟩
theorem Ap.on {w w' : World} {O : Nat → Prop} {v : Value} (h : Ap w O v) (hb : Below w.heap.size w w') : Ap w' O v := h.go (Go1.of_below hb)
theorem Own.go {w w' : World} {O O' : Nat → Prop} {v : Value} {zs : List Int} (h : Own w v zs) (ha : Ap w O v) (hg : Go1 O w O' w') : Own w' v zs := h.of_block fun k hk => hg.mv.block k (ha k hk).1 (ha k hk).2
theorem Own.on {w w' : World} {v : Value} {zs : List Int} (h : Own w v zs) (hb : Below w.heap.size w w') : Own w' v zs := h.of_block fun k hk => hb.block k (h.lt hk)
theorem OwnI.go {w w' : World} {O O' : Nat → Prop} {v : Value} {zs : List Nat} (h : OwnI w v zs) (ha : Ap w O v) (hg : Go1 O w O' w') : OwnI w' v zs := h.of_block fun k hk => hg.mv.block k (ha k hk).1 (ha k hk).2
theorem OwnI.on {w w' : World} {v : Value} {zs : List Nat} (h : OwnI w v zs) (hb : Below w.heap.size w w') : OwnI w' v zs := h.of_block fun k hk => hb.block k (World.ownsRow.lt h k hk).2

theorem rep_byts (n : Nat) (c : Int) (h : 0 ≤ c ∧ c ≤ 255) : Byts (List.replicate n c) := fun x hx => by rw [(List.mem_replicate.1 hx).2]; exact h
/-- a disk's page is written, or its first sector, with bytes that are all alike. -/
theorem write_ok (p q : Nat) (O : Nat → Prop) (S : DS) (pg : Nat) (P : Int) (b len : Nat) (c : Int) (N : Nat) (w : World) (h : DkAt w p q S O) (hP : P = (pg : Int)) (hc : 0 ≤ c ∧ c ≤ 255)
    (ob : ¬ O b) (hr : Row w (some ⟨b, 0, none⟩) (List.replicate len c)) (hbl : b < w.heap.size) (hpg : pg < S.ls.length / 8) (hl8 : S.ls.length % 8 = 0) (hN : len = 1024 ∧ N = 8 ∨ len = 128 ∧ N = 1) (hf : S.ws.length + 8 ≤ 1000000) (hn : S.n2 + 1 ≤ 1000000) (he : S.er S.s2 S.l2 = 0) :
    Calls Try.prog 29 #[.pointer (some ⟨p, 0, none⟩), .int .i64 P, .slice (some ⟨b, 0, none⟩) len len] w fun e w' => e = .returned (.int .u16 0) ∧ ∃ O', DkAt w' p q (S.op2.adds (8 * pg) (List.replicate len c) N) O' ∧ Go1 O w O' w' := by
  subst hP
  refine (write_any p q O S pg b 0 len len (List.replicate len c) N w h ob hr hbl (by simp) (rep_byts len c hc) (Nat.le_refl _) (by omega) hpg hl8 hN hf hn).mono ?_
  rintro e w' ⟨rfl, O', hd, hg⟩
  refine ⟨by rw [he]; rfl, O', ?_, hg⟩
  rwa [DS.wr, if_pos he] at hd
theorem write_io (p q : Nat) (O : Nat → Prop) (S : DS) (pg : Nat) (P : Int) (b len : Nat) (c : Int) (N : Nat) (w : World) (h : DkAt w p q S O) (hP : P = (pg : Int)) (hc : 0 ≤ c ∧ c ≤ 255)
    (ob : ¬ O b) (hr : Row w (some ⟨b, 0, none⟩) (List.replicate len c)) (hbl : b < w.heap.size) (hpg : pg < S.ls.length / 8) (hl8 : S.ls.length % 8 = 0) (hN : len = 1024 ∧ N = 8 ∨ len = 128 ∧ N = 1) (hf : S.ws.length + 8 ≤ 1000000) (hn : S.n2 + 1 ≤ 1000000) (he : S.er S.s2 S.l2 = 6) :
    Calls Try.prog 29 #[.pointer (some ⟨p, 0, none⟩), .int .i64 P, .slice (some ⟨b, 0, none⟩) len len] w fun e w' => e = .returned (.int .u16 6) ∧ ∃ O', DkAt w' p q (S.be S.op2) O' ∧ Go1 O w O' w' := by
  subst hP
  refine (write_any p q O S pg b 0 len len (List.replicate len c) N w h ob hr hbl (by simp) (rep_byts len c hc) (Nat.le_refl _) (by omega) hpg hl8 hN hf hn).mono ?_
  rintro e w' ⟨rfl, O', hd, hg⟩
  refine ⟨by rw [he]; rfl, O', ?_, hg⟩
  rwa [DS.wr, if_neg (by omega)] at hd
theorem read_ok (p q : Nat) (O : Nat → Prop) (S : DS) (pg : Nat) (P : Int) (w : World) (h : DkAt w p q S O) (hP : P = (pg : Int)) (hpg : pg < S.ls.length / 8) (hn : S.n1 + 1 ≤ 1000000) (he : S.er S.s1 S.l1 = 0) :
    Calls Try.prog 24 #[.pointer (some ⟨p, 0, none⟩), .int .i64 P] w fun e w' => ∃ v, e = .returned (.tuple #[v, .int .u16 0]) ∧ Own w' v (rd S (8 * pg) 8) ∧ Ap w' O v ∧ (∀ g, v.ownBlock = some g → w.heap.size ≤ g) ∧ DkAt w' p q S.op1 O ∧ Go1 O w O w' := by
  subst hP
  refine (read_any p q O S pg w h hpg hn).mono ?_
  rintro e w' ⟨v, rfl, hr, hd, hg⟩
  obtain ⟨ho, hnew⟩ := hr.1 he
  refine ⟨v, by rw [he]; rfl, ho, fun k hk => ⟨ho.lt hk, fun hO => ?_⟩, hnew, ?_, hg⟩
  · have h1 := h.lt k hO
    have h2 := hnew k hk
    omega
  · rwa [be_zero he] at hd
theorem sync_ok (p q : Nat) (O : Nat → Prop) (S : DS) (w : World) (h : DkAt w p q S O) (hn : S.n3 + 1 ≤ 1000000) (he : S.er S.s3 S.l3 = 0) :
    Calls Try.prog 30 #[.pointer (some ⟨p, 0, none⟩)] w fun e w' => e = .returned (.int .u16 0) ∧ ∃ O', DkAt w' p q (S.op3.set yes) O' ∧ Go1 O w O' w' := by
  refine (sync_any p q O S w h hn).mono ?_
  rintro e w' ⟨rfl, O', hd, hg⟩
  refine ⟨by rw [he]; rfl, O', ?_, hg⟩
  rwa [DS.sy, if_pos he] at hd
theorem new_at (pg : Nat) (P : Int) (w : World) (hP : P = (pg : Int)) (h1 : 1 ≤ pg) (h2 : pg ≤ 16384) :
    Calls Try.prog 8 #[.int .i64 P] w fun e w' => ∃ O p q, e = .returned (.tuple #[.pointer (some ⟨p, 0, none⟩), .int .u16 0]) ∧ DkAt w' p q (DS.new (8 * pg)) O ∧ Fd w.heap.size w w' O := by
  subst hP
  refine (new_any pg w h1 h2).mono ?_
  rintro e w' ⟨O, p, q, rfl, hd, ho, hb⟩
  exact ⟨O, p, q, rfl, hd, hb, hb.size, ho⟩

/-! the states of 'known' -/
end Go.Proofs.Ytkkjppdooaipiaa
