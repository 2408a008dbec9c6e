/- A book beside what a call made; both Seals of some bytes. -/
import Derived.Test.YtfbkcolcdkglbaaBF
import Derived.Test.YtfbkcolcdkglbaaQS
import Derived.Test.YtfbkcolcdkglbaaSA
namespace Go.Proofs.Ytfbkcolcdkglbaa
open Go.RowKit
set_option linter.unusedVariables false

/-- what is put into a book turns no bytes. -/
theorem keep_book {w w' : World} {q : Nat} {v : Value} {n : Nat} {A : Nat → Option Addr} {C : Nat → Nat} {Z : Nat → List Int} (hb : Bk w q v) (h : Fam w v n A C Z) (k : Kp (fun k => k = q ∨ blks v k) w w') {u : Value} {ys : List Int} (ho : Own w u ys) : Own w' u ys :=
  ho.of_block fun j hj => k.block j (ho.lt hj) (fun e => e.elim (fun e => by subst e; exact book_ne_row hb ho hj) (fun e => list_ne_row h.list ho j e hj))
theorem fam_none (w : World) : Fam w (.slice none 0 0) 0 (fun _ => none) (fun _ => 0) (fun _ => []) :=
  ⟨World.ownsRow_nil _ _ _ _, fun i hi => by omega, fun i j hi => by omega⟩
/-- a book that is laid. -/
theorem book_new (w : World) : Bk (w.alloc (.cells #[.slice none 0 0, .slice none 0 0, .slice none 0 0, .slice none 0 0, .slice none 0 0, .slice none 0 0, .slice none 0 0, .slice none 0 0, .slice none 0 0, .slice none 0 0, .slice none 0 0, .slice none 0 0, .slice none 0 0, .slice none 0 0, .slice none 0 0, .slice none 0 0, .slice none 0 0, .slice none 0 0, .slice none 0 0, .slice none 0 0, .slice none 0 0, .slice none 0 0, .slice none 0 0] 56)) w.heap.size (.slice none 0 0) := heap_alloc_new w _
theorem same_own {w : World} {a b : Option Addr} {n c m d : Nat} {P : List Int} (hx : Own w (.slice a n c) P) (hy : Own w (.slice b m d) P) (h8 : Byts P) :
    Calls Try.prog 16 #[.slice a n c, .slice b m d] w fun e w' => e = .returned (.bool true) ∧ Below w.heap.size w w' := by
  have hs : sameB P P = true := by unfold sameB; simp
  have := same_inn (own_inn hx h8) (own_inn hy h8)
  rw [hs] at this
  exact this
theorem Bk.below {w w' : World} {q : Nat} {v : Value} (h : Bk w q v) (hb : Below w.heap.size w w') : Bk w' q v := (hb.block q h.lt).trans h
theorem Fam.below {w w' : World} {v : Value} {n : Nat} {A : Nat → Option Addr} {C : Nat → Nat} {Z : Nat → List Int} (h : Fam w v n A C Z) (hb : Below w.heap.size w w') : Fam w' v n A C Z := h.of_block fun k hk => hb.block k (h.lt k hk)
/-- the blocks of a book's first list, and of its first two. -/
theorem rft_one {a : Option Addr} {n c k : Nat} (h : rft 1 (put (fun _ => none) 0 a) k) : blks (.slice a n c) k := by
  rcases rft_put 0 _ a k h with ⟨i, hi, _⟩ | ⟨ad, rfl, rfl⟩
  · omega
  · rfl
theorem rft_two {a b : Option Addr} {n c m d k : Nat} (h : rft 2 (put (put (fun _ => none) 0 a) 1 b) k) : blks (.slice a n c) k ∨ blks (.slice b m d) k := by
  rcases rft_put 1 _ b k h with h | ⟨ad, rfl, rfl⟩
  · exact .inl (rft_one h)
  · exact .inr rfl
/-- both Seals of some bytes. -/
theorem seal_both (kind number n : Nat) (pl : List Int) (hn : number < 4294967296) (h8 : Byts pl) : ∃ (er : Nat) (P : List Int), Byts P ∧ P.length ≤ 1024 ∧
    (∀ W a c, Inn W a n c pl → Calls Try.prog 10 #[.int .u8 (kind : Int), .int .u32 (number : Int), .slice a n c] W fun e w' => ∃ v, e = .returned (.tuple #[v, .int .u16 (er : Int)]) ∧ Made W v P w') ∧
    (∀ W a c, Inn W a n c pl → Calls Try.prog 13 #[.int .u8 (kind : Int), .int .u32 (number : Int), .slice a n c] W fun e w' => ∃ v, e = .returned (.tuple #[v, .int .u16 (er : Int)]) ∧ Made W v P w') := by
  by_cases h : 1 ≤ kind ∧ kind ≤ 4 ∧ n ≤ 1008
  · by_cases hl : pl.length = n
    · refine ⟨0, Pg.pg kind number pl, Pg.pg_b8 _ _ _ h8, ?_, fun W a c hi => ?_, fun W a c hi => ?_⟩
      · exact Nat.le_of_eq (Pg.pg_length _ _ _ (by omega))
      · exact seal_ok kind number a n c pl W h.1 h.2.1 hn hi.len hi.bare hi.row hi.byts h.2.2
      · exact rseal_ok kind number a n c pl W h.1 h.2.1 hn hi.len hi.bare hi.row hi.byts h.2.2
    · exact ⟨0, [], by intro c hc; simp at hc, by simp, fun W a c hi => absurd hi.len hl, fun W a c hi => absurd hi.len hl⟩
  · refine ⟨80, [], by intro c hc; simp at hc, by simp, fun W a c hi => ?_, fun W a c hi => ?_⟩
    · refine (seal_no kind number a n c W h).mono ?_
      rintro e w' ⟨rfl, hb⟩
      exact ⟨_, rfl, Own.nil _, fun k hk => by (simp [Value.ownBlock] at hk), hb⟩
    · refine (rseal_no kind number a n c W h).mono ?_
      rintro e w' ⟨rfl, rfl⟩
      exact ⟨_, rfl, Own.nil _, fun k hk => by (simp [Value.ownBlock] at hk), Below.refl _ _⟩
end Go.Proofs.Ytfbkcolcdkglbaa
