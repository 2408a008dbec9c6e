/- Has, asked of bytes that no set writes; what All told stays. -/
import Derived.Test.YtpoanlbjhhlagaaFL
namespace Go.Proofs.Ytpoanlbjhhlagaa
open Go.RowKit Go.Maps
set_option linter.unusedVariables false

def u8f (w : World) (k : Nat) : Prop := ∃ cs, w.heap[k]? = some (.cells cs 5 (0, 0))
/-- bytes that lie below B, or in a block of bytes. -/
def lw (B : Nat) (w : World) (a : Option Addr) (zs : List Int) : Prop := zs = [] ∨ ∃ b off, a = some ⟨b, off, none⟩ ∧ (b < B ∨ u8f w b)
theorem inn_mv {w W : World} {p B : Nat} {L : List Ee} {O E : Nat → Prop} {a : Option Addr} {n c : Nat} {zs : List Int} (h : Sx w p B L O E) (hi : Inn w a n c zs) (hl : lw B w a zs) (hm : Mv O w W) : Inn W a n c zs ∧ lw B W a zs := by
  rcases hi.row with h0 | ⟨b, off, e, hlt, hc⟩
  · exact ⟨⟨hi.len, hi.cap, hi.max, hi.bare, .inl h0, hi.byts⟩, .inl h0⟩
  · rcases hl with h0 | ⟨b', off', e', hb⟩
    · exact ⟨⟨hi.len, hi.cap, hi.max, hi.bare, .inl h0, hi.byts⟩, .inl h0⟩
    · rw [e] at e'; cases e'
      have hne : ¬ O b := fun ho => by
        rcases hb with hb | ⟨cs, hb⟩
        · have := (h.olt ho).2; omega
        · exact h.not_u8 hb ho
      have hst := hm.block b hlt hne
      refine ⟨⟨hi.len, hi.cap, hi.max, hi.bare, .inr ⟨b, off, e, Nat.lt_of_lt_of_le hlt hm.size, fun i hi' => ?_⟩, hi.byts⟩, .inr ⟨b, off, e, hb.imp id fun ⟨cs, h⟩ => ⟨cs, hst.trans h⟩⟩⟩
      have := hc i hi'
      simp only [World.cell?, hst] at this ⊢
      exact this
theorem has_low {w : World} {p B : Nat} {L : List Ee} {O E : Nat → Prop} (h : Sx w p B L O E) (hn : L.length ≤ 1000) (ka : Option Addr) (kn kc : Nat) (key : List Int) (hi : Inn w ka kn kc key) (hl : lw B w ka key) :
    Calls Try.prog 12 #[.pointer (some ⟨p, 0, none⟩), .slice ka kn kc] w fun e w' => (∃ b : Bool, e = .returned (.bool b) ∧ (b = true ↔ U L key)) ∧ Keeps w p B L O E w' :=
  has_any h hn ka kn kc key fun W hm => (inn_mv h hi hl hm).1
theorem own_lw {B : Nat} {w : World} {a : Option Addr} {n c : Nat} {zs : List Int} (h : Own w (.slice a n c) zs) : lw B w a zs := by
  rcases h.2 with ⟨e, h0⟩ | ⟨g, cap, cur, e, _, hg, _⟩
  · exact .inl (List.eq_nil_of_length_eq_zero h0)
  · cases e; exact .inr ⟨g, 0, rfl, .inr ⟨cur, hg⟩⟩
theorem low_lw {B : Nat} {w0 w : World} {a : Option Addr} {n c : Nat} {zs : List Int} (h : Inn w0 a n c zs) (hB : w0.heap.size ≤ B) : lw B w a zs := by
  rcases h.row with h0 | ⟨b, off, e, hlt, _⟩
  · exact .inl h0
  · exact .inr ⟨b, off, e, .inl (by omega)⟩
/-- one byte, as the program's text has it. -/
theorem lit_inn (w : World) (c : Int) (hc : 0 ≤ c ∧ c ≤ 255) : Inn (w.alloc (.cells #[.int .u8 c] 5)) (some ⟨w.heap.size, 0, none⟩) 1 1 [c] := by
  refine ⟨rfl, Nat.le_refl _, by omega, fun e => (by cases e), .inr ⟨w.heap.size, 0, rfl, by simp, fun j hj => ?_⟩, by intro z hz; simp at hz; subst hz; exact hc⟩
  have : j = 0 := by simpa using hj
  subst this
  have e := heap_alloc_new w (.cells #[.int .u8 c] 5)
  simp only [World.cell?, e]
  rfl
theorem lit_u8 (w : World) (c : Int) : u8f (w.alloc (.cells #[.int .u8 c] 5)) w.heap.size := ⟨_, heap_alloc_new w _⟩
/-- a set, and what All told of it. -/
def Al (w : World) (p B : Nat) (L : List Ee) (C : Nat) (v : Value) (ys : List En) : Prop := ∃ O E, Sx w p B L O E ∧ Cl C w v ys ∧ ∀ k, O k → v.ownBlock ≠ some k
theorem Al.below {w w' : World} {p B C : Nat} {L : List Ee} {v : Value} {ys : List En} (h : Al w p B L C v ys) (hb : Below w.heap.size w w') : Al w' p B L C v ys := by
  obtain ⟨O, E, h1, h2, h3⟩ := h
  exact ⟨O, E, h1.below hb, h2.below hb, h3⟩
theorem Al.has {w : World} {p B C : Nat} {L : List Ee} {v : Value} {ys : List En} (h : Al w p B L C v ys) (hn : L.length ≤ 1000) (ka : Option Addr) (kn kc : Nat) (key : List Int) (hi : Inn w ka kn kc key) (hl : lw B w ka key) :
    Calls Try.prog 12 #[.pointer (some ⟨p, 0, none⟩), .slice ka kn kc] w fun e w' => (∃ b : Bool, e = .returned (.bool b) ∧ (b = true ↔ U L key)) ∧ Al w' p B L C v ys ∧ Below B w w' := by
  obtain ⟨O, E, h1, h2, h3⟩ := h
  refine (has_low h1 hn ka kn kc key hi hl).mono ?_
  rintro e w' ⟨hb, O', E', g1, g2, g3⟩
  have hp := h1.olt h1.op
  refine ⟨hb, ⟨O', E', g1, h2.of_block (fun k hk => g2.mv.block k (h2.block hk).2.1 fun ho => h3 k ho hk) (fun y hy k hk => ?_), fun k hk e => ?_⟩, g2.mv.below (by omega) fun k hk => (h1.olt hk).2⟩
  · obtain ⟨c, hc⟩ := (h2.each y hy).u8 hk
    exact g2.mv.block k ((h2.each y hy).lt hk) fun ho => h1.not_u8 hc ho
  · rcases g2.own k hk with h | h
    · exact h3 k h e
    · have := (h2.block e).2.1; omega
theorem all_al {w : World} {p B : Nat} {L : List Ee} {O E : Nat → Prop} (h : Sx w p B L O E) (hn : L.length ≤ 1000) :
    Calls Try.prog 17 #[.pointer (some ⟨p, 0, none⟩)] w fun e w' => ∃ C a c ys, e = .returned (.slice a ys.length c) ∧ Al w' p B L C (.slice a ys.length c) ys ∧ Ens w' a ys.length c ys ∧ Apt (ers ys) ∧ (∀ k, U (ers ys) k ↔ U L k) ∧ ys.length ≤ L.length ∧ (∀ y ∈ ys, y.e.key.length ≤ 40000 ∧ y.e.val.length ≤ 40000) ∧ Below B w w' := by
  have hp := h.olt h.op
  refine (all_any h hn).mono ?_
  rintro e w' ⟨C, v, ys, rfl, hC, hcl, ha, hu, hl, hls, O', E', g1, g2, g3, g4⟩
  obtain ⟨a, c, rfl, hens⟩ := hcl.ens
  exact ⟨C, a, c, ys, rfl, ⟨O', E', g1, hcl, fun k hk e => by have := g4 k (.inl hk); have := (hcl.block e).1; omega⟩, hens, ha, hu, hl, hls, g2.mv.below (by omega) fun k hk => (h.olt hk).2⟩
end Go.Proofs.Ytpoanlbjhhlagaa
