/- A pool on which nothing fails, told by its disk's pages; two pools side by side. -/
import Derived.Test.YtpcckaahfaobeaaFQ
namespace Go.Proofs.Ytpcckaahfaobeaa
open Go.RowKit Go.Maps
set_option linter.unusedVariables false

/-- what is at hand is what the disk has. -/
def Coh (S : DS) (A : List Pge) (pages : Nat) : Prop := ∀ x ∈ A, x.n < pages ∧ 1 ≤ x.k ∧ x.k ≤ 4 ∧ x.pl.length ≤ 1008 ∧ rd S (8 * x.n) 8 = Pg.pg x.k x.n x.pl
variable {S S' : DS} {A A' : List Pge} {pages c most : Nat}
theorem Coh.sub (h : Coh S A pages) (hs : ∀ x ∈ A', x ∈ A) : Coh S A' pages := fun x hx => h x (hs x hx)
theorem Coh.nil : Coh S [] pages := fun x hx => by simp at hx
theorem Coh.wo (h : Coh S A pages) (n : Nat) : Coh S (wo A n) pages := h.sub fun x hx => (List.mem_filter.1 hx).1
theorem Coh.snoc (h : Coh S A pages) {x : Pge} (hx : x.n < pages ∧ 1 ≤ x.k ∧ x.k ≤ 4 ∧ x.pl.length ≤ 1008 ∧ rd S (8 * x.n) 8 = Pg.pg x.k x.n x.pl) : Coh S (A ++ [x]) pages := fun y hy => by
  rcases List.mem_append.1 hy with hy | hy
  · exact h y hy
  · rw [List.mem_singleton.1 hy]; exact hx
theorem Coh.inn (h : Coh S A pages) {x : Pge} (hx : x.n < pages ∧ 1 ≤ x.k ∧ x.k ≤ 4 ∧ x.pl.length ≤ 1008 ∧ rd S (8 * x.n) 8 = Pg.pg x.k x.n x.pl) : Coh S (inn most A x) pages := by
  unfold Go.Proofs.Ytpcckaahfaobeaa.inn
  refine Coh.snoc ?_ hx
  split
  · exact h.sub fun y hy => List.mem_of_mem_tail hy
  · exact h
theorem Coh.same (h : Coh S A pages) (hr : ∀ j, j < pages → rd S' (8 * j) 8 = rd S (8 * j) 8) : Coh S' A pages := fun x hx => ⟨(h x hx).1, (h x hx).2.1, (h x hx).2.2.1, (h x hx).2.2.2.1, (hr _ (h x hx).1).trans (h x hx).2.2.2.2⟩
theorem Coh.opn (h : Coh S A pages) {x : Pge} (hx : x ∈ A) : Pg.opn x.n (rd S (8 * x.n) 8) = some (x.k, x.pl) := by
  obtain ⟨h1, h2, h3, h4, h5⟩ := h x hx
  rw [h5]
  exact Pg.opn_pg x.k x.n x.pl h2 h3 h4
/-- what Read tells: the kind, the error, the bytes. -/
def rs (pages n : Nat) (zs : List Int) : Nat × Nat × List Int :=
  if n < pages then match Pg.opn n zs with
    | none => (0, 100, [])
    | some (k, pl) => (k, 0, pl)
  else (0, 2, [])
/-- what Write tells. -/
def we (pages n k len : Nat) : Nat := if 1 ≤ k ∧ k ≤ 4 ∧ len ≤ 1008 then (if n < pages then 0 else 2) else 80
/-- a pool on which nothing fails. -/
structure CP (W : World) (p d q : Nat) (S : DS) (most : Nat) (A : List Pge) (OO : Nat → Prop) (pages c : Nat) : Prop where
  pl : Pl W p d q S most A OO
  calm : Calm S pages c
  coh : Coh S A pages
variable {w w' W W' : World} {p d q : Nat} {OO OO' : Nat → Prop}
theorem CP.mono (h : CP W p d q S most A OO pages c) {c' : Nat} (hc : c ≤ c') : CP W p d q S most A OO pages c' := ⟨h.pl, h.calm.mono hc, h.coh⟩
theorem CP.below (h : CP W p d q S most A OO pages c) (hb : Below W.heap.size W W') : CP W' p d q S most A OO pages c := ⟨h.pl.below hb, h.calm, h.coh⟩
theorem CP.other {P : Nat → Prop} (h : CP W p d q S most A OO pages c) (hm : Mv P W W') (hap : ∀ k, OO k → ¬ P k) : CP W' p d q S most A OO pages c := ⟨h.pl.other hm hap, h.calm, h.coh⟩
theorem find_n (A : List Pge) (n : Nat) : n ∈ A.map Pge.n → ∃ x ∈ A, x.n = n := fun h => by
  obtain ⟨x, hx, e⟩ := List.mem_map.1 h
  exact ⟨x, hx, e⟩
theorem opn_bytes {n k : Nat} {pl zs : List Int} (h : Pg.opn n zs = some (k, pl)) : 1 ≤ k ∧ k ≤ 4 ∧ pl.length ≤ 1008 ∧ zs = Pg.pg k n pl := Pg.opn_some h
theorem CP.read (h : CP w p d q S most A OO pages c) (hc : c ≤ 9000) (hpg : pages ≤ 10000) (n : Nat) (hn : n < 4294967296) (K E : Nat) (pl : List Int) (hrs : rs pages n (rd S (8 * n) 8) = (K, E, pl)) :
    Calls Try.prog 47 #[.pointer (some ⟨p, 0, none⟩), .int .u32 (n : Int)] w fun ed w' => ∃ v S' A' OO', ed = .returned (.tuple #[.int .u8 (K : Int), v, .int .u16 (E : Int)]) ∧ Fresh w w' OO' v pl ∧ CP w' p d q S' most A' OO' pages (c + 1) ∧ (∀ j, j < pages → rd S' (8 * j) 8 = rd S (8 * j) 8) ∧ Go1 OO w OO' w' := by
  unfold rs at hrs
  by_cases hr : n < pages
  · rw [if_pos hr] at hrs
    by_cases hin : n ∈ A.map Pge.n
    · obtain ⟨x, hx, rfl⟩ := find_n A n hin
      have ho := h.coh.opn hx
      rw [ho] at hrs
      cases hrs
      refine (cread_hand x.n (x.n : Int) rfl x hx rfl h.pl h.calm hr).mono ?_
      rintro ed w' ⟨v, OO', rfl, hf, hp, hg⟩
      exact ⟨v, S, _, OO', rfl, hf, ⟨hp, h.calm.mono (by omega), (h.coh.wo _).snoc (h.coh x hx)⟩, fun _ _ => rfl, hg⟩
    · cases ho : Pg.opn n (rd S (8 * n) 8) with
      | none =>
        rw [ho] at hrs
        cases hrs
        refine (cread_form n (n : Int) rfl hin h.pl h.calm (by omega) hpg hr ho).mono ?_
        rintro ed w' ⟨OO', rfl, hp, hg⟩
        exact ⟨_, S.op1, _, OO', rfl, Fresh.nil _ _ _, ⟨hp, h.calm.op1, h.coh.same fun j _ => rd_op1 S _ _⟩, fun j _ => rd_op1 S _ _, hg⟩
      | some y =>
        obtain ⟨k, pl'⟩ := y
        rw [ho] at hrs
        cases hrs
        refine (cread_disk n K (n : Int) rfl pl hin h.pl h.calm (by omega) hpg hr ho).mono ?_
        rintro ed w' ⟨v, OO', rfl, hf, hp, hg⟩
        obtain ⟨q1, q2, q3, q4⟩ := Pg.opn_some ho
        exact ⟨v, S.op1, _, OO', rfl, hf, ⟨hp, h.calm.op1, (h.coh.same fun j _ => rd_op1 S _ _).inn ⟨hr, q1, q2, q3, (rd_op1 S _ _).trans q4⟩⟩, fun j _ => rd_op1 S _ _, hg⟩
  · rw [if_neg hr] at hrs
    cases hrs
    refine (read_off n hn h.pl (by rw [h.calm.len]; omega)).mono ?_
    rintro ed w' ⟨rfl, hb⟩
    exact ⟨_, S, A, OO, rfl, Fresh.nil _ _ _, (h.below hb).mono (by omega), fun _ _ => rfl, Go1.of_below hb⟩
theorem CP.write (h : CP w p d q S most A OO pages c) (hc : c ≤ 9000) (hpg : pages ≤ 10000) (n k : Nat) (hn : n < 4294967296) (a : Option Addr) (cap : Nat) (pl : List Int) (hin : Inn w a pl.length cap pl) (hap : pl ≠ [] → ∀ ad, a = some ad → ¬ OO ad.block) (len : Nat) (hlen : pl.length = len) :
    Calls Try.prog 9 #[.pointer (some ⟨p, 0, none⟩), .int .u32 (n : Int), .int .u8 (k : Int), .slice a len cap] w fun ed w' => ∃ S' A' OO', ed = .returned (.int .u16 (we pages n k len : Int)) ∧ CP w' p d q S' most A' OO' pages (c + 1) ∧ (∀ j, j < pages → rd S' (8 * j) 8 = if we pages n k len = 0 ∧ j = n then Pg.pg k n pl else rd S (8 * j) 8) ∧ Go1 OO w OO' w' := by
  subst hlen
  unfold we
  by_cases hok : 1 ≤ k ∧ k ≤ 4 ∧ pl.length ≤ 1008
  · simp only [if_pos hok]
    by_cases hr : n < pages
    · simp only [if_pos hr]
      refine (cwrite n k (n : Int) (k : Int) rfl rfl a pl.length cap pl h.pl h.calm (by omega) hpg hr hok.1 hok.2.1 hok.2.2 rfl hin.bare hin.row hin.byts hap).mono ?_
      rintro ed w' ⟨rfl, OO', hp, hg⟩
      have hlg : (Pg.pg k n pl).length = 1024 := Pg.pg_length k n pl hok.2.2
      have hrd : ∀ j, rd (S.op2.adds (8 * n) (Pg.pg k n pl) 8) (8 * j) 8 = if True ∧ j = n then Pg.pg k n pl else rd S (8 * j) 8 := fun j => by
        by_cases e : j = n
        · subst e; rw [if_pos ⟨trivial, rfl⟩]; exact rd_wr_same S j _ hlg
        · rw [if_neg (fun h => e h.2)]; exact rd_wr_other S _ (fun h => e h.symm)
      refine ⟨_, _, OO', rfl, ⟨hp, h.calm.wr _ _, Coh.inn (fun x hx => ?_) ⟨hr, hok.1, hok.2.1, hok.2.2, rd_wr_same S n _ hlg⟩⟩, fun j _ => by simpa using hrd j, hg⟩
      obtain ⟨hx1, hx2⟩ := List.mem_filter.1 hx
      have hne : x.n ≠ n := by simpa using hx2
      refine ⟨(h.coh x hx1).1, (h.coh x hx1).2.1, (h.coh x hx1).2.2.1, (h.coh x hx1).2.2.2.1, ?_⟩
      rw [hrd, if_neg (fun h => hne h.2)]
      exact (h.coh x hx1).2.2.2.2
    · simp only [if_neg hr]
      refine (write_off n k a pl.length cap pl hn h.pl hok.1 hok.2.1 hok.2.2 rfl hin.bare hin.row hin.byts (by rw [h.calm.len]; omega)).mono ?_
      rintro ed w' ⟨rfl, hb⟩
      exact ⟨S, A, OO, rfl, (h.below hb).mono (by omega), fun j _ => by simp, Go1.of_below hb⟩
  · simp only [if_neg hok]
    refine (write_bad n k a pl.length cap w _ hok).mono ?_
    rintro ed w' ⟨rfl, hb⟩
    exact ⟨S, A, OO, rfl, (h.below hb).mono (by omega), fun j _ => by simp, Go1.of_below hb⟩
theorem CP.new (O : Nat → Prop) (mo : Nat) (M : Int) (hM : M = (mo : Int)) (w : World) (h : DkAt w d q (DS.new (8 * pages)) O) (h1 : 1 ≤ mo) (h2 : mo ≤ 1000000) :
    Calls Try.prog 7 #[.pointer (some ⟨d, 0, none⟩), .int .i64 M] w fun ed w' => ∃ p OO, ed = .returned (.tuple #[.pointer (some ⟨p, 0, none⟩), .int .u16 0]) ∧ CP w' p d q (DS.new (8 * pages)) mo [] OO pages 0 ∧ Go1 O w OO w' := by
  refine (pnew_any mo M hM w h h1 h2).mono ?_
  rintro ed w' ⟨p, OO, rfl, hp, hg⟩
  exact ⟨p, OO, rfl, ⟨hp, Calm.new pages, Coh.nil⟩, hg⟩
variable {B : Nat} {w0 : World} {m m' p' d' q' : Nat} {O O' O1 : Nat → Prop} {S1 : DS} {A1 : List Pge} {c' : Nat}
end Go.Proofs.Ytpcckaahfaobeaa
