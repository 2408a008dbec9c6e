/- A pool on which nothing fails, told by its disk's pages; two pools side by side. -/
import Derived.Test.YtlmofgfkclfgeaaGreatFQ
import Derived.Test.YtlmofgfkclfgeaaGreatRows
import Derived.Test.YtlmofgfkclfgeaaGreatChecked
import Derived.Deep.MidRow
import Derived.Maps.Own
import Derived.Maps.OwnSet
import Derived.Maps.AppendAt
import Derived.OwnWalk
import Derived.BigQuiet
namespace Go.Proofs.YtlmofgfkclfgeaaGreat
open Go.RowKit Go.Maps
set_option linter.unusedVariables false

/-- what is at hand is what the disk has. -/
def Coh (S : DS) (A : List Pge) (pages : Nat) : Prop := ∀ x ∈ A, x.n < pages ∧ 1 ≤ x.k ∧ x.k ≤ 4 ∧ x.pl.length ≤ 1008 ∧ rd S (8 * x.n) 8 = Pg.pg x.k x.n x.pl
variable {S S' : DS} {A A' : List Pge} {pages c most : Nat}
theorem Coh.sub (h : Coh S A pages) (hs : ∀ x ∈ A', x ∈ A) : Coh S A' pages := fun x hx => h x (hs x hx)
theorem Coh.nil : Coh S [] pages := fun x hx => by simp at hx
theorem Coh.wo (h : Coh S A pages) (n : Nat) : Coh S (wo A n) pages := h.sub fun x hx => (List.mem_filter.1 hx).1
theorem Coh.snoc (h : Coh S A pages) {x : Pge} (hx : x.n < pages ∧ 1 ≤ x.k ∧ x.k ≤ 4 ∧ x.pl.length ≤ 1008 ∧ rd S (8 * x.n) 8 = Pg.pg x.k x.n x.pl) : Coh S (A ++ [x]) pages := fun y hy => by
  rcases List.mem_append.1 hy with hy | hy
  · exact h y hy
  · rw [List.mem_singleton.1 hy]; exact hx
theorem Coh.inn (h : Coh S A pages) {x : Pge} (hx : x.n < pages ∧ 1 ≤ x.k ∧ x.k ≤ 4 ∧ x.pl.length ≤ 1008 ∧ rd S (8 * x.n) 8 = Pg.pg x.k x.n x.pl) : Coh S (inn most A x) pages := by
  unfold Go.Proofs.YtlmofgfkclfgeaaGreat.inn
  refine Coh.snoc ?_ hx
  split
  · exact h.sub fun y hy => List.mem_of_mem_tail hy
  · exact h
theorem Coh.same (h : Coh S A pages) (hr : ∀ j, j < pages → rd S' (8 * j) 8 = rd S (8 * j) 8) : Coh S' A pages := fun x hx => ⟨(h x hx).1, (h x hx).2.1, (h x hx).2.2.1, (h x hx).2.2.2.1, (hr _ (h x hx).1).trans (h x hx).2.2.2.2⟩
theorem Coh.opn (h : Coh S A pages) {x : Pge} (hx : x ∈ A) : Pg.opn x.n (rd S (8 * x.n) 8) = some (x.k, x.pl) := by
  obtain ⟨h1, h2, h3, h4, h5⟩ := h x hx
  rw [h5]
  exact Pg.opn_pg x.k x.n x.pl h2 h3 h4
/-- what Read tells: the kind, the error, the bytes. -/
def rs (pages n : Nat) (zs : List Int) : Nat × Nat × List Int :=
  if n < pages then match Pg.opn n zs with
    | none => (0, 100, [])
    | some (k, pl) => (k, 0, pl)
  else (0, 2, [])
/-- what Write tells. -/
def we (pages n k len : Nat) : Nat := if 1 ≤ k ∧ k ≤ 4 ∧ len ≤ 1008 then (if n < pages then 0 else 2) else 80
/-- a pool on which nothing fails. -/
structure CP (W : World) (p d q : Nat) (S : DS) (most : Nat) (A : List Pge) (OO : Nat → Prop) (pages c : Nat) : Prop where
  pl : Pl W p d q S most A OO
  calm : Calm S pages c
  coh : Coh S A pages
variable {w w' W W' : World} {p d q : Nat} {OO OO' : Nat → Prop}
theorem CP.mono (h : CP W p d q S most A OO pages c) {c' : Nat} (hc : c ≤ c') : CP W p d q S most A OO pages c' := ⟨h.pl, h.calm.mono hc, h.coh⟩
theorem CP.below (h : CP W p d q S most A OO pages c) (hb : Below W.heap.size W W') : CP W' p d q S most A OO pages c := ⟨h.pl.below hb, h.calm, h.coh⟩
theorem CP.other {P : Nat → Prop} (h : CP W p d q S most A OO pages c) (hm : Mv P W W') (hap : ∀ k, OO k → ¬ P k) : CP W' p d q S most A OO pages c := ⟨h.pl.other hm hap, h.calm, h.coh⟩
theorem find_n (A : List Pge) (n : Nat) : n ∈ A.map Pge.n → ∃ x ∈ A, x.n = n := fun h => by
  obtain ⟨x, hx, e⟩ := List.mem_map.1 h
  exact ⟨x, hx, e⟩
theorem opn_bytes {n k : Nat} {pl zs : List Int} (h : Pg.opn n zs = some (k, pl)) : 1 ≤ k ∧ k ≤ 4 ∧ pl.length ≤ 1008 ∧ zs = Pg.pg k n pl := Pg.opn_some h
theorem CP.read (h : CP w p d q S most A OO pages c) (hc : c ≤ 9000) (hpg : pages ≤ 10000) (n : Nat) (hn : n < 4294967296) (K E : Nat) (pl : List Int) (hrs : rs pages n (rd S (8 * n) 8) = (K, E, pl)) :
    Calls Tryz.prog 66 #[.pointer (some ⟨p, 0, none⟩), .int .u32 (n : Int)] w fun ed w' => ∃ v S' A' OO', ed = .returned (.tuple #[.int .u8 (K : Int), v, .int .u16 (E : Int)]) ∧ Fresh w w' OO' v pl ∧ CP w' p d q S' most A' OO' pages (c + 1) ∧ (∀ j, j < pages → rd S' (8 * j) 8 = rd S (8 * j) 8) ∧ Go1 OO w OO' w' := by
  unfold rs at hrs
  by_cases hr : n < pages
  · rw [if_pos hr] at hrs
    by_cases hin : n ∈ A.map Pge.n
    · obtain ⟨x, hx, rfl⟩ := find_n A n hin
      have ho := h.coh.opn hx
      rw [ho] at hrs
      cases hrs
      refine (cread_hand x.n (x.n : Int) rfl x hx rfl h.pl h.calm hr).mono ?_
      rintro ed w' ⟨v, OO', rfl, hf, hp, hg⟩
      exact ⟨v, S, _, OO', rfl, hf, ⟨hp, h.calm.mono (by omega), (h.coh.wo _).snoc (h.coh x hx)⟩, fun _ _ => rfl, hg⟩
    · cases ho : Pg.opn n (rd S (8 * n) 8) with
      | none =>
        rw [ho] at hrs
        cases hrs
        refine (cread_form n (n : Int) rfl hin h.pl h.calm (by omega) hpg hr ho).mono ?_
        rintro ed w' ⟨OO', rfl, hp, hg⟩
        exact ⟨_, S.op1, _, OO', rfl, Fresh.nil _ _ _, ⟨hp, h.calm.op1, h.coh.same fun j _ => rd_op1 S _ _⟩, fun j _ => rd_op1 S _ _, hg⟩
      | some y =>
        obtain ⟨k, pl'⟩ := y
        rw [ho] at hrs
        cases hrs
        refine (cread_disk n K (n : Int) rfl pl hin h.pl h.calm (by omega) hpg hr ho).mono ?_
        rintro ed w' ⟨v, OO', rfl, hf, hp, hg⟩
        obtain ⟨q1, q2, q3, q4⟩ := Pg.opn_some ho
        exact ⟨v, S.op1, _, OO', rfl, hf, ⟨hp, h.calm.op1, (h.coh.same fun j _ => rd_op1 S _ _).inn ⟨hr, q1, q2, q3, (rd_op1 S _ _).trans q4⟩⟩, fun j _ => rd_op1 S _ _, hg⟩
  · rw [if_neg hr] at hrs
    cases hrs
    refine (read_off n hn h.pl (by rw [h.calm.len]; omega)).mono ?_
    rintro ed w' ⟨rfl, hb⟩
    exact ⟨_, S, A, OO, rfl, Fresh.nil _ _ _, (h.below hb).mono (by omega), fun _ _ => rfl, Go1.of_below hb⟩
theorem CP.new (O : Nat → Prop) (mo : Nat) (M : Int) (hM : M = (mo : Int)) (w : World) (h : DkAt w d q (DS.new (8 * pages)) O) (h1 : 1 ≤ mo) (h2 : mo ≤ 9223372036854775807) :
    Calls Tryz.prog 7 #[.pointer (some ⟨d, 0, none⟩), .int .i64 M] w fun ed w' => ∃ p OO, ed = .returned (.tuple #[.pointer (some ⟨p, 0, none⟩), .int .u16 0]) ∧ CP w' p d q (DS.new (8 * pages)) mo [] OO pages 0 ∧ Go1 O w OO w' := by
  refine (pnew_any mo M hM w h h1 h2).mono ?_
  rintro ed w' ⟨p, OO, rfl, hp, hg⟩
  exact ⟨p, OO, rfl, ⟨hp, Calm.new pages, Coh.nil⟩, hg⟩
variable {B : Nat} {w0 : World} {m m' p' d' q' : Nat} {O O' O1 : Nat → Prop} {S1 : DS} {A1 : List Pge} {c' : Nat}
end Go.Proofs.YtlmofgfkclfgeaaGreat
/- Memory that is owned by some blocks: what stays as it was, and rows of more than one cell. -/
namespace Go.Proofs.YtlmofgfkclfgeaaGreat
open Go.RowKit Go.Maps
set_option linter.unusedVariables false

theorem Mv.alloc {O : Nat → Prop} {w w' : World} (h : Mv O w w') (o : Obj) : Mv O w (w'.alloc o) := by
  have hb := below_alloc w' o
  exact ⟨hb.os.trans h.os, hb.tape.trans h.tape, hb.output.trans h.output, Nat.le_trans h.size hb.size, fun k hk ho => (hb.block k (Nat.lt_of_lt_of_le hk h.size)).trans (h.block k hk ho)⟩
theorem Mv.grown {O : Nat → Prop} {w w1 w2 : World} {r : Option Nat} (h : Mv O w w1) (hg : w1.grownBy w2 r) (hr : ∀ k, r = some k → O k ∨ w.heap.size ≤ k) : Mv O w w2 :=
  ⟨hg.os.trans h.os, hg.tape.trans h.tape, hg.output.trans h.output, Nat.le_trans h.size hg.size, fun k hk ho => by
    rw [hg.block k (Nat.lt_of_lt_of_le hk h.size) (fun e => (hr k e.symm).elim ho (fun hl => by omega))]
    exact h.block k hk ho⟩
theorem row_shape2 {w : World} {base e size : Nat} {v : Value} {n : Nat} {xs : List Value} (h : w.ownsRow base e size v n xs) : ∃ a cap, v = .slice a n cap := by
  rcases h.2 with ⟨e, h0⟩ | ⟨g, cap, cur, e, _⟩
  · exact ⟨_, _, by rw [h0]; exact e⟩
  · exact ⟨_, _, e⟩
end Go.Proofs.YtlmofgfkclfgeaaGreat
/- Words and bytes in a row; a number as four bytes. -/
namespace Go.Proofs.YtlmofgfkclfgeaaGreat
open Go.RowKit Go.Maps
set_option linter.unusedVariables false
variable {w w' : World}
/-- nothing but drawn orders has turned. -/
structure Same (w w' : World) : Prop where
  os : w'.os = w.os
  tape : w'.tape = w.tape
  output : w'.output = w.output
  heap : w'.heap = w.heap
theorem Same.refl (w : World) : Same w w := ⟨rfl, rfl, rfl, rfl⟩
theorem Same.drew {w w' : World} (h : Same w w') : Same w w'.drew := ⟨h.os, h.tape, h.output, h.heap⟩
theorem Same.trans {a b c : World} (h : Same a b) (k : Same b c) : Same a c := ⟨k.os.trans h.os, k.tape.trans h.tape, k.output.trans h.output, k.heap.trans h.heap⟩
theorem Same.drewN {w w' : World} (h : Same w w') (n : Nat) : Same w (w'.drewN n) := ⟨h.os, h.tape, h.output, h.heap⟩
theorem Same.mv {O : Nat → Prop} {w w' : World} (h : Same w w') : Mv O w w' := ⟨h.os, h.tape, h.output, by rw [h.heap]; exact Nat.le_refl _, fun k _ _ => by rw [h.heap]⟩
theorem Same.below {w w' : World} (h : Same w w') : Below w.heap.size w w' := ⟨h.os, h.tape, h.output, by rw [h.heap]; exact Nat.le_refl _, fun k _ => by rw [h.heap]⟩
/-- a slice's first cells hold the words zs. -/
def Rw (w : World) (a : Option Addr) (zs : List Nat) : Prop :=
  zs = [] ∨ ∃ b off, a = some ⟨b, off, none⟩ ∧ b < w.heap.size ∧ ∀ i, i < zs.length → w.cell? ⟨b, off + i, none⟩ = some (.int .u32 ((zs.getD i 0 : Nat) : Int))
/-- words that may be. -/
def W32 (zs : List Nat) : Prop := ∀ z ∈ zs, z ≤ 4294967295
theorem Rw.below {a : Option Addr} {zs : List Nat} (h : Rw w a zs) (hb : Below w.heap.size w w') : Rw w' a zs := by
  rcases h with h | ⟨b, off, rfl, hlt, hc⟩
  · exact .inl h
  · exact .inr ⟨b, off, rfl, Nat.lt_of_lt_of_le hlt hb.size, fun i hi => (hb.cell (p := ⟨b, off + i, none⟩) hlt).trans (hc i hi)⟩
theorem W32.at {zs : List Nat} (h : W32 zs) (i : Nat) : zs.getD i 0 ≤ 4294967295 := by
  by_cases hi : i < zs.length
  · rw [List.getD_eq_getElem?_getD, List.getElem?_eq_getElem hi]; exact h _ (List.getElem_mem hi)
  · rw [List.getD_eq_getElem?_getD, List.getElem?_eq_none (by omega)]; simp
theorem all_at {zs : List Nat} {p : Nat → Bool} : zs.all p = true ↔ ∀ i, i < zs.length → p (zs.getD i 0) = true := by
  rw [List.all_eq_true]
  constructor
  · intro h i hi
    rw [List.getD_eq_getElem?_getD, List.getElem?_eq_getElem hi]; exact h _ (List.getElem_mem hi)
  · intro h x hx
    obtain ⟨i, hi, rfl⟩ := List.getElem_of_mem hx
    have := h i hi
    rwa [List.getD_eq_getElem?_getD, List.getElem?_eq_getElem hi] at this
/-- may a great value stand there? -/
def okp (n : Nat) : Bool := decide (2 ≤ n) && decide (n ≤ 16383)
/-- the words zs lie in a row of the call's own. -/
def OwnW (w : World) (v : Value) (zs : List Nat) : Prop := w.ownsRow 0 23 1 v zs.length (zs.map fun (z : Nat) => Value.int .u32 (z : Int))
theorem OwnW.nil (w : World) : OwnW w (.slice none 0 0) [] := World.ownsRow_nil w 0 23 1
theorem OwnW.lt {v : Value} {zs : List Nat} (h : OwnW w v zs) {k : Nat} (hk : v.ownBlock = some k) : k < w.heap.size := (World.ownsRow.lt h k hk).2
theorem OwnW.shape {v : Value} {zs : List Nat} (h : OwnW w v zs) : ∃ a c, v = .slice a zs.length c ∧ zs.length ≤ c ∧ c ≤ maxLen ∧ Rw w a zs ∧ ∀ k, (∃ ad, a = some ad ∧ ad.block = k) ↔ v.ownBlock = some k := by
  rcases h.2 with ⟨rfl, h0⟩ | ⟨g, cap, cur, rfl, _, hg, hn, hm, _⟩
  · exact ⟨none, 0, by rw [h0], by omega, by omega, .inl (List.eq_nil_of_length_eq_zero h0), fun k => by simp [Value.ownBlock]⟩
  · refine ⟨_, cap, rfl, hn, hm, .inr ⟨g, 0, rfl, lt_of_block hg, fun i hi => ?_⟩, fun k => by simp [Value.ownBlock]⟩
    have := World.ownsRow.cells h (g := g) rfl i (.int .u32 ((zs.getD i 0 : Nat) : Int)) (by simp [hi])
    rwa [Addr.add_lit] at this
theorem OwnW.of_block {v : Value} {zs : List Nat} (h : OwnW w v zs) (hb : ∀ k, v.ownBlock = some k → w'.heap[k]? = w.heap[k]?) : OwnW w' v zs := by
  obtain ⟨h1, h2⟩ := h
  refine ⟨h1, ?_⟩
  rcases h2 with h2 | ⟨g, cap, cur, rfl, hg, hh, r⟩
  · exact .inl h2
  · exact .inr ⟨g, cap, cur, rfl, hg, by rw [hb g rfl]; exact hh, r⟩
theorem infoU32 : (Tryz.prog.info? 23).map (fun i => (i.zero, i.size, i.bytes)) = some (some (.int .u32 0), 1, 4) := by kernel_rfl
theorem infoU8 : (Tryz.prog.info? 5).map (fun i => (i.zero, i.size, i.bytes)) = some (some (.int .u8 0), 1, 1) := by kernel_rfl
theorem infoBy : (Tryz.prog.info? 22).map (fun i => (i.zero, i.size, i.bytes)) = some (some (.slice none 0 0), 1, 24) := by kernel_rfl
theorem Rw.tail {a : Option Addr} {zs : List Nat} (h : Rw w a zs) (c : Nat) (hc : zs.length ≤ c) : Rw w (if c = 1 then a else a.map (fun x => x.add 1)) (zs.drop 1) := by
  by_cases hq : 1 < zs.length
  · rw [if_neg (by omega)]
    rcases h with rfl | ⟨b, off, rfl, hlt, hh⟩
    · exact .inl (by simp)
    · refine .inr ⟨b, off + 1, by rw [Option.map_some, Addr.add_lit], hlt, fun i hi => ?_⟩
      rw [List.length_drop] at hi
      rw [Nat.add_assoc, hh (1 + i) (by omega)]
      simp [List.getD_eq_getElem?_getD, Nat.add_comm 1 i]
  · exact .inl (List.drop_of_length_le (by omega))
theorem Row.cut {a : Option Addr} {zs : List Int} (h : Row w a zs) (q c : Nat) (hc : zs.length ≤ c) : Row w (if c = q then a else a.map (fun x => x.add q)) (zs.drop q) := by
  by_cases hq : q < zs.length
  · rw [if_neg (by omega)]
    rcases h with rfl | ⟨b, off, rfl, hlt, hh⟩
    · exact .inl (by simp)
    · refine .inr ⟨b, off + q, by rw [Option.map_some, Addr.add_lit], hlt, fun i hi => ?_⟩
      rw [List.length_drop] at hi
      rw [Nat.add_assoc, hh (q + i) (by omega)]
      simp [List.getD_eq_getElem?_getD]
  · exact .inl (List.drop_of_length_le (by omega))
theorem Row.take {a : Option Addr} {zs : List Int} (h : Row w a zs) (k : Nat) : Row w a (zs.take k) := by
  rcases h with rfl | ⟨b, off, rfl, hlt, hc⟩
  · exact .inl (by simp)
  · exact .inr ⟨b, off, rfl, hlt, fun i hi => by
      simp only [List.length_take] at hi
      rw [hc i (by omega)]
      simp [List.getD_eq_getElem?_getD, show i < k by omega]⟩
/-- a number as four bytes. -/
def le4 (n : Nat) : List Int := [(n : Int) % 256, (n : Int) / 256 % 256, (n : Int) / 65536 % 256, (n : Int) / 16777216]
theorem le4_len (n : Nat) : (le4 n).length = 4 := rfl
set_option maxHeartbeats 1600000 in
set_option maxRecDepth 1000000 in
theorem putNumber_any (w : World) (v : Value) (ys : List Int) (hv : Own w v ys) (n : Nat) (hn : n ≤ 4294967295) (hl : ys.length ≤ 1000000) :
    Calls Tryz.prog 65 #[v, .int .u32 (n : Int)] w fun e w' => ∃ v', e = .returned v' ∧ Own w' v' (ys ++ le4 n) ∧ (v'.ownBlock = v.ownBlock ∨ ∃ k, v'.ownBlock = some k ∧ w.heap.size ≤ k) ∧ Mv (fun k => v.ownBlock = some k) w w' := by
  obtain ⟨a, m, c, rfl, hm⟩ := hv.shape2
  have HV := hide hv
  obtain ⟨i0, hi, hz0, hz1, hz2⟩ := info_parts infoU8
  have HL := hide hl
  clear hv hl
  have HNw : Hid (∀ j u, ((le4 n).map (Value.int .u8))[j]? = some u → (w.alloc (.cells #[.int .u8 ((n : Int) % 256), .int .u8 ((n : Int) / 256 % 256), .int .u8 ((n : Int) / 65536 % 256), .int .u8 ((n : Int) / 16777216)] 5)).cell? ((⟨w.heap.size, 0, none⟩ : Addr).add j) = some u) := fun j u hu => by
    rw [Addr.add_lit, cell_of_row _ _ (0 + j) _ 5 (0, 0) (heap_alloc_new w _)]
    simpa [le4] using hu
  have HOne : Hid (∀ u ∈ (le4 n).map (Value.int .u8), u.oneCell' = true) := by
    intro u hu
    obtain ⟨x, _, rfl⟩ := List.mem_map.1 hu
    rfl
  go_enter Tryz.func65, Tryz.ntmps65
  go_wp2_with (at_builtin; refine wpList_append_own_at _ (by rfl) (.tmp 5) (.tmp 17) 22 (by rfl) 0 5 i0 (.int .u8 0) 1 1 Tryz.underlying22 hi hz0 hz1 hz2 rfl (by omega) (.slice a m c) ys.length (ys.map (Value.int .u8)) (by rfl) (World.ownsRow.alloc HV.out _) ⟨w.heap.size, 0, none⟩ 4 4 ((le4 n).map (Value.int .u8)) (by rfl) (by rfl) HNw.out HOne.out (by have := HL.out; unfold maxLen; omega) (by have := HL.out; omega) (Nat.zero_le _) ?_; intro v' w1 h1 h2 h3 h4; have H1 := hide h1; have H2 := hide h2; have H4 := hide h4; clear h1 h2 h3 h4)
  go_ret
  refine ⟨v', rfl, ?_, ?_, ((Mv.refl _ w).alloc _).grown H2.out (fun k hk => .inl hk)⟩
  · have := H1.out
    unfold Own
    rw [List.length_append, List.map_append]
    exact this
  · rcases H4.out with e | e
    · exact .inl e
    · exact .inr ⟨_, e, by simp⟩
end Go.Proofs.YtlmofgfkclfgeaaGreat
