/- What the proofs have in common: what a slice of bytes that came in is known to be; writers and readers beside each other; the one form of a varint. -/
import Derived.Test.YtobkmjkcbihfbaaRows
import Derived.Test.YtobkmjkcbihfbaaF
import Derived.OpenShut
import Derived.ShutString
import Derived.ChangeOld
namespace Go.Proofs.Ytobkmjkcbihfbaa
open Go.ChangeShapes Go.WideShapes Go.ChangeAt Go.RowKit
set_option linter.unusedVariables false

theorem own : ownKnob Try.prog.godebug = none := by kernel_rfl
theorem laidOut : laidOutB Try.prog = true := by kernel_rfl

/-- what a walk is told of a slice of integers that came in. -/
def IsRow (k : IntKind) (w : World) (a : Option Addr) (len cap : Nat) (zs : List Int) : Prop :=
  (a = none ∧ len = 0 ∧ cap = 0 ∧ zs = []) ∨
  ∃ x, a = some x ∧ len ≤ cap ∧ cap ≤ maxLen ∧ zs.length = cap ∧ (∀ i, i < zs.length → w.cell? (x.add i) = some (.int k (zs.getD i 0))) ∧ ∀ n ∈ zs, (Lit.int k n).wf = true

theorem isrow_row {w : World} {a : Option Addr} {len cap : Nat} {zs : List Int} (h : IsRow .u8 w a len cap zs) :
    Row w a (zs.take len) ∧ Byts (zs.take len) ∧ (zs.take len).length = len ∧ len ≤ cap ∧ cap ≤ maxLen ∧ (a = none → len = 0 ∧ cap = 0) := by
  rcases h with ⟨rfl, rfl, rfl, rfl⟩ | ⟨x, rfl, hl, hm, hz, hcell, hwz⟩
  · exact ⟨.inl rfl, (by intro c hc; simp at hc), rfl, Nat.le_refl _, Nat.zero_le _, fun _ => ⟨rfl, rfl⟩⟩
  · have hlen : (zs.take len).length = len := by simp; omega
    refine ⟨?_, ?_, hlen, hl, hm, by intro h; cases h⟩
    · by_cases h0 : len = 0
      · subst h0; exact .inl rfl
      · obtain ⟨b, off, spot⟩ := x
        have hc := hcell 0 (by omega)
        have hspot : spot = none := by simpa [Addr.add] using World.cell?_spot hc
        subst hspot
        refine .inr ⟨b, off, rfl, ?_, fun i hi => ?_⟩
        · have := World.block_lt_of_cell? w _ hc
          rw [Addr.add_lit] at this
          exact this
        · rw [hlen] at hi
          have := hcell i (by omega)
          rw [Addr.add_lit] at this
          rw [this]; simp [hi]
    · intro c hc
      exact bounds_u8 (hwz c (List.mem_of_mem_take hc))

theorem Wr.drew {w : World} {p : Nat} {zs : List Int} (h : Wr w p zs) : Wr w.drew p zs := h
theorem Row.drew {w : World} {a : Option Addr} {zs : List Int} (h : Row w a zs) : Row w.drew a zs := h
theorem Row.first {w : World} {a : Option Addr} {zs : List Int} (h : Row w a zs) (n : Nat) : Row w a (zs.take n) := by
  rcases h with h | ⟨b, off, rfl, hlt, hc⟩
  · exact .inl (by rw [h]; simp)
  · refine .inr ⟨b, off, rfl, hlt, fun i hi => ?_⟩
    rw [List.length_take] at hi
    rw [hc i (by omega)]
    simp [List.getD_eq_getElem?_getD, show i < n by omega]
/-- two writers have no block in common. -/
def Apart (w : World) (p q : Nat) : Prop := ∀ k, foot w p k → ¬ foot w q k
theorem Apart.symm {w : World} {p q : Nat} (h : Apart w p q) : Apart w q p := fun k h1 h2 => h k h2 h1
theorem wrote_same {w w' : World} {p q k : Nat} {zs : List Int} (hw : Wrote p w w') (hq : Wr w q zs) (ha : Apart w p q) : foot w' q k ↔ foot w q k :=
  foot_same (hw.block q hq.lt (fun hf => ha q hf (.inl rfl)))
theorem Wr.other {w w' : World} {p q : Nat} {zs : List Int} (h : Wr w q zs) (hw : Wrote p w w') (ha : Apart w p q) : Wr w' q zs :=
  h.of_block fun k hk => hw.block k (h.foot_lt hk) (fun hf => ha k hf hk)
theorem Apart.wrote {w w' : World} {p q : Nat} {zs : List Int} (ha : Apart w p q) (hq : Wr w q zs) (hw : Wrote p w w') : Apart w' p q := by
  intro k h1 h2
  have h3 := (wrote_same hw hq ha).1 h2
  rcases hw.foot k h1 with h | h
  · exact ha k h h3
  · have := hq.foot_lt h3; omega
/-- a third one writes. -/
theorem Apart.third {w w' : World} {p q r : Nat} {zs ys : List Int} (ha : Apart w p q) (hp : Wr w p zs) (hq : Wr w q ys) (hrp : Apart w r p) (hrq : Apart w r q) (hw : Wrote r w w') : Apart w' p q := by
  intro k h1 h2
  exact ha k ((wrote_same hw hp hrp).1 h1) ((wrote_same hw hq hrq).1 h2)
theorem New.other {B : Nat} {w w' : World} {p q : Nat} {zs : List Int} (h : New B w q) (hq : Wr w q zs) (hw : Wrote p w w') (ha : Apart w p q) : New B w' q := fun k hk => h k ((wrote_same hw hq ha).1 hk)
theorem Apart.below {w w' : World} {p q : Nat} (ha : Apart w p q) (hp : p < w.heap.size) (hq : q < w.heap.size) (hb : Below w.heap.size w w') : Apart w' p q :=
  fun k h1 h2 => ha k ((foot_same (hb.block p hp)).1 h1) ((foot_same (hb.block q hq)).1 h2)
theorem Apart.new {w : World} {p : Nat} {zs : List Int} (hp : Wr w p zs) : Apart (w.alloc (.cells #[.slice none 0 0] 88)) p w.heap.size := by
  intro k h1 h2
  have e := new_foot w k h2
  have h3 := (foot_same (below_alloc w (.cells #[.slice none 0 0] 88) |>.block p hp.lt)).1 h1
  have := hp.foot_lt h3
  omega
theorem Rd.wrote {w w' : World} {p q : Nat} {a : Option Addr} {bs : List Int} {i e : Nat} (h : Rd w q a bs i e) (hw : Wrote p w w') (h1 : ¬ foot w p q) (h2 : ∀ ad, a = some ad → ¬ foot w p ad.block) : Rd w' q a bs i e := by
  refine ⟨(hw.block q h.lt h1).trans h.blk, ?_, h.apart, h.bare, h.byts, h.le, h.small, h.err, fun ad had => Nat.lt_of_lt_of_le (h.inn ad had) hw.size⟩
  rcases h.row with h0 | ⟨b, off, rfl, hlt, hc⟩
  · exact .inl h0
  · exact .inr ⟨b, off, rfl, Nat.lt_of_lt_of_le hlt hw.size, fun j hj => (World.cell?_of_block (a := ⟨b, off + j, none⟩) (hw.block b hlt (h2 _ rfl))).trans (hc j hj)⟩

/-- all of a writer's blocks lie from p on, all of a reader's below. -/
structure Beside (w : World) (p q : Nat) (a : Option Addr) : Prop where
  new : New p w p
  q : q < p
  a : ∀ ad, a = some ad → ad.block < p
theorem Beside.rd {w w' : World} {p q : Nat} {a : Option Addr} {bs : List Int} {i e : Nat} (hb : Beside w p q a) (h : Rd w q a bs i e) (hw : Wrote p w w') : Rd w' q a bs i e :=
  h.wrote hw (fun hf => by have := hb.new q hf; have := hb.q; omega) (fun ad had hf => by have := hb.new _ hf; have := hb.a ad had; omega)
theorem New.at {w : World} {p : Nat} {zs : List Int} (h : New p w p) (hp : Wr w p zs) : p < w.heap.size := hp.lt
theorem Beside.wrote {w w' : World} {p q : Nat} {a : Option Addr} {zs : List Int} (hb : Beside w p q a) (hp : Wr w p zs) (hw : Wrote p w w') : Beside w' p q a := ⟨hb.new.wrote hw (Nat.le_of_lt hp.lt), hb.q, hb.a⟩
theorem Beside.below {w w' : World} {p q : Nat} {a : Option Addr} (hb : Beside w p q a) (hp : p < w.heap.size) (h : Below w.heap.size w w') : Beside w' p q a := ⟨hb.new.below hp h, hb.q, hb.a⟩
theorem Beside.start {w : World} {q : Nat} {a : Option Addr} {bs : List Int} {i e : Nat} (h : Rd w q a bs i e) : Beside (w.alloc (.cells #[.slice none 0 0] 88)) w.heap.size q a :=
  ⟨fun k hk => by rw [new_foot w k hk]; exact Nat.le_refl _, h.lt, h.inn⟩
/-- the reader changes; writers stay. -/
theorem Wr.grown {w w' : World} {p q : Nat} {zs : List Int} (h : Wr w p zs) (hg : w.grownBy w' (some q)) (hn : ¬ foot w p q) : Wr w' p zs :=
  h.of_block fun k hk => hg.block k (h.foot_lt hk) (fun e => hn (by cases e; exact hk))
theorem foot_grown {w w' : World} {p q k : Nat} {zs : List Int} (h : Wr w p zs) (hg : w.grownBy w' (some q)) (hn : ¬ foot w p q) : foot w' p k ↔ foot w p k :=
  foot_same (hg.block p h.lt (fun e => hn (by cases e; exact .inl rfl)))
/-- three writers, none of which touches another one; all of their blocks lie from L on. -/
structure Three (B L : Nat) (w0 w : World) (x : Nat) (xs : List Int) (y : Nat) (ys : List Int) (z : Nat) (zs : List Int) : Prop where
  below : Below B w0 w
  low : B ≤ L
  size : L ≤ w.heap.size
  wx : Wr w x xs
  wy : Wr w y ys
  wz : Wr w z zs
  nx : New L w x
  ny : New L w y
  nz : New L w z
  xy : Apart w x y
  xz : Apart w x z
  yz : Apart w y z
theorem New.less {B L : Nat} {w : World} {p : Nat} (h : New L w p) (hl : B ≤ L) : New B w p := fun k hk => Nat.le_trans hl (h k hk)
section
variable {B L : Nat} {w0 w w' : World} {x y z : Nat} {xs ys zs us : List Int}
theorem Three.on (h : Three B L w0 w x xs y ys z zs) (hb : Below w.heap.size w w') : Three B L w0 w' x xs y ys z zs :=
  ⟨h.below.trans (hb.mono (Nat.le_trans h.low h.size)), h.low, Nat.le_trans h.size hb.size, h.wx.below hb, h.wy.below hb, h.wz.below hb, h.nx.below h.wx.lt hb, h.ny.below h.wy.lt hb, h.nz.below h.wz.lt hb,
    h.xy.below h.wx.lt h.wy.lt hb, h.xz.below h.wx.lt h.wz.lt hb, h.yz.below h.wy.lt h.wz.lt hb⟩
theorem Three.turn (h : Three B L w0 w x xs y ys z zs) : Three B L w0 w y ys z zs x xs := ⟨h.below, h.low, h.size, h.wy, h.wz, h.wx, h.ny, h.nz, h.nx, h.yz, h.xy.symm, h.xz.symm⟩
theorem Three.onX (h : Three B L w0 w x xs y ys z zs) (hw : Wr w' x us) (ho : Wrote x w w') : Three B L w0 w' x us y ys z zs :=
  ⟨Below.wrote h.below ho (h.nx.less h.low) (Nat.le_trans h.low h.size), h.low, Nat.le_trans h.size ho.size, hw, h.wy.other ho h.xy, h.wz.other ho h.xz, h.nx.wrote ho h.size, h.ny.other h.wy ho h.xy, h.nz.other h.wz ho h.xz,
    h.xy.wrote h.wy ho, h.xz.wrote h.wz ho, h.yz.third h.wy h.wz h.xy h.xz ho⟩
theorem Three.onY (h : Three B L w0 w x xs y ys z zs) (hw : Wr w' y us) (ho : Wrote y w w') : Three B L w0 w' x xs y us z zs := (h.turn.onX hw ho).turn.turn
theorem Three.onZ (h : Three B L w0 w x xs y ys z zs) (hw : Wr w' z us) (ho : Wrote z w w') : Three B L w0 w' x xs y ys z us := (h.turn.turn.onX hw ho).turn
theorem Three.start (B : Nat) (w0 w : World) (hb : Below B w0 w) (hB : B ≤ w.heap.size) :
    Three B w.heap.size w0 (((w.alloc (.cells #[.slice none 0 0] 88)).alloc (.cells #[.slice none 0 0] 88)).alloc (.cells #[.slice none 0 0] 88)) w.heap.size [] (w.alloc (.cells #[.slice none 0 0] 88)).heap.size [] ((w.alloc (.cells #[.slice none 0 0] 88)).alloc (.cells #[.slice none 0 0] 88)).heap.size [] := by
  have s1 := new_st w.heap.size w w (Below.refl _ _) (Nat.le_refl _)
  have s2 := new_st w.heap.size w _ s1.below s1.size
  have s3 := new_st w.heap.size w _ s2.below s2.size
  have t1 := s1.on (below_alloc _ (.cells #[.slice none 0 0] 88))
  have t2 := t1.on (below_alloc _ (.cells #[.slice none 0 0] 88))
  have u2 := s2.on (below_alloc _ (.cells #[.slice none 0 0] 88))
  have a1 := Apart.new s1.wr
  have a2 := Apart.new t1.wr
  have a3 := Apart.new s2.wr
  exact ⟨hb.trans (s3.below.mono hB), hB, s3.size, t2.wr, u2.wr, s3.wr, t2.new, u2.new, s3.new, a1.below t1.wr.lt s2.wr.lt (below_alloc _ _), a2, a3⟩
theorem Three.grown {q : Nat} (h : Three B L w0 w x xs y ys z zs) (hg : w.grownBy w' (some q)) (hq : B ≤ q) (hl : q < L) : Three B L w0 w' x xs y ys z zs := by
  have h1 : ¬ foot w x q := fun hf => by have := h.nx q hf; omega
  have h2 : ¬ foot w y q := fun hf => by have := h.ny q hf; omega
  have h3 : ¬ foot w z q := fun hf => by have := h.nz q hf; omega
  exact ⟨h.below.grown hg (Nat.le_trans h.low h.size) (fun k hk => by cases hk; exact hq), h.low, Nat.le_trans h.size hg.size, h.wx.grown hg h1, h.wy.grown hg h2, h.wz.grown hg h3,
    fun k hk => h.nx k ((foot_grown h.wx hg h1).1 hk), fun k hk => h.ny k ((foot_grown h.wy hg h2).1 hk), fun k hk => h.nz k ((foot_grown h.wz hg h3).1 hk),
    fun k a b => h.xy k ((foot_grown h.wx hg h1).1 a) ((foot_grown h.wy hg h2).1 b), fun k a b => h.xz k ((foot_grown h.wx hg h1).1 a) ((foot_grown h.wz hg h3).1 b), fun k a b => h.yz k ((foot_grown h.wy hg h2).1 a) ((foot_grown h.wz hg h3).1 b)⟩
theorem Rd.high {q p : Nat} {a : Option Addr} {bs : List Int} {i e : Nat} (h : Rd w q a bs i e) (hw : Wrote p w w') (hn : New L w p) (hq : q < L) (ha : ∀ ad, a = some ad → ad.block < L) : Rd w' q a bs i e :=
  h.wrote hw (fun hf => by have := hn q hf; omega) (fun ad had hf => by have := hn _ hf; have := ha ad had; omega)
end
/-- what a varint that is read is: its bytes are those that the number is written as. -/
theorem vgo_form (k v : Nat) (bs : List Int) (hb : Byts bs) :
    ((vgo k v bs).2.2 ≠ 0 → (vgo k v bs).1 = 0 ∧ (vgo k v bs).2.1 = 0) ∧
    ((vgo k v bs).2.2 = 0 → ∃ u j, (vgo k v bs).1 = v + u * 128 ^ k ∧ (vgo k v bs).2.1 = k + j ∧ 1 ≤ j ∧ j ≤ bs.length ∧ bs.take j = vb u ∧ (0 < k → u ≠ 0)) := by
  induction bs generalizing k v with
  | nil => simp [vgo]
  | cons c t ih =>
    have hc := hb c (by simp)
    rw [vgo_cons]
    split
    · simp
    · rename_i hn
      split
      · rename_i h128
        refine ⟨by simp, fun _ => ⟨c.toNat, 1, rfl, rfl, by omega, by simp, ?_, ?_⟩⟩
        · rw [vb_small _ (by omega)]; simp; omega
        · intro hk hz
          exact hn (.inr ⟨hk, by omega⟩)
      · rename_i h128
        obtain ⟨h1, h2⟩ := ih (k + 1) (v + (c.toNat - 128) * 128 ^ k) (fun d hd => hb d (by simp [hd]))
        refine ⟨h1, fun h0 => ?_⟩
        obtain ⟨u, j, e1, e2, e3, e4, e5, e6⟩ := h2 h0
        refine ⟨(c.toNat - 128) + 128 * u, j + 1, ?_, by omega, by omega, by simp; omega, ?_, ?_⟩
        · rw [e1, Nat.add_mul, Nat.pow_succ, Nat.add_assoc]
          congr 2
          rw [Nat.mul_comm (128 ^ k) 128, ← Nat.mul_assoc, Nat.mul_comm u 128]
        · have hu := e6 (by omega)
          have e7 : ((c.toNat - 128) + 128 * u) % 128 + 128 = c.toNat := by omega
          have e8 : ((c.toNat - 128) + 128 * u) / 128 = u := by omega
          rw [List.take_succ_cons, e5, vb_big ((c.toNat - 128) + 128 * u) (by omega), e7, e8, Int.toNat_of_nonneg hc.1]
        · intro _
          have hu := e6 (by omega)
          omega
theorem vint_form (bs : List Int) (hb : Byts bs) (h : (vint bs).2.2 = 0) : 1 ≤ (vint bs).2.1 ∧ (vint bs).2.1 ≤ bs.length ∧ bs.take (vint bs).2.1 = vb (vint bs).1 := by
  obtain ⟨u, j, e1, e2, e3, e4, e5, _⟩ := (vgo_form 0 0 bs hb).2 h
  rw [vint]
  rw [e1, e2]
  simp only [Nat.zero_add, Nat.pow_zero, Nat.mul_one]
  exact ⟨e3, e4, e5⟩
theorem vint_none (bs : List Int) (hb : Byts bs) (h : (vint bs).2.2 ≠ 0) : (vint bs).1 = 0 ∧ (vint bs).2.1 = 0 := (vgo_form 0 0 bs hb).1 h
end Go.Proofs.Ytobkmjkcbihfbaa
