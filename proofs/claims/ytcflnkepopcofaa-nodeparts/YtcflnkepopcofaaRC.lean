/- The reader: values and entries that were written. -/
import Derived.Test.YtcflnkepopcofaaRB
namespace Go.Proofs.Ytcflnkepopcofaa
open Go.RowKit
set_option linter.unusedVariables false

/-- from w to w' nothing that was there has turned but the blocks p and q. -/
structure Two (p q : Nat) (w w' : World) : Prop where
  os : w'.os = w.os
  tape : w'.tape = w.tape
  output : w'.output = w.output
  size : w.heap.size ≤ w'.heap.size
  block : ∀ k, k < w.heap.size → k ≠ p → k ≠ q → w'.heap[k]? = w.heap[k]?
theorem Two.of_grown {p q : Nat} {w w' : World} (h : w.grownBy w' (some p)) : Two p q w w' := ⟨h.os, h.tape, h.output, h.size, fun k hk h1 _ => h.block k hk (by simpa using h1)⟩
theorem Two.trans {p q : Nat} {a b c : World} (h : Two p q a b) (k : Two p q b c) : Two p q a c :=
  ⟨k.os.trans h.os, k.tape.trans h.tape, k.output.trans h.output, Nat.le_trans h.size k.size, fun i hi h1 h2 => (k.block i (Nat.lt_of_lt_of_le hi h.size) h1 h2).trans (h.block i hi h1 h2)⟩
theorem Two.of_below {p q : Nat} {w w' : World} (h : Below w.heap.size w w') : Two p q w w' := ⟨h.os, h.tape, h.output, h.size, fun k hk _ _ => h.block k hk⟩
theorem Two.set {p q : Nat} (w : World) (j : Nat) (v : Value) : Two p q w (w.setCell ⟨q, j, none⟩ v) := ⟨rfl, rfl, rfl, by simp [World.setCell], fun k _ _ h2 => Below.heap_setCell _ _ _ _ h2⟩
theorem Own.byts_row {w : World} {a : Option Addr} {n c : Nat} {zs : List Int} (h : Own w (.slice a n c) zs) : Hid (n = zs.length) := by
  obtain ⟨a', c', e, _⟩ := h.shape
  cases e
  exact hide rfl
theorem rowN_inn {w : World} {p n c : Nat} {a : Option Addr} {zs : List Int} (h : RowN w p a zs) (hl : zs.length = n) (hc : n ≤ c) (hm : c ≤ 9223372036854775807) (hb : a = none → n = 0 ∧ c = 0) (h8 : Byts zs) : Inn w a n c zs := ⟨hl, hc, hm, hb, h.row, h8⟩
theorem leV_one1 (c : Int) (h : 0 ≤ c) : ((Crc.leV [c] : Nat) : Int) = c := by simp [Crc.leV]; omega
theorem byte_not_entry {w : World} {q off t : Nat} {a b : Option Addr} {n c m d : Nat} {x y z : Int} (hq : w.heap[q]? = some (.cells #[.slice a n c, .slice b m d, .int .u32 x, .int .u32 y] t (0, 0))) (h : w.cell? ⟨q, off, none⟩ = some (.int .u8 z)) : False := by
  simp [World.cell?, hq] at h
  match off, h with
  | 0, h => simp at h
  | 1, h => simp at h
  | 2, h => simp at h
  | 3, h => simp at h
  | off + 4, h => simp at h
theorem RowN.set_entry {w : World} {p q t j : Nat} {a' a b : Option Addr} {n c m d : Nat} {x y : Int} {zs : List Int} {u : Value} (h : RowN w p a' zs) (hq : w.heap[q]? = some (.cells #[.slice a n c, .slice b m d, .int .u32 x, .int .u32 y] t (0, 0))) : RowN (w.setCell ⟨q, j, none⟩ u) p a' zs := by
  rcases h with h0 | ⟨bb, off, rfl, hlt, hne, hc⟩
  · exact .inl h0
  · cases zs with
    | nil => exact .inl rfl
    | cons z zs =>
      have hbq : bb ≠ q := by
        intro e
        subst e
        have := hc 0 (by simp)
        exact byte_not_entry hq this
      refine .inr ⟨bb, off, rfl, by simpa [World.setCell] using hlt, hne, fun i hi => ?_⟩
      rw [World.cell?_setCell_other _ _ _ _ (fun e => hbq (by have := congrArg Addr.block e; simpa using this.symm))]
      exact hc i hi
theorem Rdr.set_entry {w : World} {p q t j : Nat} {a b : Option Addr} {n c m d : Nat} {x y : Int} {zs : List Int} {u : Value} (h : Rdr w p zs) (hq : w.heap[q]? = some (.cells #[.slice a n c, .slice b m d, .int .u32 x, .int .u32 y] t (0, 0))) (hpq : q ≠ p) : Rdr (w.setCell ⟨q, j, none⟩ u) p zs := by
  obtain ⟨ra, rn, rcc, hrd⟩ := h
  exact ⟨ra, rn, rcc, (Below.heap_setCell _ _ _ _ (show p ≠ q from fun e => hpq e.symm)).trans hrd.blk, hrd.len, hrd.cap, hrd.max, hrd.bare, hrd.row.set_entry hq, hrd.byts⟩
set_option maxHeartbeats 1600000 in
set_option maxRecDepth 1000000 in
theorem rvalue_small (p q : Nat) (val rest : List Int) (ka : Option Addr) (kn kc : Nat) (w : World) (hv : val.length < 255) (h8 : Byts val) (h : Rdr w p (((val.length : Int) :: val) ++ rest)) (hq : w.heap[q]? = some (.cells #[.slice ka kn kc, .slice none 0 0, .int .u32 0, .int .u32 0] 28 (0, 0))) (hpq : q ≠ p) :
    Calls Try.prog 68 #[.pointer (some ⟨p, 0, none⟩), .pointer (some ⟨q, 0, none⟩)] w fun e w' => e = .returned (.tuple #[]) ∧ ∃ av cv, w'.heap[q]? = some (.cells #[.slice ka kn kc, .slice av val.length cv, .int .u32 0, .int .u32 0] 28 (0, 0)) ∧ Own w' (.slice av val.length cv) val ∧ (∀ j, (Value.slice av val.length cv).ownBlock = some j → w.heap.size ≤ j) ∧ Rdr w' p rest ∧ Two p q w w' := by
  have HN := hide (num_ok p 1 [(val.length : Int)] (val ++ rest) w rfl (by omega) (by simpa using h) (by intro c hc; simp at hc; omega))
  rw [leV_one1 _ (by omega)] at HN
  have HQ := hide hq
  have H8 := hide h8
  clear h hq h8
  have hne : ((val.length : Int) != 255) = true := by simp; omega
  go_enter Try.func68, Try.ntmps68
  go_wp2_with fail
  refine HN.out.mono ?_
  rintro e w1 ⟨rfl, hrd, hg⟩
  have HT := hide (take_ok p val.length val rest w1 rfl (by omega) hrd)
  have HQ1 := hide ((hg.block _ (lt_of_block HQ.out) (by simpa using hpq)).trans HQ.out)
  have HG := hide hg
  clear hrd hg
  go_wp2_with fail
  refine HT.out.mono ?_
  rintro e w2 ⟨a2, c2, rfl, h2c, h2m, h2b, h2r, h2d, h2g⟩
  have HC := hide (clone_any a2 val.length c2 val w2 (rowN_inn h2r rfl h2c h2m h2b H8.out) (by omega))
  have HQ2 := hide ((h2g.block _ (lt_of_block HQ1.out) (by simpa using hpq)).trans HQ1.out)
  have HG2 := hide h2g
  have HRd := hide h2d
  clear h2c h2m h2b h2r h2d h2g
  go_wp2_with fail
  refine HC.out.mono ?_
  rintro e w3 ⟨v3, rfl, hm3⟩
  obtain ⟨a3, n3, c3, rfl, hn3⟩ := hm3.1.shape2
  have hn3' : n3 = val.length := hn3.out
  subst hn3'
  have hq3 := (hm3.2.2.block _ (lt_of_block HQ2.out)).trans HQ2.out
  obtain ⟨g0, g1, g2, g3, gf⟩ := cells_four hq3
  have gf1 := gf 1
  have HQ3 := hide hq3
  have HM3 := hide hm3
  clear hm3 hn3 hq3 gf
  go_wp2
  go_returns
  have hs : (w3.setCell ⟨q, 1, none⟩ (.slice a3 val.length c3)).heap[q]? = some (.cells #[.slice ka kn kc, .slice a3 val.length c3, .int .u32 0, .int .u32 0] 28 (0, 0)) := by rw [heap_setCell_same _ q 1 _ 28 _ HQ3.out]; rfl
  have hql : q < w.heap.size := lt_of_block HQ.out
  have hw12 : w.heap.size ≤ w2.heap.size := Nat.le_trans HG.out.size HG2.out.size
  refine ⟨rfl, a3, c3, hs, HM3.out.1.of_block (fun j hj => Below.heap_setCell _ _ _ _ (by have h1 := HM3.out.2.1 j hj; show j ≠ q; omega)), fun j hj => Nat.le_trans hw12 (HM3.out.2.1 j hj), ?_, ((Two.of_grown HG.out).trans (Two.of_grown HG2.out)).trans ((Two.of_below HM3.out.2.2).trans (Two.set w3 1 _))⟩
  exact (HRd.out.below HM3.out.2.2).set_entry HQ3.out hpq
/-- from w to w' nothing below B has turned but the block p. -/
structure Kb (B p : Nat) (w w' : World) : Prop where
  os : w'.os = w.os
  tape : w'.tape = w.tape
  output : w'.output = w.output
  size : w.heap.size ≤ w'.heap.size
  block : ∀ k, k < B → k ≠ p → w'.heap[k]? = w.heap[k]?
theorem Kb.trans {B p : Nat} {a b c : World} (h : Kb B p a b) (k : Kb B p b c) : Kb B p a c :=
  ⟨k.os.trans h.os, k.tape.trans h.tape, k.output.trans h.output, Nat.le_trans h.size k.size, fun i hi h1 => (k.block i hi h1).trans (h.block i hi h1)⟩
theorem Kb.of_grown {B p : Nat} {w w' : World} (h : w.grownBy w' (some p)) (hB : B ≤ w.heap.size) : Kb B p w w' := ⟨h.os, h.tape, h.output, h.size, fun k hk h1 => h.block k (by omega) (by simpa using h1)⟩
theorem Kb.of_below {B p : Nat} {w w' : World} (h : Below w.heap.size w w') (hB : B ≤ w.heap.size) : Kb B p w w' := ⟨h.os, h.tape, h.output, h.size, fun k hk _ => h.block k (by omega)⟩
theorem Kb.of_two {B p q : Nat} {w w' : World} (h : Two p q w w') (hB : B ≤ w.heap.size) (hq : B ≤ q) : Kb B p w w' := ⟨h.os, h.tape, h.output, h.size, fun k hk h1 => h.block k (by omega) h1 (by omega)⟩
theorem Kb.put4 {B p q : Nat} {w W : World} {a b c d : Value} (h : Kb B p w W) (hq : B ≤ q) : Kb B p w ((((W.setCell ⟨q, 0, none⟩ a).setCell ⟨q, 1, none⟩ b).setCell ⟨q, 2, none⟩ c).setCell ⟨q, 3, none⟩ d) :=
  ⟨h.os, h.tape, h.output, by have := h.size; simpa [World.setCell] using this, fun k hk h1 => (put4_other (by omega)).trans (h.block k hk h1)⟩
theorem Kb.grown {p : Nat} {w w' : World} (h : Kb w.heap.size p w w') : w.grownBy w' (some p) := ⟨h.os, h.tape, h.output, h.size, fun k hk h1 => h.block k hk (by simpa using h1)⟩
theorem Rdr.put4 {w : World} {p q t : Nat} {a b : Option Addr} {n c m d : Nat} {x y : Int} {zs : List Int} {a' b' : Option Addr} {n' c' m' d' : Nat} {x' y' : Int} (h : Rdr w p zs) (hq : w.heap[q]? = some (.cells #[.slice a n c, .slice b m d, .int .u32 x, .int .u32 y] t (0, 0))) (hpq : q ≠ p) : Rdr ((((w.setCell ⟨q, 0, none⟩ (.slice a' n' c')).setCell ⟨q, 1, none⟩ (.slice b' m' d')).setCell ⟨q, 2, none⟩ (.int .u32 x')).setCell ⟨q, 3, none⟩ (.int .u32 y')) p zs := by
  have h1 : (w.setCell ⟨q, 0, none⟩ (.slice a' n' c')).heap[q]? = some (.cells #[.slice a' n' c', .slice b m d, .int .u32 x, .int .u32 y] t (0, 0)) := by rw [heap_setCell_same _ q 0 _ t _ hq]; rfl
  have h2 : ((w.setCell ⟨q, 0, none⟩ (.slice a' n' c')).setCell ⟨q, 1, none⟩ (.slice b' m' d')).heap[q]? = some (.cells #[.slice a' n' c', .slice b' m' d', .int .u32 x, .int .u32 y] t (0, 0)) := by rw [heap_setCell_same _ q 1 _ t _ h1]; rfl
  have h3 : (((w.setCell ⟨q, 0, none⟩ (.slice a' n' c')).setCell ⟨q, 1, none⟩ (.slice b' m' d')).setCell ⟨q, 2, none⟩ (.int .u32 x')).heap[q]? = some (.cells #[.slice a' n' c', .slice b' m' d', .int .u32 x', .int .u32 y] t (0, 0)) := by rw [heap_setCell_same _ q 2 _ t _ h2]; rfl
  exact (((h.set_entry hq hpq).set_entry h1 hpq).set_entry h2 hpq).set_entry h3 hpq
set_option maxHeartbeats 3200000 in
set_option maxRecDepth 1000000 in
theorem rentry_small (p : Nat) (key val rest : List Int) (w : World) (hk : key.length < 256) (hv : val.length < 255) (hk8 : Byts key) (hv8 : Byts val) (h : Rdr w p (((key.length : Int) :: key) ++ (((val.length : Int) :: val) ++ rest))) :
    Calls Try.prog 60 #[.pointer (some ⟨p, 0, none⟩), .bool true] w fun e w' => ∃ y : En, e = .returned y.v ∧ y.e = ⟨key, val, 0, 0⟩ ∧ y.Own w.heap.size w' ∧ Rdr w' p rest ∧ w.grownBy w' (some p) := by
  have hpw := h.lt
  have hB := below_alloc w (.cells #[.slice none 0 0, .slice none 0 0, .int .u32 0, .int .u32 0] 28)
  have hb0 := heap_alloc_new w (.cells #[.slice none 0 0, .slice none 0 0, .int .u32 0, .int .u32 0] 28)
  have HN := hide (num_ok p 1 [(key.length : Int)] (key ++ (((val.length : Int) :: val) ++ rest)) _ rfl (by omega) (by have := h.below hB; simpa using this) (by intro c hc; simp at hc; omega))
  rw [leV_one1 _ (by omega)] at HN
  have HB := hide hB
  have HB0 := hide hb0
  have HK8 := hide hk8
  have HV8 := hide hv8
  clear h hB hb0 hk8 hv8
  go_enter Try.func60, Try.ntmps60
  go_wp2_with fail
  refine HN.out.mono ?_
  rintro e w1 ⟨rfl, hrd, hg⟩
  have HT := hide (take_ok p key.length key _ w1 rfl (by omega) hrd)
  have hwp : w.heap.size ≠ p := by omega
  have HQ1 := hide ((hg.block _ (lt_of_block HB0.out) (by simpa using hwp)).trans HB0.out)
  have HG := hide hg
  clear hrd hg
  go_wp2_with fail
  refine HT.out.mono ?_
  rintro e w2 ⟨a2, c2, rfl, h2c, h2m, h2b, h2r, h2d, h2g⟩
  have HC := hide (clone_any a2 key.length c2 key w2 (rowN_inn h2r rfl h2c h2m h2b HK8.out) (by omega))
  have HQ2 := hide ((h2g.block _ (lt_of_block HQ1.out) (by simpa using hwp)).trans HQ1.out)
  have HG2 := hide h2g
  have HRd := hide h2d
  clear h2c h2m h2b h2r h2d h2g
  go_wp2_with fail
  refine HC.out.mono ?_
  rintro e w3 ⟨v3, rfl, hm3⟩
  obtain ⟨a3, n3, c3, rfl, hn3⟩ := hm3.1.shape2
  have hn3' : n3 = key.length := hn3.out
  subst hn3'
  have HM3 := hide hm3
  have HQ3 := hide ((hm3.2.2.block _ (lt_of_block HQ2.out)).trans HQ2.out)
  have HRd3 := hide (HRd.out.below hm3.2.2)
  clear hm3 hn3
  have hbl4 := below_alloc w3 (.cells #[.slice a3 key.length c3, .slice none 0 0, .int .u32 0, .int .u32 0] 28)
  have hp3 : p < w3.heap.size := HRd3.out.lt
  have HV := hide (rvalue_small p w3.heap.size val rest a3 key.length c3 _ hv HV8.out (HRd3.out.below hbl4) (heap_alloc_new w3 _) (by omega))
  have HBl4 := hide hbl4
  clear hbl4
  go_wp2_with fail
  refine HV.out.mono ?_
  rintro e w4 ⟨rfl, av, cv, hq4, hov, hvb, hrd4, htw⟩
  have hwk : w.heap.size < w3.heap.size := lt_of_block HQ3.out
  have hz : w4.heap[w.heap.size]? = some (.cells #[.slice none 0 0, .slice none 0 0, .int .u32 0, .int .u32 0] 28 (0, 0)) := (htw.block _ (by simp; omega) hwp (by omega)).trans ((HBl4.out.block _ hwk).trans HQ3.out)
  obtain ⟨f0, f1, f2, f3, -⟩ := cells_four hq4
  obtain ⟨g0, g1, g2, g3, gf⟩ := cells_four hz
  have gf0 := gf 0
  have gf1 := gf 1
  have gf2 := gf 2
  have gf3 := gf 3
  have HZ := hide hz
  have HOv := hide hov
  have HVb := hide hvb
  have HRd4 := hide hrd4
  have HTw := hide htw
  have HWk := hide hwk
  have HP3 := hide hp3
  clear hq4 hov hvb hrd4 htw hz gf hwk hp3
  go_wp2
  have hf := put4 (a := .slice a3 key.length c3) (b := .slice av val.length cv) (c := .int .u32 0) (d := .int .u32 0) HZ.out
  obtain ⟨q0, q1, q2, q3, -⟩ := cells_four hf
  have hw1 : w.heap.size + 1 ≤ w2.heap.size := by have h1 := HG.out.size; have h2 := HG2.out.size; simp at h1; omega
  have hKb : ∀ k, (Value.slice a3 key.length c3).ownBlock = some k → w.heap.size + 1 ≤ k ∧ k < w3.heap.size := fun k hk => ⟨by have := HM3.out.2.1 k hk; omega, HM3.out.1.lt hk⟩
  have hVb : ∀ k, (Value.slice av val.length cv).ownBlock = some k → w3.heap.size + 1 ≤ k := fun k hk => by have := HVb.out k hk; simpa using this
  refine bodyPost_ret (v := .agg #[.slice a3 key.length c3, .slice av val.length cv, .int .u32 0, .int .u32 0]) ?_ rfl ?_
  · simp [results, Try.results60, go_sem, q0, q1, q2, q3]
  · refine ⟨⟨⟨key, val, 0, 0⟩, a3, c3, av, cv⟩, rfl, rfl, ⟨?_, ?_, fun k hk => by have := hKb k hk; omega, fun k hk => by have := hVb k hk; have := HWk.out; omega, fun k hk e => by have := hKb k hk; have := hVb k e; omega, HK8.out, HV8.out, by simp, by simp⟩, HRd4.out.put4 HZ.out hwp, ?_⟩
    · refine HM3.out.1.of_block fun k hk => ?_
      have h1 := hKb k hk
      exact (put4_other (by omega)).trans ((HTw.out.block k (by simp; omega) (by omega) (by omega)).trans (HBl4.out.block k h1.2))
    · exact HOv.out.of_block fun k hk => put4_other (by have := hVb k hk; have := HWk.out; omega)
    · have k1 : Kb w.heap.size p w w1 := (Kb.of_below HB.out (Nat.le_refl _)).trans (Kb.of_grown HG.out (by simp))
      have k2 : Kb w.heap.size p w w3 := k1.trans ((Kb.of_grown HG2.out (by have := HG.out.size; simp at this; omega)).trans (Kb.of_below HM3.out.2.2 (by omega)))
      have k3 : Kb w.heap.size p w w4 := k2.trans ((Kb.of_below HBl4.out (by have := HWk.out; omega)).trans (Kb.of_two HTw.out (by simp; have := HWk.out; omega) (by have := HWk.out; omega)))
      exact (k3.put4 (Nat.le_refl _)).grown
end Go.Proofs.Ytcflnkepopcofaa
