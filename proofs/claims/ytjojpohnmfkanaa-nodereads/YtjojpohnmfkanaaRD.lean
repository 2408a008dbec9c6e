/- The reader: values and entries that were written. -/
import Derived.Test.YtjojpohnmfkanaaRB
namespace Go.Proofs.Ytjojpohnmfkanaa
open Go.RowKit
set_option linter.unusedVariables false

/-- from w to w' nothing that was there has turned but the blocks p and q. -/
structure Two (p q : Nat) (w w' : World) : Prop where
  os : w'.os = w.os
  tape : w'.tape = w.tape
  output : w'.output = w.output
  size : w.heap.size ≤ w'.heap.size
  block : ∀ k, k < w.heap.size → k ≠ p → k ≠ q → w'.heap[k]? = w.heap[k]?
theorem Two.of_grown {p q : Nat} {w w' : World} (h : w.grownBy w' (some p)) : Two p q w w' := ⟨h.os, h.tape, h.output, h.size, fun k hk h1 _ => h.block k hk (by simpa using h1)⟩
theorem Two.trans {p q : Nat} {a b c : World} (h : Two p q a b) (k : Two p q b c) : Two p q a c :=
  ⟨k.os.trans h.os, k.tape.trans h.tape, k.output.trans h.output, Nat.le_trans h.size k.size, fun i hi h1 h2 => (k.block i (Nat.lt_of_lt_of_le hi h.size) h1 h2).trans (h.block i hi h1 h2)⟩
theorem Two.of_below {p q : Nat} {w w' : World} (h : Below w.heap.size w w') : Two p q w w' := ⟨h.os, h.tape, h.output, h.size, fun k hk _ _ => h.block k hk⟩
theorem Two.set {p q : Nat} (w : World) (j : Nat) (v : Value) : Two p q w (w.setCell ⟨q, j, none⟩ v) := ⟨rfl, rfl, rfl, by simp [World.setCell], fun k _ _ h2 => Below.heap_setCell _ _ _ _ h2⟩
theorem Own.byts_row {w : World} {a : Option Addr} {n c : Nat} {zs : List Int} (h : Own w (.slice a n c) zs) : Hid (n = zs.length) := by
  obtain ⟨a', c', e, _⟩ := h.shape
  cases e
  exact hide rfl
theorem rowN_inn {w : World} {p n c : Nat} {a : Option Addr} {zs : List Int} (h : RowN w p a zs) (hl : zs.length = n) (hc : n ≤ c) (hm : c ≤ 9223372036854775807) (hb : a = none → n = 0 ∧ c = 0) (h8 : Byts zs) : Inn w a n c zs := ⟨hl, hc, hm, hb, h.row, h8⟩
theorem leV_one1 (c : Int) (h : 0 ≤ c) : ((Crc.leV [c] : Nat) : Int) = c := by simp [Crc.leV]; omega
theorem byte_not_entry {w : World} {q off t : Nat} {a b : Option Addr} {n c m d : Nat} {x y z : Int} (hq : w.heap[q]? = some (.cells #[.slice a n c, .slice b m d, .int .u32 x, .int .u32 y] t (0, 0))) (h : w.cell? ⟨q, off, none⟩ = some (.int .u8 z)) : False := by
  simp [World.cell?, hq] at h
  match off, h with
  | 0, h => simp at h
  | 1, h => simp at h
  | 2, h => simp at h
  | 3, h => simp at h
  | off + 4, h => simp at h
theorem RowN.set_entry {w : World} {p q t j : Nat} {a' a b : Option Addr} {n c m d : Nat} {x y : Int} {zs : List Int} {u : Value} (h : RowN w p a' zs) (hq : w.heap[q]? = some (.cells #[.slice a n c, .slice b m d, .int .u32 x, .int .u32 y] t (0, 0))) : RowN (w.setCell ⟨q, j, none⟩ u) p a' zs := by
  rcases h with h0 | ⟨bb, off, rfl, hlt, hne, hc⟩
  · exact .inl h0
  · cases zs with
    | nil => exact .inl rfl
    | cons z zs =>
      have hbq : bb ≠ q := by
        intro e
        subst e
        have := hc 0 (by simp)
        exact byte_not_entry hq this
      refine .inr ⟨bb, off, rfl, by simpa [World.setCell] using hlt, hne, fun i hi => ?_⟩
      rw [World.cell?_setCell_other _ _ _ _ (fun e => hbq (by have := congrArg Addr.block e; simpa using this.symm))]
      exact hc i hi
theorem Rdr.set_entry {w : World} {p q t j : Nat} {a b : Option Addr} {n c m d : Nat} {x y : Int} {zs : List Int} {u : Value} (h : Rdr w p zs) (hq : w.heap[q]? = some (.cells #[.slice a n c, .slice b m d, .int .u32 x, .int .u32 y] t (0, 0))) (hpq : q ≠ p) : Rdr (w.setCell ⟨q, j, none⟩ u) p zs := by
  obtain ⟨ra, rn, rcc, hrd⟩ := h
  exact ⟨ra, rn, rcc, (Below.heap_setCell _ _ _ _ (show p ≠ q from fun e => hpq e.symm)).trans hrd.blk, hrd.len, hrd.cap, hrd.max, hrd.bare, hrd.row.set_entry hq, hrd.byts⟩
set_option maxHeartbeats 1600000 in
set_option maxRecDepth 1000000 in
theorem rvalue_small (p q : Nat) (val rest : List Int) (ka : Option Addr) (kn kc : Nat) (w : World) (hv : val.length < 255) (h8 : Byts val) (h : Rdr w p (((val.length : Int) :: val) ++ rest)) (hq : w.heap[q]? = some (.cells #[.slice ka kn kc, .slice none 0 0, .int .u32 0, .int .u32 0] 68 (0, 0))) (hpq : q ≠ p) :
    Calls Try.prog 73 #[.pointer (some ⟨p, 0, none⟩), .pointer (some ⟨q, 0, none⟩)] w fun e w' => e = .returned (.tuple #[]) ∧ ∃ av cv, w'.heap[q]? = some (.cells #[.slice ka kn kc, .slice av val.length cv, .int .u32 0, .int .u32 0] 68 (0, 0)) ∧ Own w' (.slice av val.length cv) val ∧ (∀ j, (Value.slice av val.length cv).ownBlock = some j → w.heap.size ≤ j) ∧ Rdr w' p rest ∧ Two p q w w' := by
  have HN := hide (num_ok p 1 [(val.length : Int)] (val ++ rest) w rfl (by omega) (by simpa using h) (by intro c hc; simp at hc; omega))
  rw [leV_one1 _ (by omega)] at HN
  have HQ := hide hq
  have H8 := hide h8
  clear h hq h8
  have hne : ((val.length : Int) != 255) = true := by simp; omega
  go_enter Try.func73, Try.ntmps73
  go_wp2_with fail
  refine HN.out.mono ?_
  rintro e w1 ⟨rfl, hrd, hg⟩
  have HT := hide (take_ok p val.length val rest w1 rfl (by omega) hrd)
  have HQ1 := hide ((hg.block _ (lt_of_block HQ.out) (by simpa using hpq)).trans HQ.out)
  have HG := hide hg
  clear hrd hg
  go_wp2_with fail
  refine HT.out.mono ?_
  rintro e w2 ⟨a2, c2, rfl, h2c, h2m, h2b, h2r, h2d, h2g⟩
  have HC := hide (clone_any a2 val.length c2 val w2 (rowN_inn h2r rfl h2c h2m h2b H8.out) (by omega))
  have HQ2 := hide ((h2g.block _ (lt_of_block HQ1.out) (by simpa using hpq)).trans HQ1.out)
  have HG2 := hide h2g
  have HRd := hide h2d
  clear h2c h2m h2b h2r h2d h2g
  go_wp2_with fail
  refine HC.out.mono ?_
  rintro e w3 ⟨v3, rfl, hm3⟩
  obtain ⟨a3, n3, c3, rfl, hn3⟩ := hm3.1.shape2
  have hn3' : n3 = val.length := hn3.out
  subst hn3'
  have hq3 := (hm3.2.2.block _ (lt_of_block HQ2.out)).trans HQ2.out
  obtain ⟨g0, g1, g2, g3, gf⟩ := cells_four hq3
  have gf1 := gf 1
  have HQ3 := hide hq3
  have HM3 := hide hm3
  clear hm3 hn3 hq3 gf
  go_wp2
  go_returns
  have hs : (w3.setCell ⟨q, 1, none⟩ (.slice a3 val.length c3)).heap[q]? = some (.cells #[.slice ka kn kc, .slice a3 val.length c3, .int .u32 0, .int .u32 0] 68 (0, 0)) := by rw [heap_setCell_same _ q 1 _ 68 _ HQ3.out]; rfl
  have hql : q < w.heap.size := lt_of_block HQ.out
  have hw12 : w.heap.size ≤ w2.heap.size := Nat.le_trans HG.out.size HG2.out.size
  refine ⟨rfl, a3, c3, hs, HM3.out.1.of_block (fun j hj => Below.heap_setCell _ _ _ _ (by have h1 := HM3.out.2.1 j hj; show j ≠ q; omega)), fun j hj => Nat.le_trans hw12 (HM3.out.2.1 j hj), ?_, ((Two.of_grown HG.out).trans (Two.of_grown HG2.out)).trans ((Two.of_below HM3.out.2.2).trans (Two.set w3 1 _))⟩
  exact (HRd.out.below HM3.out.2.2).set_entry HQ3.out hpq
/-- from w to w' nothing below B has turned but the block p. -/
structure Kb (B p : Nat) (w w' : World) : Prop where
  os : w'.os = w.os
  tape : w'.tape = w.tape
  output : w'.output = w.output
  size : w.heap.size ≤ w'.heap.size
  block : ∀ k, k < B → k ≠ p → w'.heap[k]? = w.heap[k]?
theorem Kb.trans {B p : Nat} {a b c : World} (h : Kb B p a b) (k : Kb B p b c) : Kb B p a c :=
  ⟨k.os.trans h.os, k.tape.trans h.tape, k.output.trans h.output, Nat.le_trans h.size k.size, fun i hi h1 => (k.block i hi h1).trans (h.block i hi h1)⟩
theorem Kb.of_grown {B p : Nat} {w w' : World} (h : w.grownBy w' (some p)) (hB : B ≤ w.heap.size) : Kb B p w w' := ⟨h.os, h.tape, h.output, h.size, fun k hk h1 => h.block k (by omega) (by simpa using h1)⟩
theorem Kb.of_below {B p : Nat} {w w' : World} (h : Below w.heap.size w w') (hB : B ≤ w.heap.size) : Kb B p w w' := ⟨h.os, h.tape, h.output, h.size, fun k hk _ => h.block k (by omega)⟩
theorem Kb.of_two {B p q : Nat} {w w' : World} (h : Two p q w w') (hB : B ≤ w.heap.size) (hq : B ≤ q) : Kb B p w w' := ⟨h.os, h.tape, h.output, h.size, fun k hk h1 => h.block k (by omega) h1 (by omega)⟩
theorem Kb.put4 {B p q : Nat} {w W : World} {a b c d : Value} (h : Kb B p w W) (hq : B ≤ q) : Kb B p w ((((W.setCell ⟨q, 0, none⟩ a).setCell ⟨q, 1, none⟩ b).setCell ⟨q, 2, none⟩ c).setCell ⟨q, 3, none⟩ d) :=
  ⟨h.os, h.tape, h.output, by have := h.size; simpa [World.setCell] using this, fun k hk h1 => (put4_other (by omega)).trans (h.block k hk h1)⟩
theorem Kb.grown {p : Nat} {w w' : World} (h : Kb w.heap.size p w w') : w.grownBy w' (some p) := ⟨h.os, h.tape, h.output, h.size, fun k hk h1 => h.block k hk (by simpa using h1)⟩
theorem Rdr.put4 {w : World} {p q t : Nat} {a b : Option Addr} {n c m d : Nat} {x y : Int} {zs : List Int} {a' b' : Option Addr} {n' c' m' d' : Nat} {x' y' : Int} (h : Rdr w p zs) (hq : w.heap[q]? = some (.cells #[.slice a n c, .slice b m d, .int .u32 x, .int .u32 y] t (0, 0))) (hpq : q ≠ p) : Rdr ((((w.setCell ⟨q, 0, none⟩ (.slice a' n' c')).setCell ⟨q, 1, none⟩ (.slice b' m' d')).setCell ⟨q, 2, none⟩ (.int .u32 x')).setCell ⟨q, 3, none⟩ (.int .u32 y')) p zs := by
  have h1 : (w.setCell ⟨q, 0, none⟩ (.slice a' n' c')).heap[q]? = some (.cells #[.slice a' n' c', .slice b m d, .int .u32 x, .int .u32 y] t (0, 0)) := by rw [heap_setCell_same _ q 0 _ t _ hq]; rfl
  have h2 : ((w.setCell ⟨q, 0, none⟩ (.slice a' n' c')).setCell ⟨q, 1, none⟩ (.slice b' m' d')).heap[q]? = some (.cells #[.slice a' n' c', .slice b' m' d', .int .u32 x, .int .u32 y] t (0, 0)) := by rw [heap_setCell_same _ q 1 _ t _ h1]; rfl
  have h3 : (((w.setCell ⟨q, 0, none⟩ (.slice a' n' c')).setCell ⟨q, 1, none⟩ (.slice b' m' d')).setCell ⟨q, 2, none⟩ (.int .u32 x')).heap[q]? = some (.cells #[.slice a' n' c', .slice b' m' d', .int .u32 x', .int .u32 y] t (0, 0)) := by rw [heap_setCell_same _ q 2 _ t _ h2]; rfl
  exact (((h.set_entry hq hpq).set_entry h1 hpq).set_entry h2 hpq).set_entry h3 hpq
set_option maxHeartbeats 3200000 in
set_option maxRecDepth 1000000 in
theorem rentry_small (p : Nat) (key val rest : List Int) (w : World) (hk : key.length < 256) (hv : val.length < 255) (hk8 : Byts key) (hv8 : Byts val) (h : Rdr w p (((key.length : Int) :: key) ++ (((val.length : Int) :: val) ++ rest))) :
    Calls Try.prog 58 #[.pointer (some ⟨p, 0, none⟩), .bool true] w fun e w' => ∃ y : En, e = .returned y.v ∧ y.e = ⟨key, val, 0, 0⟩ ∧ y.Own w.heap.size w' ∧ Rdr w' p rest ∧ w.grownBy w' (some p) := by
  have hpw := h.lt
  have hB := below_alloc w (.cells #[.slice none 0 0, .slice none 0 0, .int .u32 0, .int .u32 0] 68)
  have hb0 := heap_alloc_new w (.cells #[.slice none 0 0, .slice none 0 0, .int .u32 0, .int .u32 0] 68)
  have HN := hide (num_ok p 1 [(key.length : Int)] (key ++ (((val.length : Int) :: val) ++ rest)) _ rfl (by omega) (by have := h.below hB; simpa using this) (by intro c hc; simp at hc; omega))
  rw [leV_one1 _ (by omega)] at HN
  have HB := hide hB
  have HB0 := hide hb0
  have HK8 := hide hk8
  have HV8 := hide hv8
  clear h hB hb0 hk8 hv8
  go_enter Try.func58, Try.ntmps58
  go_wp2_with fail
  refine HN.out.mono ?_
  rintro e w1 ⟨rfl, hrd, hg⟩
  have HT := hide (take_ok p key.length key _ w1 rfl (by omega) hrd)
  have hwp : w.heap.size ≠ p := by omega
  have HQ1 := hide ((hg.block _ (lt_of_block HB0.out) (by simpa using hwp)).trans HB0.out)
  have HG := hide hg
  clear hrd hg
  go_wp2_with fail
  refine HT.out.mono ?_
  rintro e w2 ⟨a2, c2, rfl, h2c, h2m, h2b, h2r, h2d, h2g⟩
  have HC := hide (clone_any a2 key.length c2 key w2 (rowN_inn h2r rfl h2c h2m h2b HK8.out) (by omega))
  have HQ2 := hide ((h2g.block _ (lt_of_block HQ1.out) (by simpa using hwp)).trans HQ1.out)
  have HG2 := hide h2g
  have HRd := hide h2d
  clear h2c h2m h2b h2r h2d h2g
  go_wp2_with fail
  refine HC.out.mono ?_
  rintro e w3 ⟨v3, rfl, hm3⟩
  obtain ⟨a3, n3, c3, rfl, hn3⟩ := hm3.1.shape2
  have hn3' : n3 = key.length := hn3.out
  subst hn3'
  have HM3 := hide hm3
  have HQ3 := hide ((hm3.2.2.block _ (lt_of_block HQ2.out)).trans HQ2.out)
  have HRd3 := hide (HRd.out.below hm3.2.2)
  clear hm3 hn3
  have hbl4 := below_alloc w3 (.cells #[.slice a3 key.length c3, .slice none 0 0, .int .u32 0, .int .u32 0] 68)
  have hp3 : p < w3.heap.size := HRd3.out.lt
  have HV := hide (rvalue_small p w3.heap.size val rest a3 key.length c3 _ hv HV8.out (HRd3.out.below hbl4) (heap_alloc_new w3 _) (by omega))
  have HBl4 := hide hbl4
  clear hbl4
  go_wp2_with fail
  refine HV.out.mono ?_
  rintro e w4 ⟨rfl, av, cv, hq4, hov, hvb, hrd4, htw⟩
  have hwk : w.heap.size < w3.heap.size := lt_of_block HQ3.out
  have hz : w4.heap[w.heap.size]? = some (.cells #[.slice none 0 0, .slice none 0 0, .int .u32 0, .int .u32 0] 68 (0, 0)) := (htw.block _ (by simp; omega) hwp (by omega)).trans ((HBl4.out.block _ hwk).trans HQ3.out)
  obtain ⟨f0, f1, f2, f3, -⟩ := cells_four hq4
  obtain ⟨g0, g1, g2, g3, gf⟩ := cells_four hz
  have gf0 := gf 0
  have gf1 := gf 1
  have gf2 := gf 2
  have gf3 := gf 3
  have HZ := hide hz
  have HOv := hide hov
  have HVb := hide hvb
  have HRd4 := hide hrd4
  have HTw := hide htw
  have HWk := hide hwk
  have HP3 := hide hp3
  clear hq4 hov hvb hrd4 htw hz gf hwk hp3
  go_wp2
  have hf := put4 (a := .slice a3 key.length c3) (b := .slice av val.length cv) (c := .int .u32 0) (d := .int .u32 0) HZ.out
  obtain ⟨q0, q1, q2, q3, -⟩ := cells_four hf
  have hw1 : w.heap.size + 1 ≤ w2.heap.size := by have h1 := HG.out.size; have h2 := HG2.out.size; simp at h1; omega
  have hKb : ∀ k, (Value.slice a3 key.length c3).ownBlock = some k → w.heap.size + 1 ≤ k ∧ k < w3.heap.size := fun k hk => ⟨by have := HM3.out.2.1 k hk; omega, HM3.out.1.lt hk⟩
  have hVb : ∀ k, (Value.slice av val.length cv).ownBlock = some k → w3.heap.size + 1 ≤ k := fun k hk => by have := HVb.out k hk; simpa using this
  refine bodyPost_ret (v := .agg #[.slice a3 key.length c3, .slice av val.length cv, .int .u32 0, .int .u32 0]) ?_ rfl ?_
  · simp [results, Try.results58, go_sem, q0, q1, q2, q3]
  · refine ⟨⟨⟨key, val, 0, 0⟩, a3, c3, av, cv⟩, rfl, rfl, ⟨?_, ?_, fun k hk => by have := hKb k hk; omega, fun k hk => by have := hVb k hk; have := HWk.out; omega, fun k hk e => by have := hKb k hk; have := hVb k e; omega, HK8.out, HV8.out, by simp, by simp⟩, HRd4.out.put4 HZ.out hwp, ?_⟩
    · refine HM3.out.1.of_block fun k hk => ?_
      have h1 := hKb k hk
      exact (put4_other (by omega)).trans ((HTw.out.block k (by simp; omega) (by omega) (by omega)).trans (HBl4.out.block k h1.2))
    · exact HOv.out.of_block fun k hk => put4_other (by have := hVb k hk; have := HWk.out; omega)
    · have k1 : Kb w.heap.size p w w1 := (Kb.of_below HB.out (Nat.le_refl _)).trans (Kb.of_grown HG.out (by simp))
      have k2 : Kb w.heap.size p w w3 := k1.trans ((Kb.of_grown HG2.out (by have := HG.out.size; simp at this; omega)).trans (Kb.of_below HM3.out.2.2 (by omega)))
      have k3 : Kb w.heap.size p w w4 := k2.trans ((Kb.of_below HBl4.out (by have := HWk.out; omega)).trans (Kb.of_two HTw.out (by simp; have := HWk.out; omega) (by have := HWk.out; omega)))
      exact (k3.put4 (Nat.le_refl _)).grown
end Go.Proofs.Ytjojpohnmfkanaa
/- The reader: a leaf of small values that was written. -/
namespace Go.Proofs.Ytjojpohnmfkanaa
open Go.RowKit
set_option linter.unusedVariables false

/-- one more entry, laid behind the others, by a call that turns the block p. -/
theorem Cl.snoc2 {B C : Nat} {w1 w' : World} {v v' : Value} {ys : List En} {y : En} (h1 : Cl B w1 v ys) (hC : ∀ k, (v.ownBlock = some k ∨ ∃ z ∈ ys, z.has k) → k < C) (hBC : B ≤ C) (hy : y.Own C w1) (hg : w1.grownBy w' v.ownBlock) (hr : w'.ownsRow B 68 4 v' (ys.length + 1) (rowc ys ++ y.cells)) : Cl B w' v' (ys ++ [y]) := by
  have stay : ∀ z k, (z ∈ ys ∨ z = y) → z.has k → w'.heap[k]? = w1.heap[k]? := by
    intro z k hz hk
    rcases hz with hz | rfl
    · exact hg.block k ((h1.each z hz).lt hk) (fun e => h1.apart2 hz hk e.symm)
    · refine hg.block k (hy.lt hk) (fun e => ?_)
      have h3 := hC k (.inl e.symm)
      have h4 := hy.ge hk
      omega
  refine ⟨by rw [List.length_append, List.length_singleton, rowc_app, rowc_one]; exact hr, fun z hz => ?_, fun i j yi yj k hi hj hki hkj => ?_⟩
  · rcases List.mem_append.1 hz with hz | hz
    · exact (h1.each z hz).of_block fun k hk => stay z k (.inl hz) hk
    · simp at hz; subst hz
      exact (hy.mono hBC).of_block fun k hk => stay z k (.inr rfl) hk
  · have old : ∀ (i : Nat) (z : En), (ys ++ [y])[i]? = some z → (i < ys.length ∧ ys[i]? = some z) ∨ (i = ys.length ∧ z = y) := by
      intro i z hz
      by_cases hlt : i < ys.length
      · rw [List.getElem?_append_left hlt] at hz; exact .inl ⟨hlt, hz⟩
      · rw [List.getElem?_append_right (by omega)] at hz
        obtain ⟨h0, h1⟩ := List.getElem?_eq_some_iff.1 hz
        simp at h0
        refine .inr ⟨by omega, ?_⟩
        simpa using h1.symm
    rcases old i yi hi with ⟨_, a1⟩ | ⟨a0, rfl⟩ <;> rcases old j yj hj with ⟨_, b1⟩ | ⟨b0, e⟩
    · exact h1.apart i j yi yj k a1 b1 hki hkj
    · subst e
      have q1 := hC k (.inr ⟨yi, List.mem_of_getElem? a1, hki⟩)
      have q2 := hy.ge hkj
      omega
    · have q1 := hC k (.inr ⟨yj, List.mem_of_getElem? b1, hkj⟩)
      have q2 := hy.ge hki
      omega
    · omega
theorem step_append_own {P : Program} {ops : Array Oper} (w : World) {o : Oper} {a : Act} {K : Act → World → Prop} {Q : Exit → Act → World → Prop} {E : Prop} (hgd : o.guard = none) (s x : Operand) (t : TypeId)
    (ho : o.op = .call { callee := .builtin .append, args := #[s, x], argTypes := #[t, t] })
    (base : Nat) (e : TypeId) (i : TypeInfo) (z : Value) (size bytes : Nat) (ht : P.underlying t = some (.slice e)) (hi : P.info? e = some i) (hz : i.zero = some z)
    (hsize : i.size = size) (hby : i.bytes = bytes) (hzs : z.cells.size = size) (hsz : 0 < size)
    (v : Value) (n : Nat) (xs : List Value) (hs : a.eval s = v) (hown : w.ownsRow base e size v n xs)
    (ad : Addr) (m c : Nat) (news : List Value) (hx : a.eval x = .slice (some ad) m c) (hl : news.length = m * size) (hnews : ∀ j u, news[j]? = some u → w.cell? (ad.add j) = some u) (h1 : ∀ u ∈ news, u.oneCell' = true)
    (h63 : n + m ≤ maxLen) (hbytes : (n + m) * bytes ≤ 140737488355328) (hbase : base ≤ w.heap.size)
    (h : ∀ v' w', w'.ownsRow base e size v' (n + m) (xs ++ news) → w.grownBy w' v.ownBlock → (v' = .slice none 0 0 ↔ v = .slice none 0 0 ∧ m = 0) → K (a.put o.dst v') w') :
    if Region.wanted o (yielded ops a.tmps) = true then Oper.wp P o a w K Q else E := by
  have hw : Region.wanted o (yielded ops a.tmps) = true := by simp [Region.wanted, hgd]
  rw [if_pos hw]
  exact wp_append_own w s x t ho base e i z size bytes ht hi hz hsize hby hzs hsz v n xs hs hown ad m c news hx hl hnews h1 h63 hbytes hbase h
theorem one_below1 {w W : World} {q j : Nat} {v : Value} (hq : w.cell? ⟨q, j, none⟩ = some v) (hb : Below w.heap.size w W) : W.cell? ⟨q, j, none⟩ = some v := (hb.cell (p := ⟨q, j, none⟩) (World.block_lt_of_cell? w _ hq)).trans hq
/-- an entry is laid behind a list of the call's own: the run of the append. -/
theorem append_cl {i0 : TypeInfo} (hi : Try.prog.info? 68 = some i0) (hz0 : i0.zero = some (.agg #[.slice none 0 0, .slice none 0 0, .int .u32 0, .int .u32 0])) (hz1 : i0.size = 4) (hz2 : i0.bytes = 56)
    {B C q : Nat} {w3 : World} {a3 : Option Addr} {c3 : Nat} {ys : List En} {y : En} {nb : Array Value} {nC : Nat} (hcl : Cl B (w3.alloc (.cells #[.slice y.ka y.e.key.length y.kc, .slice y.va y.e.val.length y.vc, .int .u32 (y.e.page : Int), .int .u32 (y.e.size : Int)] 68)) (.slice a3 ys.length c3) ys) (hyl : ys.length ≤ 1000000) (hs : C ≤ w3.heap.size) (hBC : B ≤ C)
    (hup : ∀ j, ((Value.slice a3 ys.length c3).ownBlock = some j ∨ ∃ z ∈ ys, z.has j) → j < C) (hy : y.Own C w3) (hx : w3.heap[q]? = some (.cells nb 25 (0, 0))) :
    ∃ a4 n4 c4 w4, (Builtin.append_ #[23, 23] 23 #[.slice a3 ys.length c3, .slice (some ⟨w3.heap.size, 0, none⟩) 1 1]).run Try.prog (w3.alloc (.cells #[.slice y.ka y.e.key.length y.kc, .slice y.va y.e.val.length y.vc, .int .u32 (y.e.page : Int), .int .u32 (y.e.size : Int)] 68)) = .ok (.slice a4 n4 c4) w4 ∧ Cl B w4 (.slice a4 n4 c4) (ys ++ [y]) ∧ n4 = ys.length + 1 ∧ w4.heap[q]? = some (.cells nb 25 (0, 0)) ∧ (∀ k, k < w3.heap.size → (Value.slice a3 ys.length c3).ownBlock ≠ some k → w4.heap[k]? = w3.heap[k]?) ∧ w3.heap.size ≤ w4.heap.size ∧ w4.os = w3.os ∧ w4.tape = w3.tape ∧ w4.output = w3.output := by
  obtain ⟨v', w4, hrun, hown, hg, _⟩ := run_append_own (P := Try.prog) (w3.alloc (.cells #[.slice y.ka y.e.key.length y.kc, .slice y.va y.e.val.length y.vc, .int .u32 (y.e.page : Int), .int .u32 (y.e.size : Int)] 68)) B 23 23 68 i0 _ 4 56 Try.underlying23 hi hz0 hz1 hz2 (by rfl) (by omega) (.slice a3 ys.length c3) ys.length (rowc ys) hcl.row ⟨w3.heap.size, 0, none⟩ 1 1 y.cells (by rfl) (box_news w3 y) (cells_one y) (by unfold maxLen; omega) (by omega) (by simp; omega)
  have hC4 := hcl.snoc2 (y := y) hup hBC (hy.below (below_alloc w3 _)) hg hown
  obtain ⟨a4, c4, rfl, -⟩ := hC4.ens
  have hxa := (Below.heap_alloc w3 (.cells #[.slice y.ka y.e.key.length y.kc, .slice y.va y.e.val.length y.vc, .int .u32 (y.e.page : Int), .int .u32 (y.e.size : Int)] 68) _ (lt_of_block hx)).trans hx
  refine ⟨a4, _, c4, w4, hrun, hC4, by simp, (hg.block _ (lt_of_block hxa) (fun e => (hcl.noNode hxa).1 e.symm)).trans hxa, fun k hk hne => (hg.block k (by simp; omega) (fun e => hne e.symm)).trans (Below.heap_alloc w3 _ k hk), by have := hg.size; simp at this; omega, hg.os, hg.tape, hg.output⟩
/-- a leaf's entry with a small value. -/
def Ee.Sm (e : Ee) : Prop := e.page = 0 ∧ e.size = 0 ∧ e.key.length < 256 ∧ e.val.length < 255 ∧ Byts e.key ∧ Byts e.val
theorem Sm_enc (e : Ee) (h : e.Sm) : e.enc true = ((e.key.length : Int) :: e.key) ++ ((e.val.length : Int) :: e.val) := by rw [enc_leaf, Ee.tail, if_pos h.1]; simp
theorem encs_cons (leaf : Bool) (e : Ee) (es : List Ee) : encs leaf (e :: es) = e.enc leaf ++ encs leaf es := by simp [encs]
set_option maxHeartbeats 3200000 in
set_option maxRecDepth 1000000 in
theorem rnode_small (p : Nat) (es : List Ee) (w : World) (hs : ∀ e ∈ es, e.Sm) (hc : chk true es = 0) (hw : wts es ≤ 1000000) (hn : es.length < 65536) (h : Rdr w p (nenc true es)) :
    Calls Try.prog 17 #[.pointer (some ⟨p, 0, none⟩), .int .u8 1] w fun e w' => ∃ v ys, e = .returned (.agg #[.bool true, v]) ∧ ers ys = es ∧ Cl w.heap.size w' v ys ∧ w.grownBy w' (some p) := by
  obtain ⟨i0, hi, hz0, hz1, hz2⟩ := info_parts Try.infoE
  obtain ⟨hB, hb0, hb1, hs1⟩ := pair_boxes w (.bool false) (.slice none 0 0) (.bool true) (.slice none 0 0)
  have hpw := h.lt
  have HN := hide (num_ok p 2 (Crc.le 2 es.length) (encs true es) _ (Crc.le_length _ _) (by omega) (h.below hB) (Crc.le_b8 _ _))
  rw [Crc.leV_le 2 es.length (by omega)] at HN
  have HB := hide hB
  have HB0 := hide hb0
  have HB1 := hide hb1
  have HS1 := hide hs1
  have HSm := hide hs
  clear h hB hb0 hb1 hs1 hs
  go_enter Try.func17, Try.ntmps17
  go_wp2_with (go_at_call 56; refine (must_yes _ _ rfl _).mono ?_; rintro e w' ⟨rfl, rfl⟩)
  generalize (w.alloc (.cells #[.bool false, .slice none 0 0] 25)).alloc (.cells #[.bool true, .slice none 0 0] 25) = w1 at *
  refine HN.out.mono ?_
  rintro e w2 ⟨rfl, hrd, hg⟩
  have HG := hide hg
  have HRd := hide hrd
  clear hrd hg HN
  have hw2 : w.heap.size + 2 ≤ w2.heap.size := by have := HG.out.size; have := HS1.out; omega
  have HKb0 : Hid (Kb w.heap.size p w w2) := hide ((Kb.of_below HB.out (Nat.le_refl _)).trans (Kb.of_grown HG.out HB.out.size))
  have HX0 := hide ((HG.out.block _ (lt_of_block HB0.out) (by simp; omega)).trans HB0.out)
  have HX1 := hide ((HG.out.block _ (lt_of_block HB1.out) (by simp; omega)).trans HB1.out)
  go_wp2
  go_loopw [19] (fun i wr => ∃ (k : Nat) (ys : List En) (a3 : Option Addr) (c3 : Nat), k ≤ es.length ∧ i = .int .u32 (k : Int) ∧ ers ys = es.take k ∧ wr.heap[w.heap.size]? = some (.cells #[.bool false, .slice none 0 0] 25 (0, 0)) ∧ wr.heap[w.heap.size + 1]? = some (.cells #[.bool true, .slice a3 ys.length c3] 25 (0, 0)) ∧ Cl (w.heap.size + 2) wr (.slice a3 ys.length c3) ys ∧ Rdr wr p (encs true (es.drop k)) ∧ Kb w.heap.size p w wr ∧ w.heap.size + 2 ≤ wr.heap.size) (fun i _ => es.length - (intOf i).toNat)
  case atStart => exact ⟨0, [], none, 0, Nat.zero_le _, rfl, by simp [ers], HX0.out, HX1.out, ⟨⟨rfl, .inl ⟨rfl, rfl⟩⟩, (by intro y hy; simp at hy), (by intro i j yi yj k hi; simp at hi)⟩, by simpa using HRd.out, HKb0.out, hw2⟩
  case round =>
    obtain ⟨k, ys, a3, c3, hk, rfl, her, hx0, hx1, hcl, hrd, hkb, hsz⟩ := hrel
    obtain ⟨f0, f1, ff0⟩ := cells_two hx1
    have ff1 := frozen_blk (j := 1) hx1
    have HEr := hide her
    have HX0 := hide hx0
    have HX1 := hide hx1
    have HCl := hide hcl
    have HRd := hide hrd
    have HKb := hide hkb
    clear her hx0 hx1 hcl hrd hkb
    by_cases hlt : k < es.length
    · obtain ⟨x, hx⟩ : ∃ x, es[k]? = some x := ⟨_, List.getElem?_eq_getElem hlt⟩
      have hsm := HSm.out x (List.mem_of_getElem? hx)
      have hrd2 : Rdr wr.drew p (((x.key.length : Int) :: x.key) ++ (((x.val.length : Int) :: x.val) ++ encs true (es.drop (k + 1)))) := by
        have := HRd.out
        rw [drop_at hx, encs_cons, Sm_enc x hsm, List.append_assoc] at this
        exact this.below (Below.refl _ _).drew
      have HC := hide (rentry_small p x.key x.val _ wr.drew hsm.2.2.1 hsm.2.2.2.1 hsm.2.2.2.2.1 hsm.2.2.2.2.2 hrd2)
      have d1 : (k : Int) < (es.length : Int) := by omega
      clear hrd2
      go_wp2
      have hyl : ys.length ≤ 65536 := by have := congrArg List.length HEr.out; rw [ers_len, List.length_take] at this; omega
      have hpB : p < w.heap.size := hpw
      have HClC : Hid (∀ W, wr.drew.grownBy W (some p) → Cl (w.heap.size + 2) W (.slice a3 ys.length c3) ys) := hide fun W hW => HCl.out.of_block (fun j hj => hW.block j (HCl.out.block hj).2.1 (by have := (HCl.out.block hj).1; simp; omega)) (fun z hz j hj => hW.block j ((HCl.out.each z hz).lt hj) (by have := (HCl.out.each z hz).ge hj; simp; omega))
      have HUp : Hid (∀ j, ((Value.slice a3 ys.length c3).ownBlock = some j ∨ ∃ z ∈ ys, z.has j) → j < wr.heap.size) := hide fun j hj => hj.elim (fun h => (HCl.out.block h).2.1) (fun ⟨z, hz, h⟩ => (HCl.out.each z hz).lt h)
      refine wp_region_any (by kernel_rfl) ?_
      change wpAny _ _ _ _ _ _ _ (World.drew _)
      refine wpAny_take (i := 0) (v := ?v0_1) rfl (by kernel_rfl) (by kernel_rfl) (by kernel_rfl) (fun _ _ _ h => h) (Or.inl ⟨by rfl, ?hy0_1⟩) ?rest0_1
      case hy0_1 => (intro w; (first | (go_simp; with_reducible rfl) | go_simp))
      try simp only [Act.put, List.setIfInBounds_toArray]
      refine wpAny_take (i := 2) (v := ?v2_2) rfl (by kernel_rfl) (by kernel_rfl) (by kernel_rfl) (fun _ _ _ h => h) (Or.inl ⟨by rfl, ?hy2_2⟩) ?rest2_2
      case hy2_2 => (intro w; (first | (go_simp; with_reducible rfl) | go_simp))
      try simp only [Act.put]
      refine wpAny_take (i := 3) (v := ?v3_3) rfl (by kernel_rfl) (by kernel_rfl) (by kernel_rfl) (fun _ _ _ h => h) (Or.inl ⟨by rfl, ?hy3_3⟩) ?rest3_3
      case hy3_3 => (intro w; (first | (go_simp; with_reducible rfl) | go_simp))
      try simp only [Act.put]
      refine wpAny_ready (rs := [1, 4]) (by kernel_rfl) (by simp) ?_
      refine AllReady.cons rfl (fun K hK => ?_) ?_
      · go_simp
        refine hK _ _ ?_
        clear hK K
        try simp only [Act.put, List.setIfInBounds_toArray, List.set_cons_zero, List.set_cons_succ]
        refine wpAny_ready (rs := [4]) (by kernel_rfl) (by simp) ?_
        refine AllReady.cons rfl (fun K hK => ?_) ?_
        · go_simp
          refine hK _ _ ?_
          clear hK K
          try simp only [Act.put, List.setIfInBounds_toArray, List.set_cons_zero, List.set_cons_succ]
          refine wpAny_ready (rs := [5]) (by kernel_rfl) (by simp) ?_
          refine AllReady.cons rfl (fun K hK => ?_) ?_
          · go_simp
            go_wp2_with (go_at_call 58; refine HC.out.mono ?_; rintro e w3 ⟨y, rfl, hye, hyo, hrd3, hg3⟩; simp only [En.v]; have HYe := hide hye; have HYo := hide hyo; have HRd3 := hide hrd3; have HG3 := hide hg3; have hx3 : w3.heap[w.heap.size + 1]? = some (.cells #[.bool true, .slice a3 ys.length c3] 25 (0, 0)) := (hg3.block _ (lt_of_block HX1.out) (by simp; omega)).trans HX1.out; obtain ⟨g0, g1, gg0⟩ := cells_two hx3; have gg1 := frozen_blk (j := 1) hx3; have HX3 := hide hx3; have HCl3 := hide ((HClC.out w3 hg3).below (below_alloc w3 (.cells #[.slice y.ka y.e.key.length y.kc, .slice y.va y.e.val.length y.vc, .int .u32 (y.e.page : Int), .int .u32 (y.e.size : Int)] 68))); have hs3 : wr.heap.size ≤ w3.heap.size := hg3.size; have g1' := (one_below1 g1 (below_alloc w3 (.cells #[.slice y.ka y.e.key.length y.kc, .slice y.va y.e.val.length y.vc, .int .u32 (y.e.page : Int), .int .u32 (y.e.size : Int)] 68))); clear hye hyo hrd3 hg3 hx3)
            try (refine hK _ _ ?_; clear hK K)
            try simp only [Act.put, List.setIfInBounds_toArray, List.set_cons_zero, List.set_cons_succ]
            refine wpAny_ready (rs := [6]) (by kernel_rfl) (by simp) ?_
            refine AllReady.cons rfl (fun K hK => ?_) ?_
            · go_simp
              refine hK _ _ ?_
              clear hK K
              try simp only [Act.put, List.setIfInBounds_toArray, List.set_cons_zero, List.set_cons_succ]
              refine wpAny_ready (rs := [7]) (by kernel_rfl) (by simp) ?_
              refine AllReady.cons rfl (fun K hK => ?_) ?_
              · refine step_append_own _ (by rfl) (.tmp 22) (.tmp 27) 23 (by rfl) (w.heap.size + 2) 68 i0 _ 4 56 Try.underlying23 hi hz0 hz1 hz2 (by rfl) (by omega) (.slice a3 ys.length c3) ys.length (rowc ys) (by rfl) HCl3.out.row ⟨w3.heap.size, 0, none⟩ 1 1 y.cells (by rfl) (by rfl) (box_news w3 y) (cells_one y) (by unfold maxLen; omega) (by omega) (by simp; omega) ?_
                intro v' w4 hown4 hg4 hn4
                have hC4 := HCl3.out.snoc2 (y := y) (C := wr.heap.size) HUp.out hsz (HYo.out.below (below_alloc w3 _)) hg4 hown4
                obtain ⟨a4, c4, rfl, -⟩ := hC4.ens
                have hxa := (Below.heap_alloc w3 (.cells #[.slice y.ka y.e.key.length y.kc, .slice y.va y.e.val.length y.vc, .int .u32 (y.e.page : Int), .int .u32 (y.e.size : Int)] 68) _ (lt_of_block HX3.out)).trans HX3.out
                have hx4 := (hg4.block _ (lt_of_block hxa) (fun e => (HCl3.out.noNode hxa).1 e.symm)).trans hxa
                obtain ⟨t0, t1, tt0⟩ := cells_two hx4
                have tt1 := frozen_blk (j := 1) hx4
                have HX4 := hide hx4
                have HC4 := hide hC4
                have HG4 := hide hg4
                clear hown4 hg4 hn4 hC4 hxa hx4
                refine hK _ _ ?_
                clear hK K
                try simp only [Act.put, List.setIfInBounds_toArray]
                refine wpAny_ready (rs := [8]) (by kernel_rfl) (by simp) ?_
                refine AllReady.cons rfl (fun K hK => ?_) ?_
                · go_simp
                  refine hK _ _ ?_
                  clear hK K
                  try simp only [Act.put, List.setIfInBounds_toArray, List.set_cons_zero, List.set_cons_succ]
                  refine wpAny_ready (rs := [9]) (by kernel_rfl) (by simp) ?_
                  refine AllReady.cons rfl (fun K hK => ?_) ?_
                  · go_simp
                    refine hK _ _ ?_
                    clear hK K
                    try simp only [Act.put, List.setIfInBounds_toArray, List.set_cons_zero, List.set_cons_succ]
                    refine wpAny_done (by kernel_rfl) ?_ _
                    go_wp2
                    go_roundw
                    case rel =>
                      have hs4 : w3.heap.size ≤ w4.heap.size := by have := HG4.out.size; simp at this; omega
                      have hst : ∀ j, j < w3.heap.size → (Value.slice a3 ys.length c3).ownBlock ≠ some j → j ≠ w.heap.size + 1 → (w4.setCell ⟨w.heap.size + 1, 1, none⟩ (.slice a4 (ys ++ [y]).length c4)).heap[j]? = w3.heap[j]? := fun j hj h1 h2 => (Below.heap_setCell _ _ _ _ h2).trans ((HG4.out.block j (by simp; omega) (fun e => h1 e.symm)).trans (Below.heap_alloc w3 _ j hj))
                      have hob : ∀ j, j < w.heap.size + 2 → (Value.slice a3 ys.length c3).ownBlock ≠ some j := fun j hj e => by have := (HCl.out.block e).1; omega
                      rw [show ys.length + 1 = (ys ++ [y]).length by simp]
                      refine ⟨k + 1, ys ++ [y], a4, c4, by omega, by go_num, ?_, ?_, ?_, ?_, ?_, ?_, by simp [World.setCell]; omega⟩
                      · rw [take_at hx, ers_app, HEr.out]
                        simp [ers, HYe.out]
                        obtain ⟨xk, xv, xp, xs⟩ := x
                        have h1 := hsm.1
                        have h2 := hsm.2.1
                        simp only [] at h1 h2 ⊢
                        rw [h1, h2]
                      · exact (hst _ (by omega) (hob _ (by omega)) (by omega)).trans ((HG3.out.block _ (lt_of_block HX0.out) (by simp; omega)).trans HX0.out)
                      · rw [heap_setCell_same _ _ 1 _ 25 _ HX4.out]; rfl
                      · exact HC4.out.offNode HX4.out (fun j hj => Below.heap_setCell _ _ _ _ hj)
                      · obtain ⟨ra, rn, rcc, hrd⟩ := HRd3.out
                        have hpl := hrd.lt
                        refine ⟨ra, rn, rcc, (hst p (by omega) (hob p (by omega)) (by omega)).trans hrd.blk, hrd.len, hrd.cap, hrd.max, hrd.bare, ?_, hrd.byts⟩
                        rcases hrd.row with h0 | ⟨b, off, e, hlt2, hne, hcc⟩
                        · exact .inl h0
                        · exact .inr ⟨b, off, e, by simp [World.setCell]; omega, hne, fun j hj => by
                            have := hst b (by omega) (hob b (by omega)) (by omega)
                            rw [← hcc j hj]
                            simp only [World.cell?]
                            rw [this]⟩
                      · refine HKb.out.trans ⟨HG4.out.os.trans HG3.out.os, HG4.out.tape.trans HG3.out.tape, HG4.out.output.trans HG3.out.output, by have := HG3.out.size; simp [World.setCell] at this ⊢; omega, fun j hj h1 => ?_⟩
                        exact (hst j (by omega) (hob j (by omega)) (by omega)).trans (HG3.out.block j (by show j < wr.heap.size; omega) (by simpa using h1))
                    case measure => simp [intOf]; omega
                  exact AllReady.nil
                exact AllReady.nil
              exact AllReady.nil
            exact AllReady.nil
          exact AllReady.nil
        exact AllReady.nil
      refine AllReady.cons rfl (fun K hK => ?_) ?_
      · go_simp
        refine hK _ _ ?_
        clear hK K
        try simp only [Act.put, List.setIfInBounds_toArray, List.set_cons_zero, List.set_cons_succ]
        refine wpAny_ready (rs := [1, 5]) (by kernel_rfl) (by simp) ?_
        refine AllReady.cons rfl (fun K hK => ?_) ?_
        · go_simp
          refine hK _ _ ?_
          clear hK K
          try simp only [Act.put, List.setIfInBounds_toArray, List.set_cons_zero, List.set_cons_succ]
          refine wpAny_ready (rs := [5]) (by kernel_rfl) (by simp) ?_
          refine AllReady.cons rfl (fun K hK => ?_) ?_
          · go_simp
            go_wp2_with (go_at_call 58; refine HC.out.mono ?_; rintro e w3 ⟨y, rfl, hye, hyo, hrd3, hg3⟩; simp only [En.v]; have HYe := hide hye; have HYo := hide hyo; have HRd3 := hide hrd3; have HG3 := hide hg3; have hx3 : w3.heap[w.heap.size + 1]? = some (.cells #[.bool true, .slice a3 ys.length c3] 25 (0, 0)) := (hg3.block _ (lt_of_block HX1.out) (by simp; omega)).trans HX1.out; obtain ⟨g0, g1, gg0⟩ := cells_two hx3; have gg1 := frozen_blk (j := 1) hx3; have HX3 := hide hx3; have HCl3 := hide ((HClC.out w3 hg3).below (below_alloc w3 (.cells #[.slice y.ka y.e.key.length y.kc, .slice y.va y.e.val.length y.vc, .int .u32 (y.e.page : Int), .int .u32 (y.e.size : Int)] 68))); have hs3 : wr.heap.size ≤ w3.heap.size := hg3.size; have g1' := (one_below1 g1 (below_alloc w3 (.cells #[.slice y.ka y.e.key.length y.kc, .slice y.va y.e.val.length y.vc, .int .u32 (y.e.page : Int), .int .u32 (y.e.size : Int)] 68))); clear hye hyo hrd3 hg3 hx3)
            try (refine hK _ _ ?_; clear hK K)
            try simp only [Act.put, List.setIfInBounds_toArray, List.set_cons_zero, List.set_cons_succ]
            refine wpAny_ready (rs := [6]) (by kernel_rfl) (by simp) ?_
            refine AllReady.cons rfl (fun K hK => ?_) ?_
            · go_simp
              refine hK _ _ ?_
              clear hK K
              try simp only [Act.put, List.setIfInBounds_toArray, List.set_cons_zero, List.set_cons_succ]
              refine wpAny_ready (rs := [7]) (by kernel_rfl) (by simp) ?_
              refine AllReady.cons rfl (fun K hK => ?_) ?_
              · refine step_append_own _ (by rfl) (.tmp 22) (.tmp 27) 23 (by rfl) (w.heap.size + 2) 68 i0 _ 4 56 Try.underlying23 hi hz0 hz1 hz2 (by rfl) (by omega) (.slice a3 ys.length c3) ys.length (rowc ys) (by rfl) HCl3.out.row ⟨w3.heap.size, 0, none⟩ 1 1 y.cells (by rfl) (by rfl) (box_news w3 y) (cells_one y) (by unfold maxLen; omega) (by omega) (by simp; omega) ?_
                intro v' w4 hown4 hg4 hn4
                have hC4 := HCl3.out.snoc2 (y := y) (C := wr.heap.size) HUp.out hsz (HYo.out.below (below_alloc w3 _)) hg4 hown4
                obtain ⟨a4, c4, rfl, -⟩ := hC4.ens
                have hxa := (Below.heap_alloc w3 (.cells #[.slice y.ka y.e.key.length y.kc, .slice y.va y.e.val.length y.vc, .int .u32 (y.e.page : Int), .int .u32 (y.e.size : Int)] 68) _ (lt_of_block HX3.out)).trans HX3.out
                have hx4 := (hg4.block _ (lt_of_block hxa) (fun e => (HCl3.out.noNode hxa).1 e.symm)).trans hxa
                obtain ⟨t0, t1, tt0⟩ := cells_two hx4
                have tt1 := frozen_blk (j := 1) hx4
                have HX4 := hide hx4
                have HC4 := hide hC4
                have HG4 := hide hg4
                clear hown4 hg4 hn4 hC4 hxa hx4
                refine hK _ _ ?_
                clear hK K
                try simp only [Act.put, List.setIfInBounds_toArray]
                refine wpAny_ready (rs := [8]) (by kernel_rfl) (by simp) ?_
                refine AllReady.cons rfl (fun K hK => ?_) ?_
                · go_simp
                  refine hK _ _ ?_
                  clear hK K
                  try simp only [Act.put, List.setIfInBounds_toArray, List.set_cons_zero, List.set_cons_succ]
                  refine wpAny_ready (rs := [9]) (by kernel_rfl) (by simp) ?_
                  refine AllReady.cons rfl (fun K hK => ?_) ?_
                  · go_simp
                    refine hK _ _ ?_
                    clear hK K
                    try simp only [Act.put, List.setIfInBounds_toArray, List.set_cons_zero, List.set_cons_succ]
                    refine wpAny_done (by kernel_rfl) ?_ _
                    go_wp2
                    go_roundw
                    case rel =>
                      have hs4 : w3.heap.size ≤ w4.heap.size := by have := HG4.out.size; simp at this; omega
                      have hst : ∀ j, j < w3.heap.size → (Value.slice a3 ys.length c3).ownBlock ≠ some j → j ≠ w.heap.size + 1 → (w4.setCell ⟨w.heap.size + 1, 1, none⟩ (.slice a4 (ys ++ [y]).length c4)).heap[j]? = w3.heap[j]? := fun j hj h1 h2 => (Below.heap_setCell _ _ _ _ h2).trans ((HG4.out.block j (by simp; omega) (fun e => h1 e.symm)).trans (Below.heap_alloc w3 _ j hj))
                      have hob : ∀ j, j < w.heap.size + 2 → (Value.slice a3 ys.length c3).ownBlock ≠ some j := fun j hj e => by have := (HCl.out.block e).1; omega
                      rw [show ys.length + 1 = (ys ++ [y]).length by simp]
                      refine ⟨k + 1, ys ++ [y], a4, c4, by omega, by go_num, ?_, ?_, ?_, ?_, ?_, ?_, by simp [World.setCell]; omega⟩
                      · rw [take_at hx, ers_app, HEr.out]
                        simp [ers, HYe.out]
                        obtain ⟨xk, xv, xp, xs⟩ := x
                        have h1 := hsm.1
                        have h2 := hsm.2.1
                        simp only [] at h1 h2 ⊢
                        rw [h1, h2]
                      · exact (hst _ (by omega) (hob _ (by omega)) (by omega)).trans ((HG3.out.block _ (lt_of_block HX0.out) (by simp; omega)).trans HX0.out)
                      · rw [heap_setCell_same _ _ 1 _ 25 _ HX4.out]; rfl
                      · exact HC4.out.offNode HX4.out (fun j hj => Below.heap_setCell _ _ _ _ hj)
                      · obtain ⟨ra, rn, rcc, hrd⟩ := HRd3.out
                        have hpl := hrd.lt
                        refine ⟨ra, rn, rcc, (hst p (by omega) (hob p (by omega)) (by omega)).trans hrd.blk, hrd.len, hrd.cap, hrd.max, hrd.bare, ?_, hrd.byts⟩
                        rcases hrd.row with h0 | ⟨b, off, e, hlt2, hne, hcc⟩
                        · exact .inl h0
                        · exact .inr ⟨b, off, e, by simp [World.setCell]; omega, hne, fun j hj => by
                            have := hst b (by omega) (hob b (by omega)) (by omega)
                            rw [← hcc j hj]
                            simp only [World.cell?]
                            rw [this]⟩
                      · refine HKb.out.trans ⟨HG4.out.os.trans HG3.out.os, HG4.out.tape.trans HG3.out.tape, HG4.out.output.trans HG3.out.output, by have := HG3.out.size; simp [World.setCell] at this ⊢; omega, fun j hj h1 => ?_⟩
                        exact (hst j (by omega) (hob j (by omega)) (by omega)).trans (HG3.out.block j (by show j < wr.heap.size; omega) (by simpa using h1))
                    case measure => simp [intOf]; omega
                  exact AllReady.nil
                exact AllReady.nil
              exact AllReady.nil
            exact AllReady.nil
          exact AllReady.nil
        refine AllReady.cons rfl (fun K hK => ?_) ?_
        · go_simp
          go_wp2_with (go_at_call 58; refine HC.out.mono ?_; rintro e w3 ⟨y, rfl, hye, hyo, hrd3, hg3⟩; simp only [En.v]; have HYe := hide hye; have HYo := hide hyo; have HRd3 := hide hrd3; have HG3 := hide hg3; have hx3 : w3.heap[w.heap.size + 1]? = some (.cells #[.bool true, .slice a3 ys.length c3] 25 (0, 0)) := (hg3.block _ (lt_of_block HX1.out) (by simp; omega)).trans HX1.out; obtain ⟨g0, g1, gg0⟩ := cells_two hx3; have gg1 := frozen_blk (j := 1) hx3; have HX3 := hide hx3; have HCl3 := hide ((HClC.out w3 hg3).below (below_alloc w3 (.cells #[.slice y.ka y.e.key.length y.kc, .slice y.va y.e.val.length y.vc, .int .u32 (y.e.page : Int), .int .u32 (y.e.size : Int)] 68))); have hs3 : wr.heap.size ≤ w3.heap.size := hg3.size; have g1' := (one_below1 g1 (below_alloc w3 (.cells #[.slice y.ka y.e.key.length y.kc, .slice y.va y.e.val.length y.vc, .int .u32 (y.e.page : Int), .int .u32 (y.e.size : Int)] 68))); clear hye hyo hrd3 hg3 hx3)
          try (refine hK _ _ ?_; clear hK K)
          try simp only [Act.put, List.setIfInBounds_toArray, List.set_cons_zero, List.set_cons_succ]
          refine wpAny_ready (rs := [1, 6]) (by kernel_rfl) (by simp) ?_
          refine AllReady.cons rfl (fun K hK => ?_) ?_
          · go_simp
            refine hK _ _ ?_
            clear hK K
            try simp only [Act.put, List.setIfInBounds_toArray, List.set_cons_zero, List.set_cons_succ]
            refine wpAny_ready (rs := [6]) (by kernel_rfl) (by simp) ?_
            refine AllReady.cons rfl (fun K hK => ?_) ?_
            · go_simp
              refine hK _ _ ?_
              clear hK K
              try simp only [Act.put, List.setIfInBounds_toArray, List.set_cons_zero, List.set_cons_succ]
              refine wpAny_ready (rs := [7]) (by kernel_rfl) (by simp) ?_
              refine AllReady.cons rfl (fun K hK => ?_) ?_
              · refine step_append_own _ (by rfl) (.tmp 22) (.tmp 27) 23 (by rfl) (w.heap.size + 2) 68 i0 _ 4 56 Try.underlying23 hi hz0 hz1 hz2 (by rfl) (by omega) (.slice a3 ys.length c3) ys.length (rowc ys) (by rfl) HCl3.out.row ⟨w3.heap.size, 0, none⟩ 1 1 y.cells (by rfl) (by rfl) (box_news w3 y) (cells_one y) (by unfold maxLen; omega) (by omega) (by simp; omega) ?_
                intro v' w4 hown4 hg4 hn4
                have hC4 := HCl3.out.snoc2 (y := y) (C := wr.heap.size) HUp.out hsz (HYo.out.below (below_alloc w3 _)) hg4 hown4
                obtain ⟨a4, c4, rfl, -⟩ := hC4.ens
                have hxa := (Below.heap_alloc w3 (.cells #[.slice y.ka y.e.key.length y.kc, .slice y.va y.e.val.length y.vc, .int .u32 (y.e.page : Int), .int .u32 (y.e.size : Int)] 68) _ (lt_of_block HX3.out)).trans HX3.out
                have hx4 := (hg4.block _ (lt_of_block hxa) (fun e => (HCl3.out.noNode hxa).1 e.symm)).trans hxa
                obtain ⟨t0, t1, tt0⟩ := cells_two hx4
                have tt1 := frozen_blk (j := 1) hx4
                have HX4 := hide hx4
                have HC4 := hide hC4
                have HG4 := hide hg4
                clear hown4 hg4 hn4 hC4 hxa hx4
                refine hK _ _ ?_
                clear hK K
                try simp only [Act.put, List.setIfInBounds_toArray]
                refine wpAny_ready (rs := [8]) (by kernel_rfl) (by simp) ?_
                refine AllReady.cons rfl (fun K hK => ?_) ?_
                · go_simp
                  refine hK _ _ ?_
                  clear hK K
                  try simp only [Act.put, List.setIfInBounds_toArray, List.set_cons_zero, List.set_cons_succ]
                  refine wpAny_ready (rs := [9]) (by kernel_rfl) (by simp) ?_
                  refine AllReady.cons rfl (fun K hK => ?_) ?_
                  · go_simp
                    refine hK _ _ ?_
                    clear hK K
                    try simp only [Act.put, List.setIfInBounds_toArray, List.set_cons_zero, List.set_cons_succ]
                    refine wpAny_done (by kernel_rfl) ?_ _
                    go_wp2
                    go_roundw
                    case rel =>
                      have hs4 : w3.heap.size ≤ w4.heap.size := by have := HG4.out.size; simp at this; omega
                      have hst : ∀ j, j < w3.heap.size → (Value.slice a3 ys.length c3).ownBlock ≠ some j → j ≠ w.heap.size + 1 → (w4.setCell ⟨w.heap.size + 1, 1, none⟩ (.slice a4 (ys ++ [y]).length c4)).heap[j]? = w3.heap[j]? := fun j hj h1 h2 => (Below.heap_setCell _ _ _ _ h2).trans ((HG4.out.block j (by simp; omega) (fun e => h1 e.symm)).trans (Below.heap_alloc w3 _ j hj))
                      have hob : ∀ j, j < w.heap.size + 2 → (Value.slice a3 ys.length c3).ownBlock ≠ some j := fun j hj e => by have := (HCl.out.block e).1; omega
                      rw [show ys.length + 1 = (ys ++ [y]).length by simp]
                      refine ⟨k + 1, ys ++ [y], a4, c4, by omega, by go_num, ?_, ?_, ?_, ?_, ?_, ?_, by simp [World.setCell]; omega⟩
                      · rw [take_at hx, ers_app, HEr.out]
                        simp [ers, HYe.out]
                        obtain ⟨xk, xv, xp, xs⟩ := x
                        have h1 := hsm.1
                        have h2 := hsm.2.1
                        simp only [] at h1 h2 ⊢
                        rw [h1, h2]
                      · exact (hst _ (by omega) (hob _ (by omega)) (by omega)).trans ((HG3.out.block _ (lt_of_block HX0.out) (by simp; omega)).trans HX0.out)
                      · rw [heap_setCell_same _ _ 1 _ 25 _ HX4.out]; rfl
                      · exact HC4.out.offNode HX4.out (fun j hj => Below.heap_setCell _ _ _ _ hj)
                      · obtain ⟨ra, rn, rcc, hrd⟩ := HRd3.out
                        have hpl := hrd.lt
                        refine ⟨ra, rn, rcc, (hst p (by omega) (hob p (by omega)) (by omega)).trans hrd.blk, hrd.len, hrd.cap, hrd.max, hrd.bare, ?_, hrd.byts⟩
                        rcases hrd.row with h0 | ⟨b, off, e, hlt2, hne, hcc⟩
                        · exact .inl h0
                        · exact .inr ⟨b, off, e, by simp [World.setCell]; omega, hne, fun j hj => by
                            have := hst b (by omega) (hob b (by omega)) (by omega)
                            rw [← hcc j hj]
                            simp only [World.cell?]
                            rw [this]⟩
                      · refine HKb.out.trans ⟨HG4.out.os.trans HG3.out.os, HG4.out.tape.trans HG3.out.tape, HG4.out.output.trans HG3.out.output, by have := HG3.out.size; simp [World.setCell] at this ⊢; omega, fun j hj h1 => ?_⟩
                        exact (hst j (by omega) (hob j (by omega)) (by omega)).trans (HG3.out.block j (by show j < wr.heap.size; omega) (by simpa using h1))
                    case measure => simp [intOf]; omega
                  exact AllReady.nil
                exact AllReady.nil
              exact AllReady.nil
            exact AllReady.nil
          refine AllReady.cons rfl (fun K hK => ?_) ?_
          · go_simp
            refine hK _ _ ?_
            clear hK K
            try simp only [Act.put, List.setIfInBounds_toArray, List.set_cons_zero, List.set_cons_succ]
            refine wpAny_ready (rs := [1]) (by kernel_rfl) (by simp) ?_
            refine AllReady.cons rfl (fun K hK => ?_) ?_
            · go_simp
              refine hK _ _ ?_
              clear hK K
              try simp only [Act.put, List.setIfInBounds_toArray, List.set_cons_zero, List.set_cons_succ]
              refine wpAny_ready (rs := [7]) (by kernel_rfl) (by simp) ?_
              refine AllReady.cons rfl (fun K hK => ?_) ?_
              · refine step_append_own _ (by rfl) (.tmp 22) (.tmp 27) 23 (by rfl) (w.heap.size + 2) 68 i0 _ 4 56 Try.underlying23 hi hz0 hz1 hz2 (by rfl) (by omega) (.slice a3 ys.length c3) ys.length (rowc ys) (by rfl) HCl3.out.row ⟨w3.heap.size, 0, none⟩ 1 1 y.cells (by rfl) (by rfl) (box_news w3 y) (cells_one y) (by unfold maxLen; omega) (by omega) (by simp; omega) ?_
                intro v' w4 hown4 hg4 hn4
                have hC4 := HCl3.out.snoc2 (y := y) (C := wr.heap.size) HUp.out hsz (HYo.out.below (below_alloc w3 _)) hg4 hown4
                obtain ⟨a4, c4, rfl, -⟩ := hC4.ens
                have hxa := (Below.heap_alloc w3 (.cells #[.slice y.ka y.e.key.length y.kc, .slice y.va y.e.val.length y.vc, .int .u32 (y.e.page : Int), .int .u32 (y.e.size : Int)] 68) _ (lt_of_block HX3.out)).trans HX3.out
                have hx4 := (hg4.block _ (lt_of_block hxa) (fun e => (HCl3.out.noNode hxa).1 e.symm)).trans hxa
                obtain ⟨t0, t1, tt0⟩ := cells_two hx4
                have tt1 := frozen_blk (j := 1) hx4
                have HX4 := hide hx4
                have HC4 := hide hC4
                have HG4 := hide hg4
                clear hown4 hg4 hn4 hC4 hxa hx4
                refine hK _ _ ?_
                clear hK K
                try simp only [Act.put, List.setIfInBounds_toArray]
                refine wpAny_ready (rs := [8]) (by kernel_rfl) (by simp) ?_
                refine AllReady.cons rfl (fun K hK => ?_) ?_
                · go_simp
                  refine hK _ _ ?_
                  clear hK K
                  try simp only [Act.put, List.setIfInBounds_toArray, List.set_cons_zero, List.set_cons_succ]
                  refine wpAny_ready (rs := [9]) (by kernel_rfl) (by simp) ?_
                  refine AllReady.cons rfl (fun K hK => ?_) ?_
                  · go_simp
                    refine hK _ _ ?_
                    clear hK K
                    try simp only [Act.put, List.setIfInBounds_toArray, List.set_cons_zero, List.set_cons_succ]
                    refine wpAny_done (by kernel_rfl) ?_ _
                    go_wp2
                    go_roundw
                    case rel =>
                      have hs4 : w3.heap.size ≤ w4.heap.size := by have := HG4.out.size; simp at this; omega
                      have hst : ∀ j, j < w3.heap.size → (Value.slice a3 ys.length c3).ownBlock ≠ some j → j ≠ w.heap.size + 1 → (w4.setCell ⟨w.heap.size + 1, 1, none⟩ (.slice a4 (ys ++ [y]).length c4)).heap[j]? = w3.heap[j]? := fun j hj h1 h2 => (Below.heap_setCell _ _ _ _ h2).trans ((HG4.out.block j (by simp; omega) (fun e => h1 e.symm)).trans (Below.heap_alloc w3 _ j hj))
                      have hob : ∀ j, j < w.heap.size + 2 → (Value.slice a3 ys.length c3).ownBlock ≠ some j := fun j hj e => by have := (HCl.out.block e).1; omega
                      rw [show ys.length + 1 = (ys ++ [y]).length by simp]
                      refine ⟨k + 1, ys ++ [y], a4, c4, by omega, by go_num, ?_, ?_, ?_, ?_, ?_, ?_, by simp [World.setCell]; omega⟩
                      · rw [take_at hx, ers_app, HEr.out]
                        simp [ers, HYe.out]
                        obtain ⟨xk, xv, xp, xs⟩ := x
                        have h1 := hsm.1
                        have h2 := hsm.2.1
                        simp only [] at h1 h2 ⊢
                        rw [h1, h2]
                      · exact (hst _ (by omega) (hob _ (by omega)) (by omega)).trans ((HG3.out.block _ (lt_of_block HX0.out) (by simp; omega)).trans HX0.out)
                      · rw [heap_setCell_same _ _ 1 _ 25 _ HX4.out]; rfl
                      · exact HC4.out.offNode HX4.out (fun j hj => Below.heap_setCell _ _ _ _ hj)
                      · obtain ⟨ra, rn, rcc, hrd⟩ := HRd3.out
                        have hpl := hrd.lt
                        refine ⟨ra, rn, rcc, (hst p (by omega) (hob p (by omega)) (by omega)).trans hrd.blk, hrd.len, hrd.cap, hrd.max, hrd.bare, ?_, hrd.byts⟩
                        rcases hrd.row with h0 | ⟨b, off, e, hlt2, hne, hcc⟩
                        · exact .inl h0
                        · exact .inr ⟨b, off, e, by simp [World.setCell]; omega, hne, fun j hj => by
                            have := hst b (by omega) (hob b (by omega)) (by omega)
                            rw [← hcc j hj]
                            simp only [World.cell?]
                            rw [this]⟩
                      · refine HKb.out.trans ⟨HG4.out.os.trans HG3.out.os, HG4.out.tape.trans HG3.out.tape, HG4.out.output.trans HG3.out.output, by have := HG3.out.size; simp [World.setCell] at this ⊢; omega, fun j hj h1 => ?_⟩
                        exact (hst j (by omega) (hob j (by omega)) (by omega)).trans (HG3.out.block j (by show j < wr.heap.size; omega) (by simpa using h1))
                    case measure => simp [intOf]; omega
                  exact AllReady.nil
                exact AllReady.nil
              exact AllReady.nil
            exact AllReady.nil
          exact AllReady.nil
        exact AllReady.nil
      exact AllReady.nil
    · obtain rfl : k = es.length := by omega
      have HF : Hid (es.take es.length = es) := hide (List.take_length)
      have hrd0 : Rdr wr p [] := by have := HRd.out; rw [List.drop_length] at this; exact this
      obtain ⟨ra, rn, rcc, hrd⟩ := hrd0
      have hr0 : rn = 0 := by have := hrd.len; simpa using this.symm
      subst hr0
      have rc0 := hrd.c0
      obtain ⟨ae, ce, hev, hens⟩ := HCl.out.ens
      cases hev
      have HCk := hide (fun W (hW : Below wr.heap.size wr W) => check_any true a3 ys.length c3 ys W (hens.below hW) (by have := congrArg List.length HEr.out; rw [ers_len, List.length_take] at this; omega) (by rw [HEr.out, HF.out]; exact hw))
      rw [HEr.out, HF.out, hc] at HCk
      have HRd2 := hide hrd
      clear hrd hens
      go_wp2_with fail
      refine (must_yes _ _ rfl _).mono ?_
      rintro e w5 ⟨rfl, rfl⟩
      go_wp2_with fail
      refine (HCk.out _ (Below.refl _ _)).mono ?_
      rintro e w6 ⟨rfl, hb6⟩
      have hy0 := (hb6.block _ (lt_of_block HX0.out)).trans HX0.out
      have hy1 := (hb6.block _ (lt_of_block HX1.out)).trans HX1.out
      obtain ⟨g0, g1, -⟩ := cells_two hy1
      obtain ⟨z0, z1, zz0⟩ := cells_two hy0
      have zz1 := frozen_blk (j := 1) hy0
      have HY0 := hide hy0
      have HB6 := hide hb6
      clear hb6 hy0 hy1
      go_wp2_with (go_at_call 56; refine (must_yes _ _ rfl _).mono ?_; rintro e w7 ⟨rfl, rfl⟩)
      have hf := two_set (u := .bool true) (v := .slice a3 ys.length c3) HY0.out
      obtain ⟨q0, q1, -⟩ := cells_two hf
      refine bodyPost_ret (v := .agg #[.bool true, .slice a3 ys.length c3]) ?_ rfl ?_
      · simp [results, Try.results17, go_sem, q0, q1]
      · refine ⟨_, ys, rfl, by rw [HEr.out, HF.out], ((HCl.out.below HB6.out).other (fun j hj => two_other (by omega))).mono (by omega), ?_⟩
        have k1 := HKb.out.trans (Kb.of_below HB6.out (by omega))
        exact ⟨k1.os, k1.tape, k1.output, by have := k1.size; simpa [World.setCell] using this, fun j hj h1 => (two_other (by omega)).trans (k1.block j hj (by simpa using h1))⟩
end Go.Proofs.Ytjojpohnmfkanaa
