/- A page of a chain is read. -/
import Derived.Test.YtpcckaahfaobeaaOB
import Derived.Test.YtpcckaahfaobeaaPS1
import Derived.Laws.BitsAllLaws
namespace Go.Proofs.Ytpcckaahfaobeaa
open Go.RowKit Go.Maps
set_option linter.unusedVariables false
variable {w w' : World}
/-- four bytes as a number. -/
def g4 (a b c d : Nat) : Nat := a + 256 * b + 65536 * c + 16777216 * d
theorem or_add {k a b : Nat} (h : a < 2 ^ k) : a ||| (b * 2 ^ k) = a + b * 2 ^ k := by
  rw [Nat.or_comm, Nat.mul_comm, ← Nat.two_pow_add_eq_or_of_lt h, Nat.add_comm]
theorem or4 (b0 b1 b2 b3 : Nat) (h0 : b0 < 256) (h1 : b1 < 256) (h2 : b2 < 256) (h3 : b3 < 256) : bits BinOp.or IntKind.u32 (bits BinOp.or IntKind.u32 (bits BinOp.or IntKind.u32 (b0 : Int) ((b1 : Int) * 256)) ((b2 : Int) * 65536)) ((b3 : Int) * 16777216) = ((g4 b0 b1 b2 b3 : Nat) : Int) := by
  have e1 : ((b1 : Int) * 256) = ((b1 * 2 ^ 8 : Nat) : Int) := by omega
  have e2 : ((b2 : Int) * 65536) = ((b2 * 2 ^ 16 : Nat) : Int) := by omega
  have e3 : ((b3 : Int) * 16777216) = ((b3 * 2 ^ 24 : Nat) : Int) := by omega
  rw [e1, e2, e3, u32_or_nat _ _ (by omega) (by omega), or_add (by omega), u32_or_nat _ _ (by omega) (by omega), or_add (by omega), u32_or_nat _ _ (by omega) (by omega), or_add (by omega)]
  unfold g4
  omega
set_option maxHeartbeats 1600000 in
set_option maxRecDepth 1000000 in
theorem getNumber_any (w : World) (p o n c b0 b1 b2 b3 : Nat) (hn : 4 ≤ n) (h0 : b0 < 256) (h1 : b1 < 256) (h2 : b2 < 256) (h3 : b3 < 256)
    (c0 : w.cell? ⟨p, o, none⟩ = some (.int .u8 (b0 : Int))) (c1 : w.cell? ⟨p, o + 1, none⟩ = some (.int .u8 (b1 : Int))) (c2 : w.cell? ⟨p, o + 2, none⟩ = some (.int .u8 (b2 : Int))) (c3 : w.cell? ⟨p, o + 3, none⟩ = some (.int .u8 (b3 : Int))) :
    Calls Try.prog 48 #[.slice (some ⟨p, o, none⟩) n c] w fun e w' => e = .returned (.int .u32 ((g4 b0 b1 b2 b3 : Nat) : Int)) ∧ Same w w' := by
  have hor := or4 b0 b1 b2 b3 h0 h1 h2 h3
  go_enter Try.func48, Try.ntmps48
  go_wp2
  go_quiet (fail)
  go_wp2
  go_ret
  exact ⟨by rw [← hor]; rfl, (Same.refl w).drewN _⟩
theorem getNumber_row (a : Option Addr) (n c x : Nat) (R : List Int) (hx : x ≤ 4294967295) (hn : 4 ≤ n) (h : Row w a (le4 x ++ R)) :
    Calls Try.prog 48 #[.slice a n c] w fun e w' => e = .returned (.int .u32 (x : Int)) ∧ Same w w' := by
  rcases h with h | ⟨b, o, rfl, hlt, hc⟩
  · simp [le4] at h
  · have h4 : ∀ i v, (le4 x)[i]? = some v → w.cell? ⟨b, o + i, none⟩ = some (.int .u8 v) := fun i v hv => by
      obtain ⟨hi, e⟩ := List.getElem?_eq_some_iff.1 hv
      have := hc i (by rw [List.length_append]; omega)
      rw [this, List.getD_eq_getElem?_getD, List.getElem?_append_left hi, hv]; rfl
    have e : g4 (x % 256) (x / 256 % 256) (x / 65536 % 256) (x / 16777216) = x := by unfold g4; omega
    have k := getNumber_any w b o n c (x % 256) (x / 256 % 256) (x / 65536 % 256) (x / 16777216) hn (by omega) (by omega) (by omega) (by omega) (h4 0 _ rfl) (h4 1 _ rfl) (h4 2 _ rfl) (h4 3 _ rfl)
    rw [e] at k
    exact k
/-- what a page of a chain may lead to. -/
def leads (x : Nat) (l : Bool) : Bool := if l then decide (x = 0) else okp x
set_option maxHeartbeats 800000 in
theorem leads_any (w : World) (x : Nat) (l : Bool) (hx : x ≤ 4294967295) : Calls Try.prog 49 #[.int .u32 (x : Int), .bool l] w fun e w' => e = .returned (.bool (leads x l)) ∧ w' = w := by
  have HM := hide (mayNot_any w x hx)
  cases l with
  | true =>
    by_cases h0 : x = 0
    · subst h0
      go_enter Try.func49, Try.ntmps49
      go_wp2
      go_ret
      exact ⟨rfl, rfl⟩
    · have d : ((x : Int) == 0) = false := by simp; omega
      have HD : Hid (leads x true = false) := by simp [leads, Hid, h0]
      go_enter Try.func49, Try.ntmps49
      go_wp2
      go_ret
      exact ⟨by rw [HD.out]; rfl, rfl⟩
  | false =>
    have HD : Hid (leads x false = okp x) := by simp [leads, Hid]
    obtain ⟨b, hb⟩ : ∃ b, b = okp x := ⟨_, rfl⟩
    rw [← hb] at HD HM
    rw [HD.out]
    clear HD hb
    go_enter Try.func49, Try.ntmps49
    go_wp2_with (go_at_call 15; refine HM.out.mono ?_; rintro e w2 ⟨rfl, rfl⟩)
    go_ret
    exact ⟨by simp, rfl⟩
variable {p d q most pages c : Nat} {S : DS} {A : List Pge} {OO : Nat → Prop}
/-- what a link that was read is told as. -/
def LinkOut (n nx : Nat) (part : List Int) (p d q : Nat) (S : DS) (most : Nat) (OO : Nat → Prop) (pages c : Nat) (w : World) (e : Ending) (w' : World) : Prop :=
  ∃ g o cap S' A' OO', e = .returned (.tuple #[.agg #[.int .u32 (n : Int), .int .u32 (nx : Int), .slice (some ⟨g, o, none⟩) part.length cap], .int .u16 0]) ∧ Row w' (some ⟨g, o, none⟩) part ∧ part.length ≤ cap ∧ cap ≤ 9223372036854775807 ∧ w.heap.size ≤ g ∧ g < w'.heap.size ∧ ¬ OO' g ∧
    CP w' p d q S' most A' OO' pages (c + 1) ∧ (∀ j, j < pages → rd S' (8 * j) 8 = rd S (8 * j) 8) ∧ Go1 OO w OO' w'
theorem cells_3 {w : World} {b t : Nat} {x y z : Value} (h : w.heap[b]? = some (.cells #[x, y, z] t (0, 0))) : w.cell? ⟨b, 0, none⟩ = some x ∧ w.cell? ⟨b, 1, none⟩ = some y ∧ w.cell? ⟨b, 2, none⟩ = some z ∧ ∀ j, w.frozen? ⟨b, j, none⟩ = false := by
  refine ⟨?_, ?_, ?_, fun j => ?_⟩ <;> simp [World.cell?, World.frozen?, h]
theorem set_three {w : World} {b t : Nat} {x y z u v r : Value} (h : w.heap[b]? = some (.cells #[x, y, z] t (0, 0))) : (((w.setCell ⟨b, 0, none⟩ u).setCell ⟨b, 1, none⟩ v).setCell ⟨b, 2, none⟩ r).heap[b]? = some (.cells #[u, v, r] t (0, 0)) := by
  rw [heap_setCell_same _ b 2 _ t r (heap_setCell_same _ b 1 _ t v (heap_setCell_same w b 0 _ t u h))]
  rfl
theorem mv_three (w : World) (b : Nat) (u v r : Value) : Mv (fun k => k = b) w (((w.setCell ⟨b, 0, none⟩ u).setCell ⟨b, 1, none⟩ v).setCell ⟨b, 2, none⟩ r) := (((Mv.refl (fun k => k = b) w).setB (b := b) rfl 0 u).setB (b := b) rfl 1 v).setB (b := b) rfl 2 r
theorem link_end {w w1 w3 : World} {n nx M g cap : Nat} {part : List Int} {p d q : Nat} {S S' : DS} {most pages c : Nat} {A' : List Pge} {OO OO' : Nat → Prop} (hx : w1.heap[w.heap.size]? = some (.cells #[.int .u32 0, .int .u32 0, .slice none 0 0] 78 (0, 0))) (hs : Same w1 w3) (hno : ¬ OO' w.heap.size) (hg : w.heap.size < g) (hgo' : ¬ OO' g) (hgl : g < w1.heap.size)
    (hrow : Row w1 (some ⟨g, 0, none⟩) (le4 nx ++ part)) (hP : part.length = M) (hM : 1 ≤ M) (hcl : M + 4 ≤ cap) (hcm : cap ≤ 9223372036854775807) (hgo : Go1 OO w OO' w1) (hcp : CP w1 p d q S' most A' OO' pages (c + 1)) (hrd : ∀ j, j < pages → rd S' (8 * j) 8 = rd S (8 * j) 8) :
    LinkOut n nx part p d q S most OO pages c w (.returned (.tuple #[.agg #[.int .u32 (n : Int), .int .u32 (nx : Int), .slice (some ⟨g, 4, none⟩) M (cap - 4)], .int .u16 0])) (((w3.setCell ⟨w.heap.size, 0, none⟩ (.int .u32 (n : Int))).setCell ⟨w.heap.size, 1, none⟩ (.int .u32 (nx : Int))).setCell ⟨w.heap.size, 2, none⟩ (.slice (some ⟨g, 4, none⟩) M (cap - 4))) := by
  have hm : Mv (fun k => k = w.heap.size) w1 (((w3.setCell ⟨w.heap.size, 0, none⟩ (.int .u32 (n : Int))).setCell ⟨w.heap.size, 1, none⟩ (.int .u32 (nx : Int))).setCell ⟨w.heap.size, 2, none⟩ (.slice (some ⟨g, 4, none⟩) M (cap - 4))) := Mv.trans' hs.mv (mv_three _ _ _ _ _)
  have hr4 : Row w1 (some ⟨g, 4, none⟩) part := by
    have h := Row.cut hrow 4 cap (by rw [List.length_append, le4_len]; omega)
    rw [if_neg (by omega)] at h
    simpa [le4, Addr.add] using h
  refine ⟨g, 4, cap - 4, S', A', OO', by rw [hP], hm.row hr4 (by omega), by omega, by omega, by omega, Nat.lt_of_lt_of_le hgl hm.size, hgo', hcp.other hm (fun k hk e => hno (e ▸ hk)), hrd, ⟨⟨hm.os.trans hgo.mv.os, hm.tape.trans hgo.mv.tape, hm.output.trans hgo.mv.output, Nat.le_trans hgo.mv.size hm.size, fun k hk ho => (hm.block k (Nat.lt_of_lt_of_le hk hgo.mv.size) (by omega)).trans (hgo.mv.block k hk ho)⟩, hgo.own⟩⟩
set_option maxHeartbeats 3200000 in
set_option maxRecDepth 1000000 in
theorem readLink_last (h : CP w p d q S most A OO pages c) (hc : c ≤ 9000) (hpg : pages ≤ 10000) (n nx left M : Nat) (hn : n < pages) (part : List Int) (hrd : rd S (8 * n) 8 = Pg.pg 3 n (le4 nx ++ part)) (hnx : nx ≤ 4294967295) (hpl : part.length = M) (h1 : 1 ≤ left) (h2 : left ≤ 8192) (hlast : left ≤ 1004) (hMe : M = left) (hld : leads nx true = true) :
    Calls Try.prog 44 #[.pointer (some ⟨p, 0, none⟩), .int .u32 (n : Int), .int .i64 (left : Int)] w fun e w' => LinkOut n nx part p d q S most OO pages c w e w' := by
  have hM2 : 1 ≤ M ∧ M ≤ 1004 := by omega
  have hplen : (le4 nx ++ part).length = M + 4 := by rw [List.length_append, le4_len, hpl]; omega
  have hrs : rs pages n (rd S (8 * n) 8) = (3, 0, le4 nx ++ part) := by
    unfold rs
    rw [if_pos hn, hrd, Pg.opn_pg 3 n _ (by omega) (by omega) (by omega)]
  obtain ⟨W0, hW0⟩ : ∃ W, W = w.alloc (.cells #[.int .u32 0, .int .u32 0, .slice none 0 0] 78) := ⟨_, rfl⟩
  have hb0 : Below w.heap.size w W0 := by rw [hW0]; exact below_alloc w _
  have HX0 : Hid (W0.heap[w.heap.size]? = some (.cells #[.int .u32 0, .int .u32 0, .slice none 0 0] 78 (0, 0))) := by rw [hW0]; exact heap_alloc_new w _
  have HR := hide (CP.read (h.below hb0) hc hpg n (by omega) 3 0 _ hrs)
  have HOw : Hid (∀ k, OO k → k < w.heap.size) := fun k hk => h.pl.lt k hk
  have HB0 := hide hb0
  have HPl := hide hplen
  have HP := hide hpl
  have HLa : Hid (∀ W, Calls Try.prog 49 #[.int .u32 (nx : Int), .bool true] W fun e w' => e = .returned (.bool true) ∧ w' = W) := fun W => (leads_any W nx true hnx).mono fun e w' h => ⟨by rw [h.1, hld], h.2⟩
  clear hplen hpl hld hrs hrd h hb0
  go_enter Try.func44, Try.ntmps44
  go_wp2_with fail
  rw [← hW0]
  refine HR.out.mono ?_
  rintro e w1 ⟨v, S', A', OO', rfl, hf, hcp, hrd, hgo⟩
  obtain ⟨g, cap, rfl, hcl, hcm, hrow, hgl, hgb⟩ := made_shape hf.1 (by have := HPl.out; omega)
  have HF2 := hide (hf.2 g rfl)
  have HRow := hide hrow
  have HX1 := hide ((hgo.mv.block _ (lt_of_block HX0.out) (fun ho => by have := HOw.out _ ho; omega)).trans HX0.out)
  have HGo : Hid (Go1 OO w OO' w1) := (Go1.of_below HB0.out).trans hgo
  have HCp := hide hcp
  have HNo : Hid (¬ OO' w.heap.size) := fun ho => (hgo.own _ ho).elim (fun h => by have := HOw.out _ h; omega) (fun h => by have := lt_of_block HX0.out; omega)
  have HGg : Hid (w.heap.size < g) := by have h1 := (hf.2 g rfl).1; have h2 := lt_of_block HX0.out; show _ < _; omega
  have HRd := hide hrd
  have hcap4 : 4 < cap := by have := HPl.out; omega
  rw [HPl.out] at hcl ⊢
  have HGl := hide hgl
  subst hMe
  have q2 : (((M : Int) + 4) != 4 + (M : Int)) = false := by simp; omega
  have q3 : ¬ (1004 : Int) < (M : Int) := by omega
  have q4 : decide ((M : Int) ≤ 1004) = true := by simp; omega
  have q5 : (M : Int) ≤ 1004 := by omega
  clear hf hcp hrd hgo hrow hgl hgb HR
  have hcap5 : ¬ cap = 4 := by omega
  have hcap6 : 4 ≤ cap := by omega
  go_wp2_with (first | (go_at_call 48; refine (getNumber_row (some ⟨g, 0, none⟩) (M + 4) cap nx part hnx (by omega) HRow.out).mono ?_; rintro e w2 ⟨rfl, hs2⟩; have HS2 := hide hs2; obtain ⟨x0, x1, x2, x3⟩ := cells_3 (by rw [hs2.heap]; exact HX1.out : w2.heap[w.heap.size]? = _); have f0 := x3 0; have f1 := x3 1; have f2 := x3 2; clear x3 hs2) | (go_at_call 49; refine (HLa.out _).mono ?_; rintro e w3 ⟨rfl, rfl⟩))
  have hf := set_three (u := .int .u32 (n : Int)) (v := .int .u32 (nx : Int)) (r := .slice (some ⟨g, 4, none⟩) M (cap - 4)) (by rw [HS2.out.heap]; exact HX1.out : w3.heap[w.heap.size]? = _)
  obtain ⟨q0', q1', q2', -⟩ := cells_3 hf
  refine bodyPost_ret (v := .tuple #[.agg #[.int .u32 (n : Int), .int .u32 (nx : Int), .slice (some ⟨g, 4, none⟩) M (cap - 4)], .int .u16 0]) ?_ rfl ?_
  · simp [results, Try.results44, go_sem, q0', q1', q2']
  · exact link_end HX1.out HS2.out HNo.out HGg.out HF2.out.2 HGl.out HRow.out HP.out (by omega) (by omega) hcm HGo.out HCp.out HRd.out
set_option maxHeartbeats 3200000 in
set_option maxRecDepth 1000000 in
theorem readLink_on (h : CP w p d q S most A OO pages c) (hc : c ≤ 9000) (hpg : pages ≤ 10000) (n nx left M : Nat) (hn : n < pages) (part : List Int) (hrd : rd S (8 * n) 8 = Pg.pg 3 n (le4 nx ++ part)) (hnx : nx ≤ 4294967295) (hpl : part.length = M) (h1 : 1 ≤ left) (h2 : left ≤ 8192) (hlast : 1004 < left) (hMe : M = 1004) (hld : leads nx false = true) :
    Calls Try.prog 44 #[.pointer (some ⟨p, 0, none⟩), .int .u32 (n : Int), .int .i64 (left : Int)] w fun e w' => LinkOut n nx part p d q S most OO pages c w e w' := by
  have hM2 : 1 ≤ M ∧ M ≤ 1004 := by omega
  have hplen : (le4 nx ++ part).length = M + 4 := by rw [List.length_append, le4_len, hpl]; omega
  have hrs : rs pages n (rd S (8 * n) 8) = (3, 0, le4 nx ++ part) := by
    unfold rs
    rw [if_pos hn, hrd, Pg.opn_pg 3 n _ (by omega) (by omega) (by omega)]
  obtain ⟨W0, hW0⟩ : ∃ W, W = w.alloc (.cells #[.int .u32 0, .int .u32 0, .slice none 0 0] 78) := ⟨_, rfl⟩
  have hb0 : Below w.heap.size w W0 := by rw [hW0]; exact below_alloc w _
  have HX0 : Hid (W0.heap[w.heap.size]? = some (.cells #[.int .u32 0, .int .u32 0, .slice none 0 0] 78 (0, 0))) := by rw [hW0]; exact heap_alloc_new w _
  have HR := hide (CP.read (h.below hb0) hc hpg n (by omega) 3 0 _ hrs)
  have HOw : Hid (∀ k, OO k → k < w.heap.size) := fun k hk => h.pl.lt k hk
  have HB0 := hide hb0
  have HPl := hide hplen
  have HP := hide hpl
  have HLa : Hid (∀ W, Calls Try.prog 49 #[.int .u32 (nx : Int), .bool false] W fun e w' => e = .returned (.bool true) ∧ w' = W) := fun W => (leads_any W nx false hnx).mono fun e w' h => ⟨by rw [h.1, hld], h.2⟩
  clear hplen hpl hld hrs hrd h hb0
  go_enter Try.func44, Try.ntmps44
  go_wp2_with fail
  rw [← hW0]
  refine HR.out.mono ?_
  rintro e w1 ⟨v, S', A', OO', rfl, hf, hcp, hrd, hgo⟩
  obtain ⟨g, cap, rfl, hcl, hcm, hrow, hgl, hgb⟩ := made_shape hf.1 (by have := HPl.out; omega)
  have HF2 := hide (hf.2 g rfl)
  have HRow := hide hrow
  have HX1 := hide ((hgo.mv.block _ (lt_of_block HX0.out) (fun ho => by have := HOw.out _ ho; omega)).trans HX0.out)
  have HGo : Hid (Go1 OO w OO' w1) := (Go1.of_below HB0.out).trans hgo
  have HCp := hide hcp
  have HNo : Hid (¬ OO' w.heap.size) := fun ho => (hgo.own _ ho).elim (fun h => by have := HOw.out _ h; omega) (fun h => by have := lt_of_block HX0.out; omega)
  have HGg : Hid (w.heap.size < g) := by have h1 := (hf.2 g rfl).1; have h2 := lt_of_block HX0.out; show _ < _; omega
  have HRd := hide hrd
  have hcap4 : 4 < cap := by have := HPl.out; omega
  rw [HPl.out] at hcl ⊢
  have HGl := hide hgl
  subst hMe
  have q3 : (1004 : Int) < (left : Int) := by omega
  have q4 : decide ((left : Int) ≤ 1004) = false := by simp; omega
  have q5 : ¬ (left : Int) ≤ 1004 := by omega
  clear hf hcp hrd hgo hrow hgl hgb HR
  have hcap5 : ¬ cap = 4 := by omega
  have hcap6 : 4 ≤ cap := by omega
  go_wp2_with (first | (go_at_call 48; refine (getNumber_row (some ⟨g, 0, none⟩) 1008 cap nx part hnx (by omega) HRow.out).mono ?_; rintro e w2 ⟨rfl, hs2⟩; have HS2 := hide hs2; obtain ⟨x0, x1, x2, x3⟩ := cells_3 (by rw [hs2.heap]; exact HX1.out : w2.heap[w.heap.size]? = _); have f0 := x3 0; have f1 := x3 1; have f2 := x3 2; clear x3 hs2) | (go_at_call 49; refine (HLa.out _).mono ?_; rintro e w3 ⟨rfl, rfl⟩))
  have hf := set_three (u := .int .u32 (n : Int)) (v := .int .u32 (nx : Int)) (r := .slice (some ⟨g, 4, none⟩) 1004 (cap - 4)) (by rw [HS2.out.heap]; exact HX1.out : w3.heap[w.heap.size]? = _)
  obtain ⟨q0', q1', q2', -⟩ := cells_3 hf
  refine bodyPost_ret (v := .tuple #[.agg #[.int .u32 (n : Int), .int .u32 (nx : Int), .slice (some ⟨g, 4, none⟩) 1004 (cap - 4)], .int .u16 0]) ?_ rfl ?_
  · simp [results, Try.results44, go_sem, q0', q1', q2']
  · exact link_end HX1.out HS2.out HNo.out HGg.out HF2.out.2 HGl.out HRow.out HP.out (by omega) (by omega) hcm HGo.out HCp.out HRd.out
end Go.Proofs.Ytpcckaahfaobeaa
