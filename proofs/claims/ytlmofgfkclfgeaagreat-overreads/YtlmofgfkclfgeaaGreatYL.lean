/- A page of a chain is read, whatever it is. -/
import Derived.Test.YtlmofgfkclfgeaaGreatYA
import Derived.Test.YtlmofgfkclfgeaaGreatYB
import Derived.Test.YtlmofgfkclfgeaaGreatFQ
import Derived.Laws.BitsAllLaws
namespace Go.Proofs.YtlmofgfkclfgeaaGreat
open Go.RowKit Go.Maps
set_option linter.unusedVariables false
variable {w w' : World}
/-- four bytes as a number. -/
def g4 (a b c d : Nat) : Nat := a + 256 * b + 65536 * c + 16777216 * d
theorem or_add {k a b : Nat} (h : a < 2 ^ k) : a ||| (b * 2 ^ k) = a + b * 2 ^ k := by
  rw [Nat.or_comm, Nat.mul_comm, ← Nat.two_pow_add_eq_or_of_lt h, Nat.add_comm]
theorem or4 (b0 b1 b2 b3 : Nat) (h0 : b0 < 256) (h1 : b1 < 256) (h2 : b2 < 256) (h3 : b3 < 256) : bits BinOp.or IntKind.u32 (bits BinOp.or IntKind.u32 (bits BinOp.or IntKind.u32 (b0 : Int) ((b1 : Int) * 256)) ((b2 : Int) * 65536)) ((b3 : Int) * 16777216) = ((g4 b0 b1 b2 b3 : Nat) : Int) := by
  have e1 : ((b1 : Int) * 256) = ((b1 * 2 ^ 8 : Nat) : Int) := by omega
  have e2 : ((b2 : Int) * 65536) = ((b2 * 2 ^ 16 : Nat) : Int) := by omega
  have e3 : ((b3 : Int) * 16777216) = ((b3 * 2 ^ 24 : Nat) : Int) := by omega
  rw [e1, e2, e3, u32_or_nat _ _ (by omega) (by omega), or_add (by omega), u32_or_nat _ _ (by omega) (by omega), or_add (by omega), u32_or_nat _ _ (by omega) (by omega), or_add (by omega)]
  unfold g4
  omega
set_option maxHeartbeats 1600000 in
set_option maxRecDepth 1000000 in
theorem getNumber_any (w : World) (p o n c b0 b1 b2 b3 : Nat) (hn : 4 ≤ n) (h0 : b0 < 256) (h1 : b1 < 256) (h2 : b2 < 256) (h3 : b3 < 256)
    (c0 : w.cell? ⟨p, o, none⟩ = some (.int .u8 (b0 : Int))) (c1 : w.cell? ⟨p, o + 1, none⟩ = some (.int .u8 (b1 : Int))) (c2 : w.cell? ⟨p, o + 2, none⟩ = some (.int .u8 (b2 : Int))) (c3 : w.cell? ⟨p, o + 3, none⟩ = some (.int .u8 (b3 : Int))) :
    Calls Tryz.prog 67 #[.slice (some ⟨p, o, none⟩) n c] w fun e w' => e = .returned (.int .u32 ((g4 b0 b1 b2 b3 : Nat) : Int)) ∧ Same w w' := by
  have hor := or4 b0 b1 b2 b3 h0 h1 h2 h3
  go_enter Tryz.func67, Tryz.ntmps67
  go_wp2
  go_quiet (fail)
  go_wp2
  go_ret
  exact ⟨by rw [← hor]; rfl, (Same.refl w).drewN _⟩
theorem getNumber_row (a : Option Addr) (n c x : Nat) (R : List Int) (hx : x ≤ 4294967295) (hn : 4 ≤ n) (h : Row w a (le4 x ++ R)) :
    Calls Tryz.prog 67 #[.slice a n c] w fun e w' => e = .returned (.int .u32 (x : Int)) ∧ Same w w' := by
  rcases h with h | ⟨b, o, rfl, hlt, hc⟩
  · simp [le4] at h
  · have h4 : ∀ i v, (le4 x)[i]? = some v → w.cell? ⟨b, o + i, none⟩ = some (.int .u8 v) := fun i v hv => by
      obtain ⟨hi, e⟩ := List.getElem?_eq_some_iff.1 hv
      have := hc i (by rw [List.length_append]; omega)
      rw [this, List.getD_eq_getElem?_getD, List.getElem?_append_left hi, hv]; rfl
    have e : g4 (x % 256) (x / 256 % 256) (x / 65536 % 256) (x / 16777216) = x := by unfold g4; omega
    have k := getNumber_any w b o n c (x % 256) (x / 256 % 256) (x / 65536 % 256) (x / 16777216) hn (by omega) (by omega) (by omega) (by omega) (h4 0 _ rfl) (h4 1 _ rfl) (h4 2 _ rfl) (h4 3 _ rfl)
    rw [e] at k
    exact k
/-- what a page of a chain may lead to. -/
def leads (x : Nat) (l : Bool) : Bool := if l then decide (x = 0) else okp x
set_option maxHeartbeats 800000 in
theorem leads_any (w : World) (x : Nat) (l : Bool) (hx : x ≤ 4294967295) : Calls Tryz.prog 68 #[.int .u32 (x : Int), .bool l] w fun e w' => e = .returned (.bool (leads x l)) ∧ w' = w := by
  have HM := hide (mayNot_any w x hx)
  cases l with
  | true =>
    by_cases h0 : x = 0
    · subst h0
      go_enter Tryz.func68, Tryz.ntmps68
      go_wp2
      go_ret
      exact ⟨rfl, rfl⟩
    · have d : ((x : Int) == 0) = false := by simp; omega
      have HD : Hid (leads x true = false) := by simp [leads, Hid, h0]
      go_enter Tryz.func68, Tryz.ntmps68
      go_wp2
      go_ret
      exact ⟨by rw [HD.out]; rfl, rfl⟩
  | false =>
    have HD : Hid (leads x false = okp x) := by simp [leads, Hid]
    obtain ⟨b, hb⟩ : ∃ b, b = okp x := ⟨_, rfl⟩
    rw [← hb] at HD HM
    rw [HD.out]
    clear HD hb
    go_enter Tryz.func68, Tryz.ntmps68
    go_wp2_with (go_at_call 51; refine HM.out.mono ?_; rintro e w2 ⟨rfl, rfl⟩)
    go_ret
    exact ⟨by simp, rfl⟩
variable {p d q most : Nat} {S : DS} {A : List Pge} {OO : Nat → Prop}
/-- is a page that was read the one that a chain wants, with so much left? -/
def lkOk (R : RdT) (left : Nat) : Bool := decide (R.e = 0) && (decide (R.k = 3 ∧ R.pl.length = 4 + min 1004 left) && prtOk R.pl (decide (left ≤ 1004)))
def lkEr (R : RdT) : Nat := if R.e = 0 then 120 else R.e
/-- what a link that was read is told as. -/
structure Lnk (n : Nat) (R : RdT) (ok : Bool) (w' : World) (lo : Nat) (OO' : Nat → Prop) (v : Value) (er : Nat) : Prop where
  fine : ok = true → er = 0 ∧ ∃ g cap, v = .agg #[.int .u32 (n : Int), .int .u32 (nx4 R.pl : Int), .slice (some ⟨g, 4, none⟩) (R.pl.drop 4).length cap] ∧ Row w' (some ⟨g, 4, none⟩) (R.pl.drop 4) ∧ (R.pl.drop 4).length ≤ cap ∧ cap ≤ 9223372036854775807 ∧ lo ≤ g ∧ g < w'.heap.size ∧ ¬ OO' g
  bad : ok = false → er = lkEr R ∧ v = .agg #[.int .u32 0, .int .u32 0, .slice none 0 0]
def LinkO (n : Nat) (R : RdT) (ok : Bool) (p d q most : Nat) (OO : Nat → Prop) (w : World) (e : Ending) (w' : World) : Prop :=
  ∃ (v : Value) (er : Nat) (OO' : Nat → Prop), e = .returned (.tuple #[v, .int .u16 (er : Int)]) ∧ Lnk n R ok w' w.heap.size OO' v er ∧ Pl w' p d q R.S most R.A OO' ∧ Go1 OO w OO' w'
theorem cells_3 {w : World} {b t : Nat} {x y z : Value} (h : w.heap[b]? = some (.cells #[x, y, z] t (0, 0))) : w.cell? ⟨b, 0, none⟩ = some x ∧ w.cell? ⟨b, 1, none⟩ = some y ∧ w.cell? ⟨b, 2, none⟩ = some z ∧ ∀ j, w.frozen? ⟨b, j, none⟩ = false := by
  refine ⟨?_, ?_, ?_, fun j => ?_⟩ <;> simp [World.cell?, World.frozen?, h]
theorem set_three {w : World} {b t : Nat} {x y z u v r : Value} (h : w.heap[b]? = some (.cells #[x, y, z] t (0, 0))) : (((w.setCell ⟨b, 0, none⟩ u).setCell ⟨b, 1, none⟩ v).setCell ⟨b, 2, none⟩ r).heap[b]? = some (.cells #[u, v, r] t (0, 0)) := by
  rw [heap_setCell_same _ b 2 _ t r (heap_setCell_same _ b 1 _ t v (heap_setCell_same w b 0 _ t u h))]
  rfl
theorem mv_three (w : World) (b : Nat) (u v r : Value) : Mv (fun k => k = b) w (((w.setCell ⟨b, 0, none⟩ u).setCell ⟨b, 1, none⟩ v).setCell ⟨b, 2, none⟩ r) := (((Mv.refl (fun k => k = b) w).setB (b := b) rfl 0 u).setB (b := b) rfl 1 v).setB (b := b) rfl 2 r

theorem nx4_le (pl : List Int) (h : 4 ≤ pl.length) (hb : Byts pl) : pl = le4 (nx4 pl) ++ pl.drop 4 ∧ nx4 pl ≤ 4294967295 := by
  obtain ⟨a, b, c, d, r, rfl⟩ : ∃ a b c d r, pl = a :: b :: c :: d :: r := by
    match pl, h with
    | a :: b :: c :: d :: r, _ => exact ⟨a, b, c, d, r, rfl⟩
  have ha := hb a (by simp)
  have hb1 := hb b (by simp)
  have hc := hb c (by simp)
  have hd := hb d (by simp)
  obtain ⟨a, rfl⟩ := Int.eq_ofNat_of_zero_le ha.1
  obtain ⟨b, rfl⟩ := Int.eq_ofNat_of_zero_le hb1.1
  obtain ⟨c, rfl⟩ := Int.eq_ofNat_of_zero_le hc.1
  obtain ⟨d, rfl⟩ := Int.eq_ofNat_of_zero_le hd.1
  have e : nx4 ((a : Int) :: (b : Int) :: (c : Int) :: (d : Int) :: r) = a + 256 * b + 65536 * c + 16777216 * d := by unfold nx4; simp
  rw [e]
  refine ⟨?_, by omega⟩
  simp only [le4, List.drop, List.cons_append, List.nil_append]
  refine List.cons_eq_cons.2 ⟨by omega, List.cons_eq_cons.2 ⟨by omega, List.cons_eq_cons.2 ⟨by omega, List.cons_eq_cons.2 ⟨by omega, rfl⟩⟩⟩⟩
theorem leads_prt (pl : List Int) (l : Bool) : leads (nx4 pl) l = prtOk pl l := by
  unfold leads prtOk okp
  cases l <;> simp
theorem pl_rdo {p d q most : Nat} {S : DS} {A : List Pge} {OO : Nat → Prop} (h : Pl w p d q S most A OO) (N : Nat) : (rdo most S A N).pl.length ≤ 1008 ∧ Byts (rdo most S A N).pl := by
  have nil8 : (([] : List Int).length ≤ 1008 ∧ Byts []) := ⟨by simp, by intro c hc; simp at hc⟩
  obtain ⟨O, e, m, L, el, yo, h1, rfl, h3⟩ := h
  by_cases hr : N < S.ls.length / 8
  · by_cases hx : N ∈ (L.map Sh.pg).map Pge.n
    · obtain ⟨x, hxA, rfl, e⟩ := rdo_hand (most := most) (S := S) hr hx
      rw [e]
      obtain ⟨z, hz, rfl⟩ := List.mem_map.1 hxA
      exact (h1.hd.pay z hz).2
    · rw [rdo_none hr hx]
      by_cases he : S.er S.s1 S.l1 = 0
      · rw [if_pos he]
        have HBy : Byts (rd S (8 * N) 8) := rd_byts h1.good (8 * N) 8 (by omega)
        cases hR : Pg.opn N (rd S (8 * N) 8) with
        | none => exact nil8
        | some kp =>
          obtain ⟨k, pl⟩ := kp
          obtain ⟨q1, q2, q3, q4⟩ := Pg.opn_some hR
          refine ⟨q3, ?_⟩
          have h2 := Pg.pg_payload k N pl
          rw [← q4] at h2
          show Byts pl
          rw [← h2]
          exact (HBy.drop _).take _
      · rw [if_neg he]; exact nil8
  · rw [rdo_off hr]; exact nil8
theorem zero_end {w w1 w3 : World} {n er : Nat} {R : RdT} {p d q most : Nat} {OO OO' : Nat → Prop} {b : Nat} (hb : b = w.heap.size) (hs : Same w1 w3) (hno : ¬ OO' b) (hgo : Go1 OO w OO' w1) (hpl : Pl w1 p d q R.S most R.A OO') (he : er = lkEr R) {u v r : Value} :
    LinkO n R false p d q most OO w (.returned (.tuple #[.agg #[.int .u32 0, .int .u32 0, .slice none 0 0], .int .u16 (er : Int)])) (((w3.setCell ⟨b, 0, none⟩ u).setCell ⟨b, 1, none⟩ v).setCell ⟨b, 2, none⟩ r) := by
  subst hb
  have hm : Mv (fun k => k = w.heap.size) w1 (((w3.setCell ⟨w.heap.size, 0, none⟩ u).setCell ⟨w.heap.size, 1, none⟩ v).setCell ⟨w.heap.size, 2, none⟩ r) := Mv.trans' hs.mv (mv_three _ _ _ _ _)
  exact ⟨_, er, OO', rfl, ⟨(fun h => by cases h), fun _ => ⟨he, rfl⟩⟩, hpl.other hm (fun k hk e => hno (e ▸ hk)), ⟨⟨hm.os.trans hgo.mv.os, hm.tape.trans hgo.mv.tape, hm.output.trans hgo.mv.output, Nat.le_trans hgo.mv.size hm.size, fun k hk ho => (hm.block k (Nat.lt_of_lt_of_le hk hgo.mv.size) (by omega)).trans (hgo.mv.block k hk ho)⟩, hgo.own⟩⟩
theorem fine_end {w w1 w3 : World} {n nx g cap : Nat} {R : RdT} {part : List Int} {p d q most : Nat} {OO OO' : Nat → Prop} (hs : Same w1 w3) (hno : ¬ OO' w.heap.size) (hg : w.heap.size < g) (hgo' : ¬ OO' g) (hgl : g < w1.heap.size)
    (hrow : Row w1 (some ⟨g, 0, none⟩) (le4 nx ++ part)) {M : Nat} (hP : part.length = M) (hM : 1 ≤ M) (hcl : M + 4 ≤ cap) (hcm : cap ≤ 9223372036854775807) (hgo : Go1 OO w OO' w1) (hpl : Pl w1 p d q R.S most R.A OO') (hnx : nx = nx4 R.pl) (hpt : part = R.pl.drop 4) :
    LinkO n R true p d q most OO w (.returned (.tuple #[.agg #[.int .u32 (n : Int), .int .u32 (nx : Int), .slice (some ⟨g, 4, none⟩) M (cap - 4)], .int .u16 0])) (((w3.setCell ⟨w.heap.size, 0, none⟩ (.int .u32 (n : Int))).setCell ⟨w.heap.size, 1, none⟩ (.int .u32 (nx : Int))).setCell ⟨w.heap.size, 2, none⟩ (.slice (some ⟨g, 4, none⟩) M (cap - 4))) := by
  have hm : Mv (fun k => k = w.heap.size) w1 (((w3.setCell ⟨w.heap.size, 0, none⟩ (.int .u32 (n : Int))).setCell ⟨w.heap.size, 1, none⟩ (.int .u32 (nx : Int))).setCell ⟨w.heap.size, 2, none⟩ (.slice (some ⟨g, 4, none⟩) M (cap - 4))) := Mv.trans' hs.mv (mv_three _ _ _ _ _)
  have hr4 : Row w1 (some ⟨g, 4, none⟩) part := by
    have h := Row.cut hrow 4 cap (by rw [List.length_append, le4_len]; omega)
    rw [if_neg (by omega)] at h
    simpa [le4, Addr.add] using h
  refine ⟨_, 0, OO', rfl, ⟨fun _ => ⟨rfl, g, cap - 4, ?_, ?_, ?_, by omega, by omega, Nat.lt_of_lt_of_le hgl hm.size, hgo'⟩, (fun h => by cases h)⟩, hpl.other hm (fun k hk e => hno (e ▸ hk)), ⟨⟨hm.os.trans hgo.mv.os, hm.tape.trans hgo.mv.tape, hm.output.trans hgo.mv.output, Nat.le_trans hgo.mv.size hm.size, fun k hk ho => (hm.block k (Nat.lt_of_lt_of_le hk hgo.mv.size) (by omega)).trans (hgo.mv.block k hk ho)⟩, hgo.own⟩⟩
  · rw [hnx, ← hpt, hP]
  · rw [← hpt]; exact hm.row hr4 (by omega)
  · rw [← hpt, hP]; omega
set_option maxHeartbeats 3200000 in
set_option maxRecDepth 1000000 in
theorem readLink_er (h : Pl w p d q S most A OO) (hc : S.n1 + 1 ≤ 1000000) (n left : Nat) (hn : n < 4294967296) (h1 : 1 ≤ left) (h2 : left ≤ 8192) (R : RdT) (hR : rdo most S A n = R) (he : R.e ≠ 0) :
    Calls Tryz.prog 56 #[.pointer (some ⟨p, 0, none⟩), .int .u32 (n : Int), .int .i64 (left : Int)] w fun e w' => LinkO n R false p d q most OO w e w' := by
  obtain ⟨W0, hW0⟩ : ∃ W, W = w.alloc (.cells #[.int .u32 0, .int .u32 0, .slice none 0 0] 114) := ⟨_, rfl⟩
  have hb0 : Below w.heap.size w W0 := by rw [hW0]; exact below_alloc w _
  have HX0 : Hid (W0.heap[w.heap.size]? = some (.cells #[.int .u32 0, .int .u32 0, .slice none 0 0] 114 (0, 0))) := by rw [hW0]; exact heap_alloc_new w _
  have HR := hide (p_rdo n hn (h.below hb0) hc)
  have HPB := hide (pl_rdo h n)
  have HOw : Hid (∀ k, OO k → k < w.heap.size) := fun k hk => h.lt k hk
  have HB0 := hide hb0
  rw [hR] at HR HPB
  obtain ⟨er, HEr⟩ : ∃ er, Hid (er = R.e) := ⟨_, rfl⟩
  have hEk : er = lkEr R := by unfold lkEr; rw [if_neg he]; exact HEr.out
  have HEk := hide hEk
  have e1 : ((er : Int) != 0) = true := by rw [HEr.out]; simp; omega
  rw [← HEr.out] at HR
  clear h hb0 hEk he hR hc
  go_enter Tryz.func56, Tryz.ntmps56
  go_wp2_with fail
  rw [← hW0]
  refine HR.out.mono ?_
  rintro e w1 ⟨a, l, c, OO', rfl, hf, hpl, hgo⟩
  have HX1 := hide ((hgo.mv.block _ (lt_of_block HX0.out) (fun ho => by have := HOw.out _ ho; omega)).trans HX0.out)
  have HGo : Hid (Go1 OO w OO' w1) := (Go1.of_below HB0.out).trans hgo
  have HPl := hide hpl
  have HNo : Hid (¬ OO' w.heap.size) := fun ho => (hgo.own _ ho).elim (fun h => by have := HOw.out _ h; omega) (fun h => by have := lt_of_block HX0.out; omega)
  have HF := hide hf
  clear hf hpl hgo HR
  obtain ⟨x0, x1, x2, x3⟩ := cells_3 HX1.out
  have f0 := x3 0
  have f1 := x3 1
  have f2 := x3 2
  clear x3
  go_wp2
  have hf := set_three (u := .int .u32 0) (v := .int .u32 0) (r := .slice none 0 0) HX1.out
  obtain ⟨q0', q1', q2', -⟩ := cells_3 hf
  refine bodyPost_ret (v := .tuple #[.agg #[.int .u32 0, .int .u32 0, .slice none 0 0], .int .u16 (er : Int)]) ?_ rfl ?_
  · simp [results, Tryz.results56, go_sem, q0', q1', q2']
  · exact zero_end rfl (Same.refl _) HNo.out HGo.out HPl.out HEk.out
set_option maxHeartbeats 3200000 in
set_option maxRecDepth 1000000 in
theorem readLink_form (h : Pl w p d q S most A OO) (hc : S.n1 + 1 ≤ 1000000) (n left : Nat) (hn : n < 4294967296) (h1 : 1 ≤ left) (h2 : left ≤ 8192) (R : RdT) (hR : rdo most S A n = R) (he : R.e = 0) (M : Nat) (hM : M = min 1004 left) (hform : ¬ (R.k = 3 ∧ R.pl.length = 4 + M)) :
    Calls Tryz.prog 56 #[.pointer (some ⟨p, 0, none⟩), .int .u32 (n : Int), .int .i64 (left : Int)] w fun e w' => LinkO n R false p d q most OO w e w' := by
  obtain ⟨W0, hW0⟩ : ∃ W, W = w.alloc (.cells #[.int .u32 0, .int .u32 0, .slice none 0 0] 114) := ⟨_, rfl⟩
  have hb0 : Below w.heap.size w W0 := by rw [hW0]; exact below_alloc w _
  have HX0 : Hid (W0.heap[w.heap.size]? = some (.cells #[.int .u32 0, .int .u32 0, .slice none 0 0] 114 (0, 0))) := by rw [hW0]; exact heap_alloc_new w _
  have HR := hide (p_rdo n hn (h.below hb0) hc)
  have HPB := hide (pl_rdo h n)
  have HOw : Hid (∀ k, OO k → k < w.heap.size) := fun k hk => h.lt k hk
  have HB0 := hide hb0
  rw [hR] at HR HPB
  have HEk : Hid (120 = lkEr R) := by rw [Hid]; unfold lkEr; rw [if_pos he]
  rw [he] at HR
  clear h hb0 he hR hc
  go_enter Tryz.func56, Tryz.ntmps56
  go_wp2_with fail
  rw [← hW0]
  refine HR.out.mono ?_
  rintro e w1 ⟨a, l, c, OO', rfl, hf, hpl, hgo⟩
  have HX1 := hide ((hgo.mv.block _ (lt_of_block HX0.out) (fun ho => by have := HOw.out _ ho; omega)).trans HX0.out)
  have HGo : Hid (Go1 OO w OO' w1) := (Go1.of_below HB0.out).trans hgo
  have HPl := hide hpl
  have HNo : Hid (¬ OO' w.heap.size) := fun ho => (hgo.own _ ho).elim (fun h => by have := HOw.out _ h; omega) (fun h => by have := lt_of_block HX0.out; omega)
  have HF := hide hf
  clear hf hpl hgo HR
  obtain ⟨x0, x1, x2, x3⟩ := cells_3 HX1.out
  have f0 := x3 0
  have f1 := x3 1
  have f2 := x3 2
  clear x3
  obtain ⟨L, HL⟩ : ∃ L, Hid (L = R.pl.length) := ⟨_, rfl⟩
  have hl : l = R.pl.length := by
    obtain ⟨a', c', hv, -⟩ := HF.out.1.shape
    cases hv
    rfl
  rw [← HL.out] at hl hform
  subst hl
  have HF2 := hide hform
  clear HF
  by_cases hk : R.k = 3
  · have hk1 : (R.k : Int) = 3 := by omega
    have hl2 : l ≠ 4 + M := fun e => hform ⟨hk, e⟩
    by_cases hle : left ≤ 1004
    · have q3 : ¬ (1004 : Int) < (left : Int) := by omega
      have q4 : IntKind.i64.wrap (4 + (left : Int)) = 4 + (left : Int) := by rw [IntKind.wrap_i64]; omega
      have q5 : ((l : Int) != 4 + (left : Int)) = true := by simp; omega
      rw [hk1]
      clear hk hk1 hl2 hle hform hM
      go_wp2
      have hf := set_three (u := .int .u32 0) (v := .int .u32 0) (r := .slice none 0 0) HX1.out
      obtain ⟨q0', q1', q2', -⟩ := cells_3 hf
      refine bodyPost_ret (v := .tuple #[.agg #[.int .u32 0, .int .u32 0, .slice none 0 0], .int .u16 120]) ?_ rfl ?_
      · simp [results, Tryz.results56, go_sem, q0', q1', q2']
      · exact zero_end rfl (Same.refl _) HNo.out HGo.out HPl.out HEk.out
    · have q3 : (1004 : Int) < (left : Int) := by omega
      have q5 : ((l : Int) != 1008) = true := by simp; omega
      rw [hk1]
      clear hk hk1 hl2 hle hform hM
      go_wp2
      have hf := set_three (u := .int .u32 0) (v := .int .u32 0) (r := .slice none 0 0) HX1.out
      obtain ⟨q0', q1', q2', -⟩ := cells_3 hf
      refine bodyPost_ret (v := .tuple #[.agg #[.int .u32 0, .int .u32 0, .slice none 0 0], .int .u16 120]) ?_ rfl ?_
      · simp [results, Tryz.results56, go_sem, q0', q1', q2']
      · exact zero_end rfl (Same.refl _) HNo.out HGo.out HPl.out HEk.out
  · have q5 : ((R.k : Int) != 3) = true := by simp; omega
    clear hk hform hM
    go_wp2
    have hf := set_three (u := .int .u32 0) (v := .int .u32 0) (r := .slice none 0 0) HX1.out
    obtain ⟨q0', q1', q2', -⟩ := cells_3 hf
    refine bodyPost_ret (v := .tuple #[.agg #[.int .u32 0, .int .u32 0, .slice none 0 0], .int .u16 120]) ?_ rfl ?_
    · simp [results, Tryz.results56, go_sem, q0', q1', q2']
    · exact zero_end rfl (Same.refl _) HNo.out HGo.out HPl.out HEk.out
set_option maxHeartbeats 3200000 in
set_option maxRecDepth 1000000 in
theorem readLink_lead (h : Pl w p d q S most A OO) (hc : S.n1 + 1 ≤ 1000000) (n left : Nat) (hn : n < 4294967296) (h1 : 1 ≤ left) (h2 : left ≤ 8192) (R : RdT) (hR : rdo most S A n = R) (he : R.e = 0) (M : Nat) (hM : M = min 1004 left) (hk : R.k = 3) (hln : R.pl.length = 4 + M) (ok : Bool) (hok : prtOk R.pl (decide (left ≤ 1004)) = ok) :
    Calls Tryz.prog 56 #[.pointer (some ⟨p, 0, none⟩), .int .u32 (n : Int), .int .i64 (left : Int)] w fun e w' => LinkO n R ok p d q most OO w e w' := by
  obtain ⟨W0, hW0⟩ : ∃ W, W = w.alloc (.cells #[.int .u32 0, .int .u32 0, .slice none 0 0] 114) := ⟨_, rfl⟩
  have hb0 : Below w.heap.size w W0 := by rw [hW0]; exact below_alloc w _
  have HX0 : Hid (W0.heap[w.heap.size]? = some (.cells #[.int .u32 0, .int .u32 0, .slice none 0 0] 114 (0, 0))) := by rw [hW0]; exact heap_alloc_new w _
  have HR := hide (p_rdo n hn (h.below hb0) hc)
  have HPB := hide (pl_rdo h n)
  have HOw : Hid (∀ k, OO k → k < w.heap.size) := fun k hk => h.lt k hk
  have HB0 := hide hb0
  rw [hR] at HR HPB
  have HEk : Hid (120 = lkEr R) := by rw [Hid]; unfold lkEr; rw [if_pos he]
  rw [he, hk] at HR
  obtain ⟨nx, HNx⟩ : ∃ nx, Hid (nx = nx4 R.pl) := ⟨_, rfl⟩
  obtain ⟨part, HPt⟩ : ∃ part, Hid (part = R.pl.drop 4) := ⟨_, rfl⟩
  obtain ⟨hpl, hnx⟩ := nx4_le R.pl (by omega) HPB.out.2
  rw [← HNx.out] at hnx
  rw [← HNx.out, ← HPt.out] at hpl
  have hP : part.length = M := by have h := congrArg List.length hpl; rw [List.length_append, le4_len] at h; omega
  have HPL := hide hpl
  have HP := hide hP
  have hld := leads_prt R.pl (decide (left ≤ 1004))
  rw [hok, ← HNx.out] at hld
  have HLa : Hid (∀ W, Calls Tryz.prog 68 #[.int .u32 (nx : Int), .bool (decide (left ≤ 1004))] W fun e w' => e = .returned (.bool ok) ∧ w' = W) := fun W => (leads_any W nx _ hnx).mono fun e w' h => ⟨by rw [h.1, hld], h.2⟩
  have HM := hide hM
  have HLn := hide hln
  have hM1 : 1 ≤ M ∧ M ≤ 1004 := by omega
  clear h hb0 he hR hc hk hok hpl hP hld hln hM
  go_enter Tryz.func56, Tryz.ntmps56
  go_wp2_with fail
  rw [← hW0]
  refine HR.out.mono ?_
  rintro e w1 ⟨a, l, c, OO', rfl, hf, hpl, hgo⟩
  have HX1 := hide ((hgo.mv.block _ (lt_of_block HX0.out) (fun ho => by have := HOw.out _ ho; omega)).trans HX0.out)
  have HGo : Hid (Go1 OO w OO' w1) := (Go1.of_below HB0.out).trans hgo
  have HPl := hide hpl
  have HNo : Hid (¬ OO' w.heap.size) := fun ho => (hgo.own _ ho).elim (fun h => by have := HOw.out _ h; omega) (fun h => by have := lt_of_block HX0.out; omega)
  have HF := hide hf
  clear hf hpl hgo HR
  obtain ⟨x0, x1, x2, x3⟩ := cells_3 HX1.out
  have f0 := x3 0
  have f1 := x3 1
  have f2 := x3 2
  clear x3
  obtain ⟨g, cap, hv, hcl, hcm, hrow, hgl, hgb⟩ := made_shape HF.out.1 (by have := HLn.out; omega)
  cases hv
  have HF2 := hide (HF.out.2 g rfl)
  rw [HPL.out] at hrow
  have HRow := hide hrow
  have HGg : Hid (w.heap.size < g) := by have h1 := (HF2.out).1; have h2 := lt_of_block HX0.out; show _ < _; omega
  have HGl := hide hgl
  have hcap4 : 4 < c := by have := HLn.out; omega
  have hcap5 : ¬ c = 4 := by omega
  have hcap6 : 4 ≤ c := by omega
  have HCap : Hid (M + 4 ≤ c ∧ c ≤ 9223372036854775807) := by have := HLn.out; exact ⟨by omega, hcm⟩
  obtain ⟨l, hl⟩ : ∃ l, l = R.pl.length := ⟨_, rfl⟩
  have HLn' : Hid (l = 4 + M) := by rw [Hid, hl]; exact HLn.out
  rw [← hl] at hcl ⊢
  clear hl hrow hgl hgb HF hcm
  have hl4 : 4 ≤ l := by have := HLn'.out; omega
  by_cases hle : left ≤ 1004
  · have q3 : ¬ (1004 : Int) < (left : Int) := by omega
    have q4 : IntKind.i64.wrap (4 + (left : Int)) = 4 + (left : Int) := by rw [IntKind.wrap_i64]; omega
    have q5 : ((l : Int) != 4 + (left : Int)) = false := by have h1 := HLn'.out; have h2 := HM.out; simp; omega
    have q6 : decide ((left : Int) ≤ 1004) = true := by simp; omega
    have q7 : (left : Int) ≤ 1004 := by omega
    rw [decide_eq_true hle] at HLa
    clear hle
    have q8 : l - 4 = M := by have := HLn'.out; omega
    cases ok with
    | true =>
      go_wp2_with (first | (go_at_call 67; refine (getNumber_row (some ⟨g, 0, none⟩) l c nx part hnx (by omega) HRow.out).mono ?_; rintro e w2 ⟨rfl, hs2⟩; have HS2 := hide hs2; obtain ⟨x0, x1, x2, x3⟩ := cells_3 (by rw [hs2.heap]; exact HX1.out : w2.heap[w.heap.size]? = _); have f0 := x3 0; have f1 := x3 1; have f2 := x3 2; clear x3 hs2) | (go_at_call 68; refine (HLa.out _).mono ?_; rintro e w3 ⟨rfl, rfl⟩))
      have hf := set_three (u := .int .u32 (n : Int)) (v := .int .u32 (nx : Int)) (r := .slice (some ⟨g, 4, none⟩) M (c - 4)) (by rw [HS2.out.heap]; exact HX1.out : w3.heap[w.heap.size]? = _)
      obtain ⟨q0', q1', q2', -⟩ := cells_3 hf
      refine bodyPost_ret (v := .tuple #[.agg #[.int .u32 (n : Int), .int .u32 (nx : Int), .slice (some ⟨g, 4, none⟩) M (c - 4)], .int .u16 0]) ?_ rfl ?_
      · simp [results, Tryz.results56, go_sem, q0', q1', q2']
      · exact fine_end HS2.out HNo.out HGg.out HF2.out.2 HGl.out HRow.out HP.out hM1.1 HCap.out.1 HCap.out.2 HGo.out HPl.out HNx.out HPt.out
    | false =>
      go_wp2_with (first | (go_at_call 67; refine (getNumber_row (some ⟨g, 0, none⟩) l c nx part hnx (by omega) HRow.out).mono ?_; rintro e w2 ⟨rfl, hs2⟩; have HS2 := hide hs2; obtain ⟨x0, x1, x2, x3⟩ := cells_3 (by rw [hs2.heap]; exact HX1.out : w2.heap[w.heap.size]? = _); have f0 := x3 0; have f1 := x3 1; have f2 := x3 2; clear x3 hs2) | (go_at_call 68; refine (HLa.out _).mono ?_; rintro e w3 ⟨rfl, rfl⟩))
      have hf := set_three (u := .int .u32 0) (v := .int .u32 0) (r := .slice none 0 0) (by rw [HS2.out.heap]; exact HX1.out : w3.heap[w.heap.size]? = _)
      obtain ⟨q0', q1', q2', -⟩ := cells_3 hf
      refine bodyPost_ret (v := .tuple #[.agg #[.int .u32 0, .int .u32 0, .slice none 0 0], .int .u16 120]) ?_ rfl ?_
      · simp [results, Tryz.results56, go_sem, q0', q1', q2']
      · exact zero_end (er := 120) rfl HS2.out HNo.out HGo.out HPl.out HEk.out
  · have q3 : (1004 : Int) < (left : Int) := by omega
    have q5 : ((l : Int) != 1008) = false := by have h1 := HLn'.out; have h2 := HM.out; simp; omega
    have q6 : decide ((left : Int) ≤ 1004) = false := by simp; omega
    have q7 : ¬ (left : Int) ≤ 1004 := by omega
    rw [decide_eq_false hle] at HLa
    clear hle
    have q8 : l - 4 = M := by have := HLn'.out; omega
    cases ok with
    | true =>
      go_wp2_with (first | (go_at_call 67; refine (getNumber_row (some ⟨g, 0, none⟩) l c nx part hnx (by omega) HRow.out).mono ?_; rintro e w2 ⟨rfl, hs2⟩; have HS2 := hide hs2; obtain ⟨x0, x1, x2, x3⟩ := cells_3 (by rw [hs2.heap]; exact HX1.out : w2.heap[w.heap.size]? = _); have f0 := x3 0; have f1 := x3 1; have f2 := x3 2; clear x3 hs2) | (go_at_call 68; refine (HLa.out _).mono ?_; rintro e w3 ⟨rfl, rfl⟩))
      have hf := set_three (u := .int .u32 (n : Int)) (v := .int .u32 (nx : Int)) (r := .slice (some ⟨g, 4, none⟩) M (c - 4)) (by rw [HS2.out.heap]; exact HX1.out : w3.heap[w.heap.size]? = _)
      obtain ⟨q0', q1', q2', -⟩ := cells_3 hf
      refine bodyPost_ret (v := .tuple #[.agg #[.int .u32 (n : Int), .int .u32 (nx : Int), .slice (some ⟨g, 4, none⟩) M (c - 4)], .int .u16 0]) ?_ rfl ?_
      · simp [results, Tryz.results56, go_sem, q0', q1', q2']
      · exact fine_end HS2.out HNo.out HGg.out HF2.out.2 HGl.out HRow.out HP.out hM1.1 HCap.out.1 HCap.out.2 HGo.out HPl.out HNx.out HPt.out
    | false =>
      go_wp2_with (first | (go_at_call 67; refine (getNumber_row (some ⟨g, 0, none⟩) l c nx part hnx (by omega) HRow.out).mono ?_; rintro e w2 ⟨rfl, hs2⟩; have HS2 := hide hs2; obtain ⟨x0, x1, x2, x3⟩ := cells_3 (by rw [hs2.heap]; exact HX1.out : w2.heap[w.heap.size]? = _); have f0 := x3 0; have f1 := x3 1; have f2 := x3 2; clear x3 hs2) | (go_at_call 68; refine (HLa.out _).mono ?_; rintro e w3 ⟨rfl, rfl⟩))
      have hf := set_three (u := .int .u32 0) (v := .int .u32 0) (r := .slice none 0 0) (by rw [HS2.out.heap]; exact HX1.out : w3.heap[w.heap.size]? = _)
      obtain ⟨q0', q1', q2', -⟩ := cells_3 hf
      refine bodyPost_ret (v := .tuple #[.agg #[.int .u32 0, .int .u32 0, .slice none 0 0], .int .u16 120]) ?_ rfl ?_
      · simp [results, Tryz.results56, go_sem, q0', q1', q2']
      · exact zero_end (er := 120) rfl HS2.out HNo.out HGo.out HPl.out HEk.out
theorem readLink_any (h : Pl w p d q S most A OO) (hc : S.n1 + 1 ≤ 1000000) (n left : Nat) (hn : n < 4294967296) (h1 : 1 ≤ left) (h2 : left ≤ 8192) (R : RdT) (hR : rdo most S A n = R) (ok : Bool) (hok : lkOk R left = ok) :
    Calls Tryz.prog 56 #[.pointer (some ⟨p, 0, none⟩), .int .u32 (n : Int), .int .i64 (left : Int)] w fun e w' => LinkO n R ok p d q most OO w e w' := by
  unfold lkOk at hok
  by_cases he : R.e = 0
  · rw [decide_eq_true he, Bool.true_and] at hok
    by_cases hf : R.k = 3 ∧ R.pl.length = 4 + min 1004 left
    · rw [decide_eq_true hf, Bool.true_and] at hok
      exact readLink_lead h hc n left hn h1 h2 R hR he _ rfl hf.1 hf.2 ok hok
    · rw [decide_eq_false hf, Bool.false_and] at hok
      subst hok
      exact readLink_form h hc n left hn h1 h2 R hR he _ rfl hf
  · rw [decide_eq_false he, Bool.false_and] at hok
    subst hok
    exact readLink_er h hc n left hn h1 h2 R hR he
end Go.Proofs.YtlmofgfkclfgeaaGreat
