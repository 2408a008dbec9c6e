/- Next and Prev of the package. -/
import Derived.Test.YtfcebpenjdhgbaaPI
namespace Go.Proofs.Ytfcebpenjdhgbaa
open Go.RowKit Go.Maps
set_option linter.unusedVariables false

theorem run_equalIn_func {P : Program} (w : World) (d : Nat) (t : TypeId) (f : Fn) (a b : Array Value) (x : _) (y : _) (z : _) (h : P.underlying t = some (.func x y z)) : (Op.equalIn (d + 1) t (.func f a b) .nilFunc).run P w = .ok false w := by
  simp [Op.equalIn, run_underlying h]
theorem run_equal_func {P : Program} (w : World) (t : TypeId) (f : Fn) (a b : Array Value) (x : _) (y : _) (z : _) (h : P.underlying t = some (.func x y z)) : (Op.equal t (.func f a b) .nilFunc).run P w = .ok false w := run_equalIn_func w 9999 t f a b x y z h
set_option maxHeartbeats 1600000 in
set_option maxRecDepth 1000000 in
theorem newView_any (p : Nat) (bl wf : Value) (st : Int) (w : World) (hbl : ∃ f a b, bl = .func f a b) (hwf : ∃ f a b, wf = .func f a b) : Calls Try.prog 27 #[.pointer (some ⟨p, 0, none⟩), bl, .agg #[wf, .int .i64 st]] w fun e w' => e = .returned (.agg #[.pointer (some ⟨p, 0, none⟩), bl, wf, .int .i64 st]) ∧ Below w.heap.size w w' := by
  obtain ⟨f1, a1, b1, rfl⟩ := hbl
  obtain ⟨f2, a2, b2, rfl⟩ := hwf
  have hB := two_alloc (w := w) (.cells #[.func f2 a2 b2, .int .i64 st] 64) (.cells #[.pointer none, .nilFunc, .nilFunc, .int .i64 0] 66)
  have HB := hide hB
  have hq : ∀ W : World, (binOp .eql 45 (.func f1 a1 b1) .nilFunc).run Try.prog W = .ok (.bool false) W := fun W => by
    simp only [binOp]
    simp [run_equal_func W 45 f1 a1 b1 _ _ _ Try.underlying45]
  have hv := (Below.heap_alloc (w.alloc (.cells #[.func f2 a2 b2, .int .i64 st] 64)) (.cells #[.pointer none, .nilFunc, .nilFunc, .int .i64 0] 66) _ (by simp : w.heap.size < _)).trans (heap_alloc_new w (.cells #[.func f2 a2 b2, .int .i64 st] 64))
  obtain ⟨y0, y1, yf⟩ := cells_two hv
  clear hB hv
  go_enter Try.func27, Try.ntmps27
  go_wp2
  refine bodyPost_ret (v := .agg #[.pointer (some ⟨p, 0, none⟩), .func f1 a1 b1, .func f2 a2 b2, .int .i64 st]) ?_ rfl ?_
  · simp [results, Try.results27, go_sem]
  · exact ⟨rfl, two_alloc _ _⟩
set_option maxHeartbeats 800000 in
theorem rise_any (w : World) : Calls Try.prog 28 #[] w fun e w' => e = .returned (.agg #[.func (.func 38) #[] #[], .int .i64 1]) ∧ Below w.heap.size w w' := by
  go_enter Try.func28, Try.ntmps28
  go_wp2
  refine bodyPost_ret (v := .agg #[.func (.func 38) #[] #[], .int .i64 1]) ?_ rfl ?_
  · simp [results, Try.results28, go_sem]
  · exact ⟨rfl, below_alloc _ _⟩
set_option maxHeartbeats 3200000 in
set_option maxRecDepth 1000000 in
theorem seenU_any {w : World} {p B q n c k0 : Nat} {a : Option Addr} {sv uv : Value} {xs us : List En} {vs : List Value} (h : Bf w p B sv uv xs vs) (hr : Ris (ers xs)) (hb : Bl w q a n c us k0) (hwr : k0 ≤ 10000000) (fa : Option Addr) (fn fc : Nat) (frm : List Int) (inn : Bool) (hf : Inn w fa fn fc frm) (hfl : fn ≤ 140737488351232) (hn : n ≤ 1000000) (hxn : xs.length ≤ 900000) (hw : ∀ x ∈ xs, x.e.key.length ≤ 140737488351232 ∧ x.e.val.length ≤ 140737488351232) (hus : ∀ x ∈ us, x.e.key.length ≤ 140737488351232 ∧ x.e.val.length ≤ 140737488351232) (R : Option Ee × Nat × Nat) (hR : R = firstU (ers xs) (ers us) k0 frm inn) :
    Calls Try.prog 13 #[.pointer (some ⟨p, 0, none⟩), .func (.func 14) #[.pointer (some ⟨q, 0, none⟩)] #[], .slice fa fn fc, .bool inn] w (FirstOut w q a n c us R) := by
  have hB1 := below_alloc w (.cells #[.slice none 0 0, .slice none 0 0] 40)
  have hz1 := heap_alloc_new w (.cells #[.slice none 0 0, .slice none 0 0] 40)
  have hqlt := lt_of_block hb.blk
  have HFi := hide (fun W (hW : Below w.heap.size w W) => firstU_any (h.below hW) hr (hb.low hW hqlt (Nat.le_refl _)) hwr fa fn fc frm inn (hf.below hW) hfl hn hxn hw hus R hR)
  have HB1 := hide hB1
  have Hz1 := hide hz1
  have hs1 : (w.alloc (.cells #[.slice none 0 0, .slice none 0 0] 40)).heap.size = w.heap.size + 1 := by simp
  clear h hr hb hf hw hus hR hB1 hz1
  go_enter Try.func13, Try.ntmps13
  go_wp2_with (first
    | (go_at_call 28; refine (rise_any _).mono ?_; rintro e w2 ⟨rfl, hb2⟩; have HB2 := hide (HB1.out.trans (hb2.mono HB1.out.size)); have HB2s := hide hb2; clear hb2)
    | (go_at_call 27; refine (newView_any p _ _ 1 _ ⟨_, _, _, rfl⟩ ⟨_, _, _, rfl⟩).mono ?_; rintro e w3 ⟨rfl, hb3⟩; have HB3 := hide (HB2.out.trans (hb3.mono HB2.out.size)); have HB3s := hide (HB2s.out.trans (hb3.mono HB2s.out.size)); clear hb3)
    | (go_at_call 29; refine (HFi.out _ HB3.out).mono ?_; rintro e w4 ⟨y, rfl, hy1, hy2, hyo, hm4, hbl4⟩; have hs3 := HB3s.out.size; have hz4 := (hm4.block _ (Nat.lt_of_lt_of_le (lt_of_block Hz1.out) hs3) (by omega)).trans ((HB3s.out.block _ (lt_of_block Hz1.out)).trans Hz1.out); obtain ⟨z0, z1, zf⟩ := cells_two hz4; have zf1 : w4.frozen? ⟨w.heap.size, 1, none⟩ = false := (by simp [World.frozen?, hz4]); have HZ4 := hide hz4; have HY1 := hide hy1; have HY2 := hide hy2; have HYo := hide hyo; have HM4 := hide hm4; have HBl4 := hide hbl4; clear hz4 hy1 hy2 hyo hm4 hbl4)
    | fail)
  have hfin := two_set2 (u := .slice y.ka y.e.key.length y.kc) (v := .slice y.va y.e.val.length y.vc) HZ4.out
  obtain ⟨q0, q1, -⟩ := cells_two hfin
  refine bodyPost_ret (v := .tuple #[.agg #[.slice y.ka y.e.key.length y.kc, .slice y.va y.e.val.length y.vc], .bool R.1.isSome, .int .u16 (R.2.1 : Int)]) ?_ rfl ?_
  · simp [results, Try.results13, go_sem, q0, q1]
  · have hmW : Mv (fun k => k = q) w w4 := (Mv.of_below HB3.out).trans' HM4.out
    have hE : Below w.heap.size w4 ((w4.setCell ⟨w.heap.size, 0, none⟩ (.slice y.ka y.e.key.length y.kc)).setCell ⟨w.heap.size, 1, none⟩ (.slice y.va y.e.val.length y.vc)) := two_set_below ((Below.refl w4.heap.size w4).mono hmW.size) (Nat.le_refl _)
    exact ⟨y, rfl, HY1.out, HY2.out, (HYo.out.move fun k hk1 hk2 => two_other (by omega)).mono (by omega), mv_below hmW hE (Nat.le_refl _), HBl4.out.low hE hqlt hmW.size⟩
set_option maxHeartbeats 800000 in
theorem fall_any (w : World) : Calls Try.prog 33 #[] w fun e w' => e = .returned (.agg #[.func (.func 43) #[] #[], .int .i64 (-1)]) ∧ Below w.heap.size w w' := by
  go_enter Try.func33, Try.ntmps33
  go_wp2
  refine bodyPost_ret (v := .agg #[.func (.func 43) #[] #[], .int .i64 (-1)]) ?_ rfl ?_
  · simp [results, Try.results33, go_sem]
  · exact ⟨rfl, below_alloc _ _⟩
set_option maxHeartbeats 3200000 in
set_option maxRecDepth 1000000 in
theorem seenD_any {w : World} {p B q n c k0 : Nat} {a : Option Addr} {sv uv : Value} {xs us : List En} {vs : List Value} (h : Bf w p B sv uv xs vs) (hr : Ris (ers xs)) (hb : Bl w q a n c us k0) (hwr : k0 ≤ 10000000) (fa : Option Addr) (fn fc : Nat) (frm : List Int) (inn : Bool) (hf : Inn w fa fn fc frm) (hfl : fn ≤ 140737488351232) (hn : n ≤ 1000000) (hxn : xs.length ≤ 900000) (hw : ∀ x ∈ xs, x.e.key.length ≤ 140737488351232 ∧ x.e.val.length ≤ 140737488351232) (hus : ∀ x ∈ us, x.e.key.length ≤ 140737488351232 ∧ x.e.val.length ≤ 140737488351232) (R : Option Ee × Nat × Nat) (hR : R = firstD (ers xs) (ers us) k0 frm inn) :
    Calls Try.prog 16 #[.pointer (some ⟨p, 0, none⟩), .func (.func 17) #[.pointer (some ⟨q, 0, none⟩)] #[], .slice fa fn fc, .bool inn] w (FirstOut w q a n c us R) := by
  have hB1 := below_alloc w (.cells #[.slice none 0 0, .slice none 0 0] 40)
  have hz1 := heap_alloc_new w (.cells #[.slice none 0 0, .slice none 0 0] 40)
  have hqlt := lt_of_block hb.blk
  have HFi := hide (fun W (hW : Below w.heap.size w W) => firstD_any (h.below hW) hr (hb.low hW hqlt (Nat.le_refl _)) hwr fa fn fc frm inn (hf.below hW) hfl hn hxn hw hus R hR)
  have HB1 := hide hB1
  have Hz1 := hide hz1
  have hs1 : (w.alloc (.cells #[.slice none 0 0, .slice none 0 0] 40)).heap.size = w.heap.size + 1 := by simp
  clear h hr hb hf hw hus hR hB1 hz1
  go_enter Try.func16, Try.ntmps16
  go_wp2_with (first
    | (go_at_call 33; refine (fall_any _).mono ?_; rintro e w2 ⟨rfl, hb2⟩; have HB2 := hide (HB1.out.trans (hb2.mono HB1.out.size)); have HB2s := hide hb2; clear hb2)
    | (go_at_call 27; refine (newView_any p _ _ (-1) _ ⟨_, _, _, rfl⟩ ⟨_, _, _, rfl⟩).mono ?_; rintro e w3 ⟨rfl, hb3⟩; have HB3 := hide (HB2.out.trans (hb3.mono HB2.out.size)); have HB3s := hide (HB2s.out.trans (hb3.mono HB2s.out.size)); clear hb3)
    | (go_at_call 29; refine (HFi.out _ HB3.out).mono ?_; rintro e w4 ⟨y, rfl, hy1, hy2, hyo, hm4, hbl4⟩; have hs3 := HB3s.out.size; have hz4 := (hm4.block _ (Nat.lt_of_lt_of_le (lt_of_block Hz1.out) hs3) (by omega)).trans ((HB3s.out.block _ (lt_of_block Hz1.out)).trans Hz1.out); obtain ⟨z0, z1, zf⟩ := cells_two hz4; have zf1 : w4.frozen? ⟨w.heap.size, 1, none⟩ = false := (by simp [World.frozen?, hz4]); have HZ4 := hide hz4; have HY1 := hide hy1; have HY2 := hide hy2; have HYo := hide hyo; have HM4 := hide hm4; have HBl4 := hide hbl4; clear hz4 hy1 hy2 hyo hm4 hbl4)
    | fail)
  have hfin := two_set2 (u := .slice y.ka y.e.key.length y.kc) (v := .slice y.va y.e.val.length y.vc) HZ4.out
  obtain ⟨q0, q1, -⟩ := cells_two hfin
  refine bodyPost_ret (v := .tuple #[.agg #[.slice y.ka y.e.key.length y.kc, .slice y.va y.e.val.length y.vc], .bool R.1.isSome, .int .u16 (R.2.1 : Int)]) ?_ rfl ?_
  · simp [results, Try.results16, go_sem, q0, q1]
  · have hmW : Mv (fun k => k = q) w w4 := (Mv.of_below HB3.out).trans' HM4.out
    have hE : Below w.heap.size w4 ((w4.setCell ⟨w.heap.size, 0, none⟩ (.slice y.ka y.e.key.length y.kc)).setCell ⟨w.heap.size, 1, none⟩ (.slice y.va y.e.val.length y.vc)) := two_set_below ((Below.refl w4.heap.size w4).mono hmW.size) (Nat.le_refl _)
    exact ⟨y, rfl, HY1.out, HY2.out, (HYo.out.move fun k hk1 hk2 => two_other (by omega)).mono (by omega), mv_below hmW hE (Nat.le_refl _), HBl4.out.low hE hqlt hmW.size⟩
end Go.Proofs.Ytfcebpenjdhgbaa
