/- What is seen first through a buffer. -/
import Derived.Test.YtgohhlngnnmknaaPH
namespace Go.Proofs.Ytgohhlngnnmknaa
open Go.RowKit Go.Maps
set_option linter.unusedVariables false

def nxU (us : List Ee) (frm : List Int) (inn : Bool) : Option Ee := us.find? (fun e => bhU e.key frm inn)
def nxD (us : List Ee) (frm : List Int) (inn : Bool) : Option Ee := us.reverse.find? (fun e => bhD e.key frm inn)
/-- what is seen first behind a place, the error, and how many questions are left. -/
def firstU (es us : List Ee) : Nat → List Int → Bool → Option Ee × Nat × Nat
  | 0, _, _ => (none, 6, 0)
  | wr + 1, frm, inn => match putU es frm inn ((nxU us frm inn).map Ee.key) with
    | some e => (some e, 0, wr)
    | none => match nxU us frm inn with
      | none => (none, 0, wr)
      | some p => if (lk es p.key).isSome then firstU es us wr p.key false else (some p, 0, wr)
def firstD (es us : List Ee) : Nat → List Int → Bool → Option Ee × Nat × Nat
  | 0, _, _ => (none, 6, 0)
  | wr + 1, frm, inn => match putD es frm inn ((nxD us frm inn).map Ee.key) with
    | some e => (some e, 0, wr)
    | none => match nxD us frm inn with
      | none => (none, 0, wr)
      | some p => if (lk es p.key).isSome then firstD es us wr p.key false else (some p, 0, wr)
def FirstOut (w : World) (q : Nat) (a : Option Addr) (n c : Nat) (us : List En) (R : Option Ee × Nat × Nat) (r : Ending) (w' : World) : Prop := ∃ y : En, r = .returned (.tuple #[.agg #[.slice y.ka y.e.key.length y.kc, .slice y.va y.e.val.length y.vc], .bool R.1.isSome, .int .u16 (R.2.1 : Int)]) ∧ y.e.key = (R.1.getD zeE).key ∧ y.e.val = (R.1.getD zeE).val ∧ y.Own w.heap.size w' ∧ Mv (fun k => k = q) w w' ∧ Bl w' q a n c us R.2.2
/-- a buffer beside what lies below. -/
theorem Bf.mvq {w w' : World} {p B q n c wr : Nat} {a : Option Addr} {sv uv : Value} {xs : List En} {us : List Value} (h : Bf w p B sv uv xs us) (hb : w.heap[q]? = some (.cells #[.slice a n c, .int .i64 (wr : Int)] 76 (0, 0))) (hm : Mv (fun k => k = q) w w') : Bf w' p B sv uv xs us := by
  refine h.of_block fun k hk => ?_
  rcases hk with hk | ⟨x, hx, hk⟩
  · refine hm.block k (h.lt hk) ?_
    rintro rfl
    rcases hk with rfl | e | e
    · rw [h.blk] at hb; have := obj_type hb; simp at this
    · obtain ⟨_, _, cc, hc⟩ := row_at h.said e; rw [hc] at hb; have := obj_type hb; simp at this
    · obtain ⟨_, _, cc, hc⟩ := row_at h.undo e; rw [hc] at hb; have := obj_type hb; simp at this
  · refine hm.block k ((h.each x hx).lt hk) ?_
    rintro rfl
    obtain ⟨cc, hc⟩ := (h.each x hx).u8 hk
    rw [hc] at hb; have := obj_type hb; simp at this
theorem put_key {o : Option Ee} {k : List Int} (h : k = (o.getD zeE).key) : (if o.isSome then some k else none) = o.map Ee.key := by
  cases o with
  | none => rfl
  | some e => simp [h]
theorem firstU_put {es us : List Ee} {m : Nat} {gr : List Int} {gi : Bool} {e : Ee} (h : putU es gr gi ((nxU us gr gi).map Ee.key) = some e) : firstU es us (m + 1) gr gi = (some e, 0, m) := by rw [firstU, h]
theorem firstU_none {es us : List Ee} {m : Nat} {gr : List Int} {gi : Bool} (h : putU es gr gi ((nxU us gr gi).map Ee.key) = none) (h2 : nxU us gr gi = none) : firstU es us (m + 1) gr gi = (none, 0, m) := by rw [firstU, h, h2]
theorem firstU_told {es us : List Ee} {m : Nat} {gr : List Int} {gi : Bool} {p : Ee} (h : putU es gr gi ((nxU us gr gi).map Ee.key) = none) (h2 : nxU us gr gi = some p) (h3 : lk es p.key = none) : firstU es us (m + 1) gr gi = (some p, 0, m) := by rw [firstU, h, h2]; simp [h3]
theorem firstU_on {es us : List Ee} {m : Nat} {gr : List Int} {gi : Bool} {p : Ee} (h : putU es gr gi ((nxU us gr gi).map Ee.key) = none) (h2 : nxU us gr gi = some p) (h3 : (lk es p.key).isSome = true) : firstU es us (m + 1) gr gi = firstU es us m p.key false := by rw [firstU, h, h2]; simp [h3]
theorem firstD_put {es us : List Ee} {m : Nat} {gr : List Int} {gi : Bool} {e : Ee} (h : putD es gr gi ((nxD us gr gi).map Ee.key) = some e) : firstD es us (m + 1) gr gi = (some e, 0, m) := by rw [firstD, h]
theorem firstD_none {es us : List Ee} {m : Nat} {gr : List Int} {gi : Bool} (h : putD es gr gi ((nxD us gr gi).map Ee.key) = none) (h2 : nxD us gr gi = none) : firstD es us (m + 1) gr gi = (none, 0, m) := by rw [firstD, h, h2]
theorem firstD_told {es us : List Ee} {m : Nat} {gr : List Int} {gi : Bool} {p : Ee} (h : putD es gr gi ((nxD us gr gi).map Ee.key) = none) (h2 : nxD us gr gi = some p) (h3 : lk es p.key = none) : firstD es us (m + 1) gr gi = (some p, 0, m) := by rw [firstD, h, h2]; simp [h3]
theorem firstD_on {es us : List Ee} {m : Nat} {gr : List Int} {gi : Bool} {p : Ee} (h : putD es gr gi ((nxD us gr gi).map Ee.key) = none) (h2 : nxD us gr gi = some p) (h3 : (lk es p.key).isSome = true) : firstD es us (m + 1) gr gi = firstD es us m p.key false := by rw [firstD, h, h2]; simp [h3]
theorem first_end {w w1 W : World} {q n c m : Nat} {a : Option Addr} {us : List En} {R : Option Ee × Nat × Nat} {y : En} (hB1 : Below w.heap.size w w1) (hs1 : w1.heap.size = w.heap.size + 2) (hq : q < w.heap.size) (hm : Mv (fun k => k = q) w1 W) (hb : Bl W q a n c us m)
    (h3 : R.2.2 = m) (h1 : y.e.key = (R.1.getD zeE).key) (h2 : y.e.val = (R.1.getD zeE).val) (hy : y.Own w1.heap.size W) :
    FirstOut w q a n c us R (.returned (.tuple #[.agg #[.slice y.ka y.e.key.length y.kc, .slice y.va y.e.val.length y.vc], .bool R.1.isSome, .int .u16 (R.2.1 : Int)])) ((W.setCell ⟨w.heap.size + 1, 0, none⟩ (.slice y.ka y.e.key.length y.kc)).setCell ⟨w.heap.size + 1, 1, none⟩ (.slice y.va y.e.val.length y.vc)) := by
  have hmW : Mv (fun k => k = q) w W := (Mv.of_below hB1).trans' hm
  have hE : Below w.heap.size W ((W.setCell ⟨w.heap.size + 1, 0, none⟩ (.slice y.ka y.e.key.length y.kc)).setCell ⟨w.heap.size + 1, 1, none⟩ (.slice y.va y.e.val.length y.vc)) := two_set_below ((Below.refl W.heap.size W).mono hmW.size) (by omega)
  exact ⟨y, rfl, h1, h2, (hy.move fun k hk1 hk2 => two_other (by omega)).mono (by omega), mv_below hmW hE (Nat.le_refl _), by rw [h3]; exact hb.low hE hq hmW.size⟩
set_option maxHeartbeats 12800000 in
set_option maxRecDepth 1000000 in
theorem firstU_any {w : World} {p B q n c k0 : Nat} {a : Option Addr} {sv uv : Value} {xs us : List En} {vs : List Value} (h : Bf w p B sv uv xs vs) (hr : Ris (ers xs)) (hb : Bl w q a n c us k0) (hwr : k0 ≤ 10000000) (fa : Option Addr) (fn fc : Nat) (frm : List Int) (inn : Bool) (hf : Inn w fa fn fc frm) (hfl : fn ≤ 140737488351232) (hn : n ≤ 1000000) (hxn : xs.length ≤ 900000) (hw : ∀ x ∈ xs, x.e.key.length ≤ 140737488351232 ∧ x.e.val.length ≤ 140737488351232) (hus : ∀ x ∈ us, x.e.key.length ≤ 140737488351232 ∧ x.e.val.length ≤ 140737488351232) (R : Option Ee × Nat × Nat) (hR : R = firstU (ers xs) (ers us) k0 frm inn) :
    Calls Try.prog 71 #[.agg #[.pointer (some ⟨p, 0, none⟩), .func (.func 17) #[.pointer (some ⟨q, 0, none⟩)] #[], .func (.func 76) #[] #[], .int .i64 1], .slice fa fn fc, .bool inn] w (FirstOut w q a n c us R) := by
  obtain ⟨w1, hw1⟩ : ∃ w1, w1 = (w.alloc (.cells #[.pointer (some ⟨p, 0, none⟩), .func (.func 17) #[.pointer (some ⟨q, 0, none⟩)] #[], .func (.func 76) #[] #[], .int .i64 1] 126)).alloc (.cells #[.slice none 0 0, .slice none 0 0] 74) := ⟨_, rfl⟩
  have hB1 : Below w.heap.size w w1 := by rw [hw1]; exact two_alloc _ _
  have hv1 : w1.heap[w.heap.size]? = some (.cells #[.pointer (some ⟨p, 0, none⟩), .func (.func 17) #[.pointer (some ⟨q, 0, none⟩)] #[], .func (.func 76) #[] #[], .int .i64 1] 126 (0, 0)) := by rw [hw1]; exact (Below.heap_alloc _ _ _ (by simp)).trans (heap_alloc_new w _)
  have hz1 : w1.heap[w.heap.size + 1]? = some (.cells #[.slice none 0 0, .slice none 0 0] 74 (0, 0)) := by
    rw [hw1]
    have := heap_alloc_new (w.alloc (.cells #[.pointer (some ⟨p, 0, none⟩), .func (.func 17) #[.pointer (some ⟨q, 0, none⟩)] #[], .func (.func 76) #[] #[], .int .i64 1] 126)) (.cells #[.slice none 0 0, .slice none 0 0] 74)
    rwa [World.size_alloc] at this
  have hs1 : w1.heap.size = w.heap.size + 2 := by rw [hw1]; simp
  have hqlt := lt_of_block hb.blk
  have hbl1 := hb.low hB1 hqlt (Nat.le_refl _)
  have HB1 := hide hB1
  have Hv1 := hide hv1
  have Hz1 := hide hz1
  have HS1 := hide hs1
  have HBL := hide hbl1
  have HBLw := hide hb
  have HBF := hide (h.below hB1)
  have HF := hide (hf.below hB1)
  have HRis := hide hr
  have HR := hide hR
  have HW := hide hw
  have HUS := hide hus
  obtain ⟨v0, v1, v2, v3⟩ := cells_four4 hv1
  clear h hb hf hr hR hw hus hB1 hv1 hz1 hs1 hbl1
  go_enter Try.func71, Try.ntmps71
  go_wp2
  rw [← hw1]
  clear hw1 v0 v1 v2 v3
  go_loopw [1, 2] (fun vf vi W => ∃ (m : Nat) (ga : Option Addr) (gn gc : Nat) (gr : List Int) (gi : Bool), vf = .slice ga gn gc ∧ vi = .bool gi ∧ m ≤ 10000000 ∧ gn ≤ 140737488351232 ∧ Inn W ga gn gc gr ∧ R = firstU (ers xs) (ers us) m gr gi ∧ Mv (fun k => k = q) w1 W ∧ Bl W q a n c us m) (fun vf vi W => (intOf ((W.cell? ⟨q, 1, none⟩).getD undef)).toNat)
  case atStart => exact ⟨k0, fa, fn, fc, frm, inn, rfl, rfl, hwr, hfl, HF.out, HR.out, Mv.refl _ _, HBL.out⟩
  case round =>
    obtain ⟨m, ga, gn, gc, gr, gi, rfl, rfl, hm, hgl, hgi, hRm, hmv, hbl⟩ := hrel
    have hq1 := (cells_two hbl.blk).2.1
    have HMr := hide hmv
    have HBr := hide hbl
    have HIr := hide hgi
    have HRm := hide hRm
    have Hq1 := hide hq1
    have HVz : Hid (∀ W : World, Mv (fun k => k = q) w1 W → W.heap[w.heap.size]? = some (.cells #[.pointer (some ⟨p, 0, none⟩), .func (.func 17) #[.pointer (some ⟨q, 0, none⟩)] #[], .func (.func 76) #[] #[], .int .i64 1] 126 (0, 0)) ∧ W.heap[w.heap.size + 1]? = some (.cells #[.slice none 0 0, .slice none 0 0] 74 (0, 0)) ∧ W.frozen? ⟨w.heap.size + 1, 1, none⟩ = false) := hide (fun W hW => by
      have h2 := (hW.block _ (lt_of_block Hz1.out) (by omega)).trans Hz1.out
      exact ⟨(hW.block _ (lt_of_block Hv1.out) (by omega)).trans Hv1.out, h2, by simp [World.frozen?, h2]⟩)
    obtain ⟨jv, jz, zf1⟩ := HVz.out wr hmv
    obtain ⟨v0, v1, v2, v3⟩ := cells_four4 jv
    obtain ⟨z0, z1, zf⟩ := cells_two jz
    clear hmv hbl hgi hRm hq1 jv jz
    cases m with
    | zero =>
      have hRe : R = (none, 6, 0) := HRm.out
      subst hRe
      go_wp2_with (go_at_call 88; refine (askU_zero HBr.out ga gn gc gr gi HIr.out hgl).mono ?_; rintro e w2 ⟨rfl, hb2⟩; have HM2 := hide (HMr.out.trans' (Mv.of_below hb2)); have HBl2 := hide (HBr.out.low hb2 (lt_of_block HBr.out.blk) (Nat.le_refl _)); clear v0 v1 v2 v3 z0 z1 zf zf1 hb2; obtain ⟨jv, jz, zf1⟩ := HVz.out _ (HM2.out.alloc (.cells #[.slice none 0 0, .slice none 0 0] 74)); obtain ⟨v0, v1, v2, v3⟩ := cells_four4 jv; obtain ⟨z0, z1, zf⟩ := cells_two jz; have HJz := hide jz; clear jv jz)
      have hfin := two_set2 (u := .slice none 0 0) (v := .slice none 0 0) HJz.out
      obtain ⟨q0, q1, -⟩ := cells_two hfin
      refine bodyPost_ret (v := .tuple #[.agg #[.slice none 0 0, .slice none 0 0], .bool false, .int .u16 6]) ?_ rfl ?_
      · simp [results, Try.results71, go_sem, q0, q1]
      · exact first_end HB1.out HS1.out hqlt (HM2.out.alloc (.cells #[.slice none 0 0, .slice none 0 0] 74)) (HBl2.out.low (below_alloc w2 _) (lt_of_block HBl2.out.blk) (Nat.le_refl _)) (y := ⟨zeE, none, 0, none, 0⟩) rfl rfl rfl (zero_own _ _)
    | succ m =>
      obtain ⟨o, ho⟩ : ∃ o, o = nxU (ers us) gr gi := ⟨_, rfl⟩
      have HO := hide ho
      have HA := hide (askU_some (p := p) HBr.out (by omega) ga gn gc gr gi HIr.out hgl hn HUS.out o ho)
      obtain ⟨oo, hoo⟩ : ∃ oo, oo = putU (ers xs) gr gi (o.map Ee.key) := ⟨_, rfl⟩
      have HOO := hide hoo
      clear ho hoo
      go_wp2_with (first
        | (go_at_call 88; refine HA.out.mono ?_; rintro e w2 ⟨y, rfl, hy1, hy2, hyo, hm2, hbl2⟩; have HY1 := hide hy1; have HY2 := hide hy2; have HYo := hide hyo; have HM2 := hide hm2; have HBl2 := hide hbl2; have HMM := hide (HMr.out.trans' hm2); clear hy1 hy2 hyo hm2 hbl2 v0 v1 v2 v3 z0 z1 zf zf1; obtain ⟨jv, jz, zf1⟩ := HVz.out _ (HMM.out.alloc (.cells #[.slice y.ka y.e.key.length y.kc, .slice y.va y.e.val.length y.vc] 74)); obtain ⟨v0, v1, v2, v3⟩ := cells_four4 jv; obtain ⟨z0, z1, zf⟩ := cells_two jz; clear jv jz)
        | fail)
      have hW2 : Below w2.heap.size w2 (w2.alloc (.cells #[.slice y.ka y.e.key.length y.kc, .slice y.va y.e.val.length y.vc] 74)) := below_alloc w2 _
      have ht2 := heap_alloc_new w2 (.cells #[.slice y.ka y.e.key.length y.kc, .slice y.va y.e.val.length y.vc] 74)
      have hf2 := (HBF.out.mvq HBL.out.blk HMM.out).below hW2
      have hi2 := (inn_mv HBr.out.blk HIr.out HM2.out).below hW2
      have hyk := HYo.out.ok.below hW2
      refine (putU_any hf2 HRis.out (.func (.func 17) #[.pointer (some ⟨q, 0, none⟩)] #[]) ga y.ka gn gc y.e.key.length y.kc gr y.e.key gi o.isSome hi2 hyk.key hxn HW.out oo (by rw [HOO.out, put_key HY1.out])).mono ?_
      rintro e w3 ⟨y2, rfl, h21, h22, hyo2, hb3⟩
      obtain ⟨W3, hW3⟩ : ∃ W3, W3 = w3.alloc (.cells #[.slice y2.ka y2.e.key.length y2.kc, .slice y2.va y2.e.val.length y2.vc] 74) := ⟨_, rfl⟩
      have hb23 : Below w2.heap.size w2 W3 := by rw [hW3]; exact hW2.trans ((hb3.mono hW2.size).trans ((below_alloc w3 _).mono (Nat.le_trans hW2.size hb3.size)))
      have ht3 : W3.heap[w2.heap.size]? = some (.cells #[.slice y.ka y.e.key.length y.kc, .slice y.va y.e.val.length y.vc] 74 (0, 0)) := by rw [hW3]; exact (Below.heap_alloc w3 _ _ (Nat.lt_of_lt_of_le (lt_of_block ht2) hb3.size)).trans ((hb3.block _ (lt_of_block ht2)).trans ht2)
      have hM3 : Mv (fun k => k = q) w1 W3 := HMM.out.trans' (Mv.of_below hb23)
      have hbl3 := HBl2.out.low hb23 (lt_of_block HBl2.out.blk) (Nat.le_refl _)
      have hf3 := (HBF.out.mvq HBL.out.blk HMM.out).below hb23
      have hy3 : y.Own w1.heap.size W3 := (HYo.out.below hb23).mono HMr.out.size
      have hy23 : y2.Own w1.heap.size W3 := by rw [hW3]; exact (hyo2.below (below_alloc w3 _)).mono (Nat.le_trans HMM.out.size hW2.size)
      clear v0 v1 v2 v3 z0 z1 zf zf1
      obtain ⟨jv, jz, zf1⟩ := HVz.out W3 hM3
      obtain ⟨v0, v1, v2, v3⟩ := cells_four4 jv
      obtain ⟨z0, z1, zf⟩ := cells_two jz
      obtain ⟨t0, t1, tf⟩ := cells_two ht3
      have HJz := hide jz
      have Ht3 := hide ht3
      have HM3 := hide hM3
      have HBl3 := hide hbl3
      have HF3 := hide hf3
      have HY3 := hide hy3
      have HY23 := hide hy23
      have H21 := hide h21
      have H22 := hide h22
      have HW3 := hide hW3
      clear hW2 ht2 hf2 hi2 hyk h21 h22 hyo2 hb3 hb23 ht3 hM3 hbl3 hf3 hy3 hy23 jv jz hW3
      rw [HW3.out] at v0 v1 v2 v3 z0 z1 zf zf1 t0 t1 tf
      rcases opt_cases oo with rfl | ⟨e2, rfl⟩
      · rcases opt_cases o with rfl | ⟨po, rfl⟩
        · have hRe : R = (none, 0, m) := by rw [HRm.out]; exact firstU_none (by rw [← HO.out]; exact HOO.out.symm) HO.out.symm
          subst hRe
          go_wp2
          rw [← HW3.out]
          have hfin := two_set2 (u := .slice none 0 0) (v := .slice none 0 0) HJz.out
          obtain ⟨q0, q1, -⟩ := cells_two hfin
          refine bodyPost_ret (v := .tuple #[.agg #[.slice none 0 0, .slice none 0 0], .bool false, .int .u16 0]) ?_ rfl ?_
          · simp [results, Try.results71, go_sem, q0, q1]
          · exact first_end HB1.out HS1.out hqlt HM3.out HBl3.out (y := ⟨zeE, none, 0, none, 0⟩) rfl rfl rfl (zero_own _ _)
        · go_wp2_with fail
          rw [← HW3.out]
          refine (find_any HF3.out y.ka y.e.key.length y.kc y.e.key HY3.out.ok.key (by omega)).mono ?_
          rintro e w4 ⟨i, rfl, hat, hb4⟩
          have hlk := lk_at HRis.out hat
          have hb14 : Mv (fun k => k = q) w1 w4 := HM3.out.trans' (Mv.of_below hb4)
          have ht4 := (hb4.block _ (lt_of_block Ht3.out)).trans Ht3.out
          clear v0 v1 v2 v3 z0 z1 zf zf1 t0 t1 tf
          obtain ⟨jv, jz, zf1⟩ := HVz.out w4 hb14
          obtain ⟨v0, v1, v2, v3⟩ := cells_four4 jv
          obtain ⟨z0, z1, zf⟩ := cells_two jz
          obtain ⟨t0, t1, tf⟩ := cells_two ht4
          have HJ4 := hide jz
          have HM4 := hide hb14
          have HBl4 := hide (HBl3.out.low hb4 (lt_of_block HBl3.out.blk) (Nat.le_refl _))
          have HY4 := hide (HY3.out.below hb4)
          have HKL : Hid (y.e.key.length ≤ 140737488351232) := hide (by
            rw [HY1.out]
            have := List.mem_of_find?_eq_some HO.out.symm
            have hm2 : po ∈ ers us := by first | exact this | exact List.mem_reverse.1 this
            obtain ⟨x, hx, rfl⟩ := List.mem_map.1 hm2
            exact (HUS.out x hx).1)
          clear hb4 hb14 ht4 jv jz hat
          rcases Bool.eq_false_or_eq_true (ther xs i y.e.key) with ht | ht
          · have hlk2 : (lk (ers xs) po.key).isSome = true := by
              have e1 : po.key = y.e.key := HY1.out.symm
              rw [e1, hlk, ht]
              simp only [if_true]
              have hil : i < xs.length := by
                unfold ther at ht
                split at ht
                · rename_i x hx; exact (List.getElem?_eq_some_iff.1 hx).1
                · cases ht
              rw [List.getElem?_eq_getElem hil]; rfl
            have hRn : R = firstU (ers xs) (ers us) m y.e.key false := by rw [HRm.out, HY1.out]; exact firstU_on (by rw [← HO.out]; exact HOO.out.symm) HO.out.symm hlk2
            have HRn := hide hRn
            rw [ht]
            clear hlk hlk2 hRn ht
            go_wp2
            refine ⟨⟨m, y.ka, y.e.key.length, y.kc, y.e.key, false, rfl, rfl, by omega, HKL.out, HY4.out.ok.key, HRn.out, HM4.out, HBl4.out⟩, ?_⟩
            have e1 := (cells_two HBl4.out.blk).2.1
            have e2 := (cells_two HBr.out.blk).2.1
            simp [e1, e2, intOf]
          · have hlk2 : lk (ers xs) po.key = none := by
              have e1 : po.key = y.e.key := HY1.out.symm
              rw [e1, hlk, ht]; rfl
            have hRe : R = (some po, 0, m) := by rw [HRm.out]; exact firstU_told (by rw [← HO.out]; exact HOO.out.symm) HO.out.symm hlk2
            subst hRe
            rw [ht]
            clear hlk hlk2 ht
            go_wp2
            have hfin := two_set2 (u := .slice y.ka y.e.key.length y.kc) (v := .slice y.va y.e.val.length y.vc) HJ4.out
            obtain ⟨q0, q1, -⟩ := cells_two hfin
            refine bodyPost_ret (v := .tuple #[.agg #[.slice y.ka y.e.key.length y.kc, .slice y.va y.e.val.length y.vc], .bool true, .int .u16 0]) ?_ rfl ?_
            · simp [results, Try.results71, go_sem, q0, q1]
            · exact first_end HB1.out HS1.out hqlt HM4.out HBl4.out rfl HY1.out HY2.out HY4.out
      · have hRe : R = (some e2, 0, m) := by rw [HRm.out]; exact firstU_put (by rw [← HO.out]; exact HOO.out.symm)
        subst hRe
        go_wp2
        rw [← HW3.out]
        have hfin := two_set2 (u := .slice y2.ka y2.e.key.length y2.kc) (v := .slice y2.va y2.e.val.length y2.vc) HJz.out
        obtain ⟨q0, q1, -⟩ := cells_two hfin
        refine bodyPost_ret (v := .tuple #[.agg #[.slice y2.ka y2.e.key.length y2.kc, .slice y2.va y2.e.val.length y2.vc], .bool true, .int .u16 0]) ?_ rfl ?_
        · simp [results, Try.results71, go_sem, q0, q1]
        · exact first_end HB1.out HS1.out hqlt HM3.out HBl3.out rfl H21.out H22.out HY23.out
set_option maxHeartbeats 12800000 in
set_option maxRecDepth 1000000 in
theorem firstD_any {w : World} {p B q n c k0 : Nat} {a : Option Addr} {sv uv : Value} {xs us : List En} {vs : List Value} (h : Bf w p B sv uv xs vs) (hr : Ris (ers xs)) (hb : Bl w q a n c us k0) (hwr : k0 ≤ 10000000) (fa : Option Addr) (fn fc : Nat) (frm : List Int) (inn : Bool) (hf : Inn w fa fn fc frm) (hfl : fn ≤ 140737488351232) (hn : n ≤ 1000000) (hxn : xs.length ≤ 900000) (hw : ∀ x ∈ xs, x.e.key.length ≤ 140737488351232 ∧ x.e.val.length ≤ 140737488351232) (hus : ∀ x ∈ us, x.e.key.length ≤ 140737488351232 ∧ x.e.val.length ≤ 140737488351232) (R : Option Ee × Nat × Nat) (hR : R = firstD (ers xs) (ers us) k0 frm inn) :
    Calls Try.prog 71 #[.agg #[.pointer (some ⟨p, 0, none⟩), .func (.func 19) #[.pointer (some ⟨q, 0, none⟩)] #[], .func (.func 78) #[] #[], .int .i64 (-1)], .slice fa fn fc, .bool inn] w (FirstOut w q a n c us R) := by
  obtain ⟨w1, hw1⟩ : ∃ w1, w1 = (w.alloc (.cells #[.pointer (some ⟨p, 0, none⟩), .func (.func 19) #[.pointer (some ⟨q, 0, none⟩)] #[], .func (.func 78) #[] #[], .int .i64 (-1)] 126)).alloc (.cells #[.slice none 0 0, .slice none 0 0] 74) := ⟨_, rfl⟩
  have hB1 : Below w.heap.size w w1 := by rw [hw1]; exact two_alloc _ _
  have hv1 : w1.heap[w.heap.size]? = some (.cells #[.pointer (some ⟨p, 0, none⟩), .func (.func 19) #[.pointer (some ⟨q, 0, none⟩)] #[], .func (.func 78) #[] #[], .int .i64 (-1)] 126 (0, 0)) := by rw [hw1]; exact (Below.heap_alloc _ _ _ (by simp)).trans (heap_alloc_new w _)
  have hz1 : w1.heap[w.heap.size + 1]? = some (.cells #[.slice none 0 0, .slice none 0 0] 74 (0, 0)) := by
    rw [hw1]
    have := heap_alloc_new (w.alloc (.cells #[.pointer (some ⟨p, 0, none⟩), .func (.func 19) #[.pointer (some ⟨q, 0, none⟩)] #[], .func (.func 78) #[] #[], .int .i64 (-1)] 126)) (.cells #[.slice none 0 0, .slice none 0 0] 74)
    rwa [World.size_alloc] at this
  have hs1 : w1.heap.size = w.heap.size + 2 := by rw [hw1]; simp
  have hqlt := lt_of_block hb.blk
  have hbl1 := hb.low hB1 hqlt (Nat.le_refl _)
  have HB1 := hide hB1
  have Hv1 := hide hv1
  have Hz1 := hide hz1
  have HS1 := hide hs1
  have HBL := hide hbl1
  have HBLw := hide hb
  have HBF := hide (h.below hB1)
  have HF := hide (hf.below hB1)
  have HRis := hide hr
  have HR := hide hR
  have HW := hide hw
  have HUS := hide hus
  obtain ⟨v0, v1, v2, v3⟩ := cells_four4 hv1
  clear h hb hf hr hR hw hus hB1 hv1 hz1 hs1 hbl1
  go_enter Try.func71, Try.ntmps71
  go_wp2
  rw [← hw1]
  clear hw1 v0 v1 v2 v3
  go_loopw [1, 2] (fun vf vi W => ∃ (m : Nat) (ga : Option Addr) (gn gc : Nat) (gr : List Int) (gi : Bool), vf = .slice ga gn gc ∧ vi = .bool gi ∧ m ≤ 10000000 ∧ gn ≤ 140737488351232 ∧ Inn W ga gn gc gr ∧ R = firstD (ers xs) (ers us) m gr gi ∧ Mv (fun k => k = q) w1 W ∧ Bl W q a n c us m) (fun vf vi W => (intOf ((W.cell? ⟨q, 1, none⟩).getD undef)).toNat)
  case atStart => exact ⟨k0, fa, fn, fc, frm, inn, rfl, rfl, hwr, hfl, HF.out, HR.out, Mv.refl _ _, HBL.out⟩
  case round =>
    obtain ⟨m, ga, gn, gc, gr, gi, rfl, rfl, hm, hgl, hgi, hRm, hmv, hbl⟩ := hrel
    have hq1 := (cells_two hbl.blk).2.1
    have HMr := hide hmv
    have HBr := hide hbl
    have HIr := hide hgi
    have HRm := hide hRm
    have Hq1 := hide hq1
    have HVz : Hid (∀ W : World, Mv (fun k => k = q) w1 W → W.heap[w.heap.size]? = some (.cells #[.pointer (some ⟨p, 0, none⟩), .func (.func 19) #[.pointer (some ⟨q, 0, none⟩)] #[], .func (.func 78) #[] #[], .int .i64 (-1)] 126 (0, 0)) ∧ W.heap[w.heap.size + 1]? = some (.cells #[.slice none 0 0, .slice none 0 0] 74 (0, 0)) ∧ W.frozen? ⟨w.heap.size + 1, 1, none⟩ = false) := hide (fun W hW => by
      have h2 := (hW.block _ (lt_of_block Hz1.out) (by omega)).trans Hz1.out
      exact ⟨(hW.block _ (lt_of_block Hv1.out) (by omega)).trans Hv1.out, h2, by simp [World.frozen?, h2]⟩)
    obtain ⟨jv, jz, zf1⟩ := HVz.out wr hmv
    obtain ⟨v0, v1, v2, v3⟩ := cells_four4 jv
    obtain ⟨z0, z1, zf⟩ := cells_two jz
    clear hmv hbl hgi hRm hq1 jv jz
    cases m with
    | zero =>
      have hRe : R = (none, 6, 0) := HRm.out
      subst hRe
      go_wp2_with (go_at_call 88; refine (askD_zero HBr.out ga gn gc gr gi HIr.out hgl).mono ?_; rintro e w2 ⟨rfl, hb2⟩; have HM2 := hide (HMr.out.trans' (Mv.of_below hb2)); have HBl2 := hide (HBr.out.low hb2 (lt_of_block HBr.out.blk) (Nat.le_refl _)); clear v0 v1 v2 v3 z0 z1 zf zf1 hb2; obtain ⟨jv, jz, zf1⟩ := HVz.out _ (HM2.out.alloc (.cells #[.slice none 0 0, .slice none 0 0] 74)); obtain ⟨v0, v1, v2, v3⟩ := cells_four4 jv; obtain ⟨z0, z1, zf⟩ := cells_two jz; have HJz := hide jz; clear jv jz)
      have hfin := two_set2 (u := .slice none 0 0) (v := .slice none 0 0) HJz.out
      obtain ⟨q0, q1, -⟩ := cells_two hfin
      refine bodyPost_ret (v := .tuple #[.agg #[.slice none 0 0, .slice none 0 0], .bool false, .int .u16 6]) ?_ rfl ?_
      · simp [results, Try.results71, go_sem, q0, q1]
      · exact first_end HB1.out HS1.out hqlt (HM2.out.alloc (.cells #[.slice none 0 0, .slice none 0 0] 74)) (HBl2.out.low (below_alloc w2 _) (lt_of_block HBl2.out.blk) (Nat.le_refl _)) (y := ⟨zeE, none, 0, none, 0⟩) rfl rfl rfl (zero_own _ _)
    | succ m =>
      obtain ⟨o, ho⟩ : ∃ o, o = nxD (ers us) gr gi := ⟨_, rfl⟩
      have HO := hide ho
      have HA := hide (askD_some (p := p) HBr.out (by omega) ga gn gc gr gi HIr.out hgl hn HUS.out o ho)
      obtain ⟨oo, hoo⟩ : ∃ oo, oo = putD (ers xs) gr gi (o.map Ee.key) := ⟨_, rfl⟩
      have HOO := hide hoo
      clear ho hoo
      go_wp2_with (first
        | (go_at_call 88; refine HA.out.mono ?_; rintro e w2 ⟨y, rfl, hy1, hy2, hyo, hm2, hbl2⟩; have HY1 := hide hy1; have HY2 := hide hy2; have HYo := hide hyo; have HM2 := hide hm2; have HBl2 := hide hbl2; have HMM := hide (HMr.out.trans' hm2); clear hy1 hy2 hyo hm2 hbl2 v0 v1 v2 v3 z0 z1 zf zf1; obtain ⟨jv, jz, zf1⟩ := HVz.out _ (HMM.out.alloc (.cells #[.slice y.ka y.e.key.length y.kc, .slice y.va y.e.val.length y.vc] 74)); obtain ⟨v0, v1, v2, v3⟩ := cells_four4 jv; obtain ⟨z0, z1, zf⟩ := cells_two jz; clear jv jz)
        | fail)
      have hW2 : Below w2.heap.size w2 (w2.alloc (.cells #[.slice y.ka y.e.key.length y.kc, .slice y.va y.e.val.length y.vc] 74)) := below_alloc w2 _
      have ht2 := heap_alloc_new w2 (.cells #[.slice y.ka y.e.key.length y.kc, .slice y.va y.e.val.length y.vc] 74)
      have hf2 := (HBF.out.mvq HBL.out.blk HMM.out).below hW2
      have hi2 := (inn_mv HBr.out.blk HIr.out HM2.out).below hW2
      have hyk := HYo.out.ok.below hW2
      refine (putD_any hf2 HRis.out (.func (.func 19) #[.pointer (some ⟨q, 0, none⟩)] #[]) ga y.ka gn gc y.e.key.length y.kc gr y.e.key gi o.isSome hi2 hyk.key hxn HW.out oo (by rw [HOO.out, put_key HY1.out])).mono ?_
      rintro e w3 ⟨y2, rfl, h21, h22, hyo2, hb3⟩
      obtain ⟨W3, hW3⟩ : ∃ W3, W3 = w3.alloc (.cells #[.slice y2.ka y2.e.key.length y2.kc, .slice y2.va y2.e.val.length y2.vc] 74) := ⟨_, rfl⟩
      have hb23 : Below w2.heap.size w2 W3 := by rw [hW3]; exact hW2.trans ((hb3.mono hW2.size).trans ((below_alloc w3 _).mono (Nat.le_trans hW2.size hb3.size)))
      have ht3 : W3.heap[w2.heap.size]? = some (.cells #[.slice y.ka y.e.key.length y.kc, .slice y.va y.e.val.length y.vc] 74 (0, 0)) := by rw [hW3]; exact (Below.heap_alloc w3 _ _ (Nat.lt_of_lt_of_le (lt_of_block ht2) hb3.size)).trans ((hb3.block _ (lt_of_block ht2)).trans ht2)
      have hM3 : Mv (fun k => k = q) w1 W3 := HMM.out.trans' (Mv.of_below hb23)
      have hbl3 := HBl2.out.low hb23 (lt_of_block HBl2.out.blk) (Nat.le_refl _)
      have hf3 := (HBF.out.mvq HBL.out.blk HMM.out).below hb23
      have hy3 : y.Own w1.heap.size W3 := (HYo.out.below hb23).mono HMr.out.size
      have hy23 : y2.Own w1.heap.size W3 := by rw [hW3]; exact (hyo2.below (below_alloc w3 _)).mono (Nat.le_trans HMM.out.size hW2.size)
      clear v0 v1 v2 v3 z0 z1 zf zf1
      obtain ⟨jv, jz, zf1⟩ := HVz.out W3 hM3
      obtain ⟨v0, v1, v2, v3⟩ := cells_four4 jv
      obtain ⟨z0, z1, zf⟩ := cells_two jz
      obtain ⟨t0, t1, tf⟩ := cells_two ht3
      have HJz := hide jz
      have Ht3 := hide ht3
      have HM3 := hide hM3
      have HBl3 := hide hbl3
      have HF3 := hide hf3
      have HY3 := hide hy3
      have HY23 := hide hy23
      have H21 := hide h21
      have H22 := hide h22
      have HW3 := hide hW3
      clear hW2 ht2 hf2 hi2 hyk h21 h22 hyo2 hb3 hb23 ht3 hM3 hbl3 hf3 hy3 hy23 jv jz hW3
      rw [HW3.out] at v0 v1 v2 v3 z0 z1 zf zf1 t0 t1 tf
      rcases opt_cases oo with rfl | ⟨e2, rfl⟩
      · rcases opt_cases o with rfl | ⟨po, rfl⟩
        · have hRe : R = (none, 0, m) := by rw [HRm.out]; exact firstD_none (by rw [← HO.out]; exact HOO.out.symm) HO.out.symm
          subst hRe
          go_wp2
          rw [← HW3.out]
          have hfin := two_set2 (u := .slice none 0 0) (v := .slice none 0 0) HJz.out
          obtain ⟨q0, q1, -⟩ := cells_two hfin
          refine bodyPost_ret (v := .tuple #[.agg #[.slice none 0 0, .slice none 0 0], .bool false, .int .u16 0]) ?_ rfl ?_
          · simp [results, Try.results71, go_sem, q0, q1]
          · exact first_end HB1.out HS1.out hqlt HM3.out HBl3.out (y := ⟨zeE, none, 0, none, 0⟩) rfl rfl rfl (zero_own _ _)
        · go_wp2_with fail
          rw [← HW3.out]
          refine (find_any HF3.out y.ka y.e.key.length y.kc y.e.key HY3.out.ok.key (by omega)).mono ?_
          rintro e w4 ⟨i, rfl, hat, hb4⟩
          have hlk := lk_at HRis.out hat
          have hb14 : Mv (fun k => k = q) w1 w4 := HM3.out.trans' (Mv.of_below hb4)
          have ht4 := (hb4.block _ (lt_of_block Ht3.out)).trans Ht3.out
          clear v0 v1 v2 v3 z0 z1 zf zf1 t0 t1 tf
          obtain ⟨jv, jz, zf1⟩ := HVz.out w4 hb14
          obtain ⟨v0, v1, v2, v3⟩ := cells_four4 jv
          obtain ⟨z0, z1, zf⟩ := cells_two jz
          obtain ⟨t0, t1, tf⟩ := cells_two ht4
          have HJ4 := hide jz
          have HM4 := hide hb14
          have HBl4 := hide (HBl3.out.low hb4 (lt_of_block HBl3.out.blk) (Nat.le_refl _))
          have HY4 := hide (HY3.out.below hb4)
          have HKL : Hid (y.e.key.length ≤ 140737488351232) := hide (by
            rw [HY1.out]
            have := List.mem_of_find?_eq_some HO.out.symm
            have hm2 : po ∈ ers us := by first | exact this | exact List.mem_reverse.1 this
            obtain ⟨x, hx, rfl⟩ := List.mem_map.1 hm2
            exact (HUS.out x hx).1)
          clear hb4 hb14 ht4 jv jz hat
          rcases Bool.eq_false_or_eq_true (ther xs i y.e.key) with ht | ht
          · have hlk2 : (lk (ers xs) po.key).isSome = true := by
              have e1 : po.key = y.e.key := HY1.out.symm
              rw [e1, hlk, ht]
              simp only [if_true]
              have hil : i < xs.length := by
                unfold ther at ht
                split at ht
                · rename_i x hx; exact (List.getElem?_eq_some_iff.1 hx).1
                · cases ht
              rw [List.getElem?_eq_getElem hil]; rfl
            have hRn : R = firstD (ers xs) (ers us) m y.e.key false := by rw [HRm.out, HY1.out]; exact firstD_on (by rw [← HO.out]; exact HOO.out.symm) HO.out.symm hlk2
            have HRn := hide hRn
            rw [ht]
            clear hlk hlk2 hRn ht
            go_wp2
            refine ⟨⟨m, y.ka, y.e.key.length, y.kc, y.e.key, false, rfl, rfl, by omega, HKL.out, HY4.out.ok.key, HRn.out, HM4.out, HBl4.out⟩, ?_⟩
            have e1 := (cells_two HBl4.out.blk).2.1
            have e2 := (cells_two HBr.out.blk).2.1
            simp [e1, e2, intOf]
          · have hlk2 : lk (ers xs) po.key = none := by
              have e1 : po.key = y.e.key := HY1.out.symm
              rw [e1, hlk, ht]; rfl
            have hRe : R = (some po, 0, m) := by rw [HRm.out]; exact firstD_told (by rw [← HO.out]; exact HOO.out.symm) HO.out.symm hlk2
            subst hRe
            rw [ht]
            clear hlk hlk2 ht
            go_wp2
            have hfin := two_set2 (u := .slice y.ka y.e.key.length y.kc) (v := .slice y.va y.e.val.length y.vc) HJ4.out
            obtain ⟨q0, q1, -⟩ := cells_two hfin
            refine bodyPost_ret (v := .tuple #[.agg #[.slice y.ka y.e.key.length y.kc, .slice y.va y.e.val.length y.vc], .bool true, .int .u16 0]) ?_ rfl ?_
            · simp [results, Try.results71, go_sem, q0, q1]
            · exact first_end HB1.out HS1.out hqlt HM4.out HBl4.out rfl HY1.out HY2.out HY4.out
      · have hRe : R = (some e2, 0, m) := by rw [HRm.out]; exact firstD_put (by rw [← HO.out]; exact HOO.out.symm)
        subst hRe
        go_wp2
        rw [← HW3.out]
        have hfin := two_set2 (u := .slice y2.ka y2.e.key.length y2.kc) (v := .slice y2.va y2.e.val.length y2.vc) HJz.out
        obtain ⟨q0, q1, -⟩ := cells_two hfin
        refine bodyPost_ret (v := .tuple #[.agg #[.slice y2.ka y2.e.key.length y2.kc, .slice y2.va y2.e.val.length y2.vc], .bool true, .int .u16 0]) ?_ rfl ?_
        · simp [results, Try.results71, go_sem, q0, q1]
        · exact first_end HB1.out HS1.out hqlt HM3.out HBl3.out rfl H21.out H22.out HY23.out
end Go.Proofs.Ytgohhlngnnmknaa
