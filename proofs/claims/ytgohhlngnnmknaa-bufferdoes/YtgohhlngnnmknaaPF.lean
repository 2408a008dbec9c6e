/- What lies below, asked: the error, or a lent copy of the pair. -/
import Derived.Test.YtgohhlngnnmknaaE
import Derived.Test.YtgohhlngnnmknaaPE
namespace Go.Proofs.Ytgohhlngnnmknaa
open Go.RowKit Go.Maps
set_option linter.unusedVariables false

/-- what lies below, at q: its pairs, which lie lower; how many questions it still answers. -/
structure Bl (w : World) (q : Nat) (a : Option Addr) (n c : Nat) (us : List En) (wr : Nat) : Prop where
  blk : w.heap[q]? = some (.cells #[.slice a n c, .int .i64 (wr : Int)] 76 (0, 0))
  old : ∃ w0, Prs w0 a n c us ∧ w0.heap.size ≤ q ∧ Below w0.heap.size w0 w
theorem Bl.prs {w : World} {q n c wr : Nat} {a : Option Addr} {us : List En} (h : Bl w q a n c us wr) : Prs w a n c us := by
  obtain ⟨w0, h1, _, h3⟩ := h.old
  exact h1.below h3
theorem Bl.turn {w w' : World} {q n c wr wr' : Nat} {a : Option Addr} {us : List En} (h : Bl w q a n c us wr) (hm : Mv (fun k => k = q) w w') (hb : w'.heap[q]? = some (.cells #[.slice a n c, .int .i64 (wr' : Int)] 76 (0, 0))) : Bl w' q a n c us wr' := by
  obtain ⟨w0, h1, h2, h3⟩ := h.old
  refine ⟨hb, w0, h1, h2, ?_⟩
  exact ⟨hm.os.trans h3.os, hm.tape.trans h3.tape, hm.output.trans h3.output, Nat.le_trans h3.size hm.size, fun k hk => (hm.block k (Nat.lt_of_lt_of_le hk h3.size) (by omega)).trans (h3.block k hk)⟩
theorem Bl.low {w w' : World} {q n c wr B : Nat} {a : Option Addr} {us : List En} (h : Bl w q a n c us wr) (hb : Below B w w') (hq : q < B) (hB : B ≤ w.heap.size) : Bl w' q a n c us wr := by
  obtain ⟨w0, h1, h2, h3⟩ := h.old
  exact ⟨(hb.block _ hq).trans h.blk, w0, h1, h2, h3.trans (hb.mono (by omega))⟩
/-- bytes are none of its cells. -/
theorem inn_mv {w w' : World} {q n c wr fn fc : Nat} {a fa : Option Addr} {frm : List Int} (hb : w.heap[q]? = some (.cells #[.slice a n c, .int .i64 (wr : Int)] 76 (0, 0))) (hf : Inn w fa fn fc frm) (hm : Mv (fun k => k = q) w w') : Inn w' fa fn fc frm := by
  refine ⟨hf.len, hf.cap, hf.max, hf.bare, ?_, hf.byts⟩
  rcases hf.row with h | ⟨b, off, e, hlt, hc⟩
  · exact .inl h
  · by_cases h0 : frm = []
    · exact .inl h0
    have hne : b ≠ q := by
      intro e
      subst e
      have h1 := hc 0 (List.length_pos_iff.2 h0)
      rw [World.cell?, hb] at h1
      match off, h1 with
      | 0, h1 => simp at h1
      | 1, h1 => simp at h1
      | k + 2, h1 => simp at h1
    exact .inr ⟨b, off, e, Nat.lt_of_lt_of_le hlt hm.size, fun i hi => by
      have := hc i hi
      rw [World.cell?] at this ⊢
      rw [hm.block b hlt hne]; exact this⟩
def AskOut (w : World) (q : Nat) (a : Option Addr) (n c : Nat) (us : List En) (wr : Nat) (o : Option Ee) (r : Ending) (w' : World) : Prop := ∃ y : En, r = .returned (.tuple #[.agg #[.slice y.ka y.e.key.length y.kc, .slice y.va y.e.val.length y.vc], .bool o.isSome, .int .u16 0]) ∧ y.e.key = (o.getD zeE).key ∧ y.e.val = (o.getD zeE).val ∧ y.Own w.heap.size w' ∧ Mv (fun k => k = q) w w' ∧ Bl w' q a n c us wr
set_option maxHeartbeats 1600000 in
set_option maxRecDepth 1000000 in
theorem uNext_zero {w : World} {q n c : Nat} {a : Option Addr} {us : List En} (h : Bl w q a n c us 0) (fa : Option Addr) (fn fc : Nat) (inn : Bool) :
    Calls Try.prog 17 #[.pointer (some ⟨q, 0, none⟩), .slice fa fn fc, .bool inn] w fun e w' => e = .returned (.tuple #[.agg #[.slice none 0 0, .slice none 0 0], .bool false, .int .u16 6]) ∧ Below w.heap.size w w' := by
  have hB1 := below_alloc w (.cells #[.slice none 0 0, .slice none 0 0] 74)
  obtain ⟨b0, b1, bf⟩ := cells_two ((hB1.block _ (lt_of_block h.blk)).trans h.blk)
  obtain ⟨z0, z1, zf⟩ := cells_two (heap_alloc_new w (.cells #[.slice none 0 0, .slice none 0 0] 74))
  have HB1 := hide hB1
  clear h hB1
  go_enter Try.func17, Try.ntmps17
  go_wp2
  refine bodyPost_ret (v := .tuple #[.agg #[.slice none 0 0, .slice none 0 0], .bool false, .int .u16 6]) ?_ rfl ?_
  · simp [results, Try.results17, go_sem]
  · exact ⟨rfl, HB1.out⟩
set_option maxHeartbeats 3200000 in
set_option maxRecDepth 1000000 in
theorem uNext_some {w : World} {q n c wr : Nat} {a : Option Addr} {us : List En} (h : Bl w q a n c us (wr + 1)) (hwr : wr ≤ 10000000) (fa : Option Addr) (fn fc : Nat) (frm : List Int) (inn : Bool) (hf : Inn w fa fn fc frm) (hn : n ≤ 1000000) (hus : ∀ x ∈ us, x.e.key.length ≤ 140737488351232 ∧ x.e.val.length ≤ 140737488351232) (o : Option Ee) (ho : o = (ers us).find? (fun e => bhU e.key frm inn)) :
    Calls Try.prog 17 #[.pointer (some ⟨q, 0, none⟩), .slice fa fn fc, .bool inn] w (AskOut w q a n c us wr o) := by
  obtain ⟨w1, hw1⟩ : ∃ w1, w1 = (w.setCell ⟨q, 1, none⟩ (.int .i64 (wr : Int))).alloc (.cells #[.slice none 0 0, .slice none 0 0] 74) := ⟨_, rfl⟩
  have hqs : (w.setCell ⟨q, 1, none⟩ (.int .i64 (wr : Int))).heap[q]? = some (.cells #[.slice a n c, .int .i64 (wr : Int)] 76 (0, 0)) := two_set1 h.blk
  have hszs : (w.setCell ⟨q, 1, none⟩ (.int .i64 (wr : Int))).heap.size = w.heap.size := by simp [World.setCell]
  have hqlt := lt_of_block h.blk
  have hB0 := below_alloc w (.cells #[.slice none 0 0, .slice none 0 0] 74)
  have hqb : (w.alloc (.cells #[.slice none 0 0, .slice none 0 0] 74)).heap[q]? = some (.cells #[.slice a n c, .int .i64 ((wr + 1 : Nat) : Int)] 76 (0, 0)) := (hB0.block _ hqlt).trans h.blk
  obtain ⟨b0, b1, bf⟩ := cells_two hqb
  have bf1 : (w.alloc (.cells #[.slice none 0 0, .slice none 0 0] 74)).frozen? ⟨q, 1, none⟩ = false := by simp only [World.frozen?, hqb]; simp
  have hM1 : Mv (fun k => k = q) w w1 := by rw [hw1]; exact ((Mv.refl (fun k => k = q) w).setB (b := q) rfl 1 _).alloc _
  have hq1 : w1.heap[q]? = some (.cells #[.slice a n c, .int .i64 (wr : Int)] 76 (0, 0)) := by rw [hw1]; exact (Below.heap_alloc _ _ _ (lt_of_block hqs)).trans hqs
  have hz1 : w1.heap[w.heap.size]? = some (.cells #[.slice none 0 0, .slice none 0 0] 74 (0, 0)) := by
    have := heap_alloc_new (w.setCell ⟨q, 1, none⟩ (.int .i64 (wr : Int))) (.cells #[.slice none 0 0, .slice none 0 0] 74)
    rwa [hszs, ← hw1] at this
  have hs1 : w1.heap.size = w.heap.size + 1 := by rw [hw1, World.size_alloc, hszs]
  have hbl1 : Bl w1 q a n c us wr := h.turn hM1 hq1
  have hf1 := inn_mv h.blk hf hM1
  have HA := hide (after_any a fa n c fn fc us frm inn w1 hbl1.prs hf1 hn o ho)
  obtain ⟨b3, b4, bf3⟩ := cells_two hq1
  have hKL : Hid (∀ e, o = some e → e.key.length ≤ 140737488351232 ∧ e.val.length ≤ 140737488351232) := hide (fun e he => by
    rw [ho] at he
    have hm := List.mem_of_find?_eq_some he
    have hm2 : e ∈ ers us := by first | exact hm | exact List.mem_reverse.1 hm
    obtain ⟨x, hx, rfl⟩ := List.mem_map.1 hm2
    exact hus x hx)
  have HB := hide hbl1
  have HM1 := hide hM1
  have Hz1 := hide hz1
  have HS1 := hide hs1
  have d1 : (((wr + 1 : Nat) : Int) == 0) = false := by simp; omega
  have d2 : ¬ (((wr + 1 : Nat) : Int) = 0) := by omega
  have d3 : ((wr + 1 : Nat) : Int) - 1 = (wr : Int) := by omega
  obtain ⟨wi, hwi⟩ : ∃ wi, Hid (wi = ((wr + 1 : Nat) : Int)) := ⟨_, hide rfl⟩
  rw [← hwi.out] at b1 d1 d2 d3
  have d4 := hwi.out
  have d5 : -9223372036854775808 ≤ wi - 1 ∧ wi - 1 ≤ 9223372036854775807 := by omega
  have d6 : IntKind.i64.wrap (wi - 1) = (wr : Int) := by rw [IntKind.wrap_i64, d3] <;> omega
  clear h ho hf hf1 hbl1 hM1 hq1 hz1 hs1 hqb hB0 hus d4 d5 hqs hszs
  obtain ⟨w9, hw9⟩ : ∃ w9, Hid (w9 = w1) := ⟨_, hide rfl⟩
  rw [← hw9.out] at HB HM1 Hz1 HS1
  have HA9 : Hid (Calls Try.prog 35 #[.slice a n c, .slice fa fn fc, .bool inn] w1 (SharedOut us w9 o)) := hide (by rw [hw9.out]; exact HA.out)
  have h9 := hw9.out
  clear HA hw9
  have H9 := hide h9
  clear h9
  subst hw1
  go_enter Try.func17, Try.ntmps17
  go_wp2_with (go_at_call 35; refine HA9.out.mono ?_; rintro e w2 ⟨y, rfl, hy1, hy2, hyo, hb2, -⟩; have HY1 := hide hy1; have HY2 := hide hy2; have HYo := hide hyo; have HB2 := hide hb2; clear hy1 hy2 hyo hb2)
  obtain ⟨W3, hW3⟩ : ∃ W3, W3 = w2.alloc (.cells #[.slice y.ka y.e.key.length y.kc, .slice y.va y.e.val.length y.vc] 74) := ⟨_, rfl⟩
  have hB3 : Below w9.heap.size w9 W3 := by rw [hW3]; exact HB2.out.alloc HB2.out.size _
  have hp3 : W3.heap[w2.heap.size]? = some (.cells #[.slice y.ka y.e.key.length y.kc, .slice y.va y.e.val.length y.vc] 74 (0, 0)) := by rw [hW3]; exact heap_alloc_new w2 _
  have hyo3 : y.Ok W3 := by rw [hW3]; exact HYo.out.below (below_alloc w2 _)
  rw [← hW3]
  have hs23 : w2.heap.size < W3.heap.size := lt_of_block hp3
  clear hW3 b0 b1 bf bf1 b3 b4 bf3
  have hylen : y.e.key.length ≤ 140737488351232 ∧ y.e.val.length ≤ 140737488351232 := by
    rw [HY1.out, HY2.out]
    cases ho : o with
    | none => simp [zeE]
    | some e => exact hKL.out e ho
  have HK := hide (lent_own y.ka y.e.key.length y.kc y.e.key W3.drew (hyo3.key.below (Below.refl _ _).drew) hylen.1)
  have HV := hide (fun W (hW : Below W3.heap.size W3 W) => lent_own y.va y.e.val.length y.vc y.e.val W (hyo3.val.below hW) hylen.2)
  have HP3 := hide hp3
  have HB3 := hide hB3
  have HYO3 := hide hyo3
  have HSP : Hid (∀ W, Below W3.heap.size W3 W → W.cell? ⟨w2.heap.size, 0, none⟩ = some (.slice y.ka y.e.key.length y.kc) ∧ W.cell? ⟨w2.heap.size, 1, none⟩ = some (.slice y.va y.e.val.length y.vc)) := hide (fun W hW => by
    obtain ⟨e0, e1, _⟩ := cells_two ((hW.block _ (lt_of_block HP3.out)).trans HP3.out)
    exact ⟨e0, e1⟩)
  have HS0 := hide (HSP.out W3 (Below.refl _ _))
  clear hp3 hB3 hyo3 hylen
  refine wp_region_noPanic ?_
  refine wp_region_held_drew (S := (fun W => W.cell? ⟨w2.heap.size, 0, none⟩ = some (.slice y.ka y.e.key.length y.kc) ∧ W.cell? ⟨w2.heap.size, 1, none⟩ = some (.slice y.va y.e.val.length y.vc))) (by kernel_rfl) HS0.out (fun _hS => ?_)
  refine wpAnyH_take (i := 0) (oi := { dst := some 34, op := Op.fieldAddr 74 (Operand.tmp 9) 0, type := 0, pos := "law.go:45", after := #[], guard := none }) (v := ?v0x501) rfl (by kernel_rfl) (by kernel_rfl) (by kernel_rfl) (fun _ _ _ h => h) (Or.inl ⟨by rfl, ?hy0x501⟩) (by assumption) ?rest0x501
  case hy0x501 => (intro w s; (try dsimp only at s); first | (go_simp; with_reducible rfl) | go_simp)
  try simp only [Act.put, zps]
  refine wpAnyH_take (i := 1) (oi := { dst := some 35, op := Op.load 60 (Operand.tmp 34), type := 60, pos := "law.go:45", after := #[{ on := 0, ground := Ground.data }], guard := none }) (v := ?v1x502) rfl (by kernel_rfl) (by kernel_rfl) (by kernel_rfl) (fun _ _ _ h => h) (Or.inl ⟨by rfl, ?hy1x502⟩) (by assumption) ?rest1x502
  case hy1x502 => (intro w s; (try dsimp only at s); first | (go_simp; with_reducible rfl) | go_simp)
  try simp only [Act.put, zps]
  refine wpAnyH_take (i := 3) (oi := { dst := some 37, op := Op.fieldAddr 74 (Operand.tmp 9) 1, type := 0, pos := "law.go:45", after := #[], guard := none }) (v := ?v3x503) rfl (by kernel_rfl) (by kernel_rfl) (by kernel_rfl) (fun _ _ _ h => h) (Or.inl ⟨by rfl, ?hy3x503⟩) (by assumption) ?rest3x503
  case hy3x503 => (intro w s; (try dsimp only at s); first | (go_simp; with_reducible rfl) | go_simp)
  try simp only [Act.put, zps]
  refine wpAnyH_take (i := 4) (oi := { dst := some 38, op := Op.load 60 (Operand.tmp 37), type := 60, pos := "law.go:45", after := #[{ on := 3, ground := Ground.data }], guard := none }) (v := ?v4x504) rfl (by kernel_rfl) (by kernel_rfl) (by kernel_rfl) (fun _ _ _ h => h) (Or.inl ⟨by rfl, ?hy4x504⟩) (by assumption) ?rest4x504
  case hy4x504 => (intro w s; (try dsimp only at s); first | (go_simp; with_reducible rfl) | go_simp)
  try simp only [Act.put, zps]
  refine wpAnyH_take (i := 7) (oi := { dst := some 41, op := Op.move (Operand.tmp 10), type := 4, pos := "law.go:45", after := #[{ on := 8, ground := Ground.gcOnly Departure.lateStores }], guard := none }) (v := ?v7x505) rfl (by kernel_rfl) (by kernel_rfl) (by kernel_rfl) (fun _ _ _ h => h) (Or.inl ⟨by rfl, ?hy7x505⟩) (by assumption) ?rest7x505
  case hy7x505 => (intro w s; (try dsimp only at s); first | (go_simp; with_reducible rfl) | go_simp)
  try simp only [Act.put, zps]
  refine wpAnyH_ready (rs := [2]) (by kernel_rfl) (by simp) ?_
  refine AllReadyH.cons (o := { dst := some 36, op := Op.call { callee := Callee.value (Operand.func 24), args := #[Operand.tmp 35], argTypes := #[60] }, type := 60, pos := "law.go:45", after := #[{ on := 1, ground := Ground.data }], guard := none }) rfl (fun K hK => ?_) (AllReadyH.nil)
  go_simp
  go_at_call 24
  refine HK.out.mono ?_
  rintro e w4 ⟨vK, rfl, hmK⟩
  obtain ⟨aK, nK, cK, rfl, hnK⟩ := hmK.1.shape2
  have HMK := hide hmK
  have HNK := hide hnK
  have HBK := hide ((Below.refl W3.heap.size W3).drew.trans hmK.2.2)
  have HSK := hide (HSP.out w4 HBK.out)
  clear hmK hnK
  go_simp
  refine hK.out _ _ ?_ (fun _hS => ?_)
  · exact HSK.out
  clear hK K
  try simp only [Act.put, zps]
  refine wpAnyH_ready (rs := [5]) (by kernel_rfl) (by simp) ?_
  refine AllReadyH.cons (o := { dst := some 39, op := Op.call { callee := Callee.value (Operand.func 24), args := #[Operand.tmp 38], argTypes := #[60] }, type := 60, pos := "law.go:45", after := #[{ on := 4, ground := Ground.data }, { on := 2, ground := Ground.chain }], guard := none }) rfl (fun K hK => ?_) (AllReadyH.nil)
  go_simp
  go_at_call 24
  refine (HV.out w4 HBK.out).mono ?_
  rintro e w5 ⟨vV, rfl, hmV⟩
  obtain ⟨aV, nV, cV, rfl, hnV⟩ := hmV.1.shape2
  have HMV := hide hmV
  have HNV := hide hnV
  have HBV := hide (HBK.out.trans (hmV.2.2.mono HBK.out.size))
  have HSV := hide (HSP.out w5 HBV.out)
  have hz5 := (HBV.out.block _ (Nat.lt_of_lt_of_le (lt_of_block Hz1.out) HB3.out.size)).trans ((HB3.out.block _ (lt_of_block Hz1.out)).trans Hz1.out)
  obtain ⟨g0, g1, gf⟩ := cells_two hz5
  have gf1 : w5.frozen? ⟨w.heap.size, 1, none⟩ = false := by simp [World.frozen?, hz5]
  have HZ5 := hide hz5
  clear hmV hnV hz5
  go_simp
  refine hK.out _ _ ?_ (fun _hS => ?_)
  · exact HSV.out
  clear hK K
  try simp only [Act.put, zps]
  refine wpAnyH_take (i := 6) (oi := { dst := some 40, op := Op.build 74 #[(0, Operand.tmp 36), (1, Operand.tmp 39)], type := 74, pos := "law.go:45", after := #[{ on := 2, ground := Ground.data }, { on := 5, ground := Ground.data }], guard := none }) (v := ?v6x506) rfl (by kernel_rfl) (by kernel_rfl) (by kernel_rfl) (fun _ _ _ h => h) (Or.inl ⟨by rfl, ?hy6x506⟩) (by assumption) ?rest6x506
  case hy6x506 => (intro w s; (try dsimp only at s); first | (go_simp; with_reducible rfl) | go_simp)
  try simp only [Act.put, zps]
  refine wpAnyH_ready (rs := [8]) (by kernel_rfl) (by simp) ?_
  refine AllReadyH.cons (o := { dst := none, op := Op.store 74 (Operand.tmp 6) (Operand.tmp 40), type := 0, pos := "law.go:45", after := #[{ on := 6, ground := Ground.data }, { on := 5, ground := Ground.chain }, { on := 0, ground := Ground.phase }, { on := 1, ground := Ground.phase }, { on := 2, ground := Ground.phase }, { on := 3, ground := Ground.phase }, { on := 4, ground := Ground.phase }, { on := 5, ground := Ground.phase }, { on := 6, ground := Ground.phase }, { on := 7, ground := Ground.textOnly Departure.lateStores }], guard := none }) rfl (fun K hK => ?_) (AllReadyH.nil)
  go_simp
  refine hK.out _ _ ?_ (fun _hS => ?_)
  · exact ⟨(cell_set_ne (by have := HS1.out; have := HB2.out.size; omega)).trans ((cell_set_ne (by have := HS1.out; have := HB2.out.size; omega)).trans HSV.out.1), (cell_set_ne (by have := HS1.out; have := HB2.out.size; omega)).trans ((cell_set_ne (by have := HS1.out; have := HB2.out.size; omega)).trans HSV.out.2)⟩
  clear hK K
  try simp only [Act.put, zps]
  refine wpAnyH_take (i := 9) (oi := { dst := some 7, op := Op.assign (Operand.tmp 41), type := 4, pos := "law.go:45", after := #[{ on := 7, ground := Ground.data }, { on := 8, ground := Ground.chain }, { on := 0, ground := Ground.phase }, { on := 1, ground := Ground.phase }, { on := 2, ground := Ground.phase }, { on := 3, ground := Ground.phase }, { on := 4, ground := Ground.phase }, { on := 5, ground := Ground.phase }, { on := 6, ground := Ground.phase }, { on := 7, ground := Ground.phase }, { on := 8, ground := Ground.phase }], guard := none }) (v := ?v9x507) rfl (by kernel_rfl) (by kernel_rfl) (by kernel_rfl) (fun _ _ _ h => h) (Or.inl ⟨by rfl, ?hy9x507⟩) (by assumption) ?rest9x507
  case hy9x507 => (intro w s; (try dsimp only at s); first | (go_simp; with_reducible rfl) | go_simp)
  try simp only [Act.put, zps]
  refine wpAnyH_take (i := 10) (oi := { dst := some 8, op := Op.assign (Operand.const (Value.int IntKind.u16 0)), type := 78, pos := "law.go:45", after := #[{ on := 9, ground := Ground.chain }, { on := 0, ground := Ground.phase }, { on := 1, ground := Ground.phase }, { on := 2, ground := Ground.phase }, { on := 3, ground := Ground.phase }, { on := 4, ground := Ground.phase }, { on := 5, ground := Ground.phase }, { on := 6, ground := Ground.phase }, { on := 7, ground := Ground.phase }, { on := 8, ground := Ground.phase }, { on := 9, ground := Ground.phase }], guard := none }) (v := ?v10x508) rfl (by kernel_rfl) (by kernel_rfl) (by kernel_rfl) (fun _ _ _ h => h) (Or.inl ⟨by rfl, ?hy10x508⟩) (by assumption) ?rest10x508
  case hy10x508 => (intro w s; (try dsimp only at s); first | (go_simp; with_reducible rfl) | go_simp)
  try simp only [Act.put, zps]
  refine wpAnyH_done (by kernel_rfl) ?_ _
  refine NoPanic.normal ?_
  go_wp2
  have hf5 := two_set2 (u := .slice aK nK cK) (v := .slice aV nV cV) HZ5.out
  obtain ⟨q0, q1, -⟩ := cells_two hf5
  have hnk : nK = y.e.key.length := HNK.out
  have hnv : nV = y.e.val.length := HNV.out
  subst hnk hnv
  refine bodyPost_ret (v := .tuple #[.agg #[.slice aK y.e.key.length cK, .slice aV y.e.val.length cV], .bool o.isSome, .int .u16 0]) ?_ rfl ?_
  · simp [results, Try.results17, go_sem, q0, q1]
  · have hs5 := HS1.out
    have hs6 := HB3.out.size
    have hs7 := HBK.out.size
    have hB5 : Below w9.heap.size w9 w5 := HB3.out.trans (HBV.out.mono HB3.out.size)
    have hB6 : Below w.heap.size w9 ((w5.setCell ⟨w.heap.size, 0, none⟩ (.slice aK y.e.key.length cK)).setCell ⟨w.heap.size, 1, none⟩ (.slice aV y.e.val.length cV)) := two_set_below (hB5.mono (by omega)) (Nat.le_refl _)
    have hM6 : Mv (fun k => k = q) w ((w5.setCell ⟨w.heap.size, 0, none⟩ (.slice aK y.e.key.length cK)).setCell ⟨w.heap.size, 1, none⟩ (.slice aV y.e.val.length cV)) := ⟨hB6.os.trans HM1.out.os, hB6.tape.trans HM1.out.tape, hB6.output.trans HM1.out.output, Nat.le_trans (by omega : w.heap.size ≤ w9.heap.size) hB6.size, fun k hk hn => (hB6.block k hk).trans (HM1.out.block k hk hn)⟩
    refine ⟨⟨⟨y.e.key, y.e.val, false⟩, aK, cK, aV, cV⟩, rfl, HY1.out, HY2.out, ⟨?_, ?_, fun k hk => ?_, fun k hk => ?_, fun k hk e => ?_, HYO3.out.key.byts, HYO3.out.val.byts⟩, hM6, ?_⟩
    · exact (HMK.out.1.below HMV.out.2.2).of_block fun k hk => two_other (by have := HMK.out.2.1 k hk; simp at this; omega)
    · exact HMV.out.1.of_block fun k hk => two_other (by have := HMV.out.2.1 k hk; omega)
    · have := HMK.out.2.1 k hk; simp at this; omega
    · have := HMV.out.2.1 k hk; omega
    · have h1 := HMK.out.1.lt hk
      have h2 := HMV.out.2.1 k e
      omega
    · exact HB.out.low hB6 hqlt (by omega)
set_option maxHeartbeats 1600000 in
set_option maxRecDepth 1000000 in
theorem uPrev_zero {w : World} {q n c : Nat} {a : Option Addr} {us : List En} (h : Bl w q a n c us 0) (fa : Option Addr) (fn fc : Nat) (inn : Bool) :
    Calls Try.prog 19 #[.pointer (some ⟨q, 0, none⟩), .slice fa fn fc, .bool inn] w fun e w' => e = .returned (.tuple #[.agg #[.slice none 0 0, .slice none 0 0], .bool false, .int .u16 6]) ∧ Below w.heap.size w w' := by
  have hB1 := below_alloc w (.cells #[.slice none 0 0, .slice none 0 0] 74)
  obtain ⟨b0, b1, bf⟩ := cells_two ((hB1.block _ (lt_of_block h.blk)).trans h.blk)
  obtain ⟨z0, z1, zf⟩ := cells_two (heap_alloc_new w (.cells #[.slice none 0 0, .slice none 0 0] 74))
  have HB1 := hide hB1
  clear h hB1
  go_enter Try.func19, Try.ntmps19
  go_wp2
  refine bodyPost_ret (v := .tuple #[.agg #[.slice none 0 0, .slice none 0 0], .bool false, .int .u16 6]) ?_ rfl ?_
  · simp [results, Try.results19, go_sem]
  · exact ⟨rfl, HB1.out⟩
set_option maxHeartbeats 3200000 in
set_option maxRecDepth 1000000 in
theorem uPrev_some {w : World} {q n c wr : Nat} {a : Option Addr} {us : List En} (h : Bl w q a n c us (wr + 1)) (hwr : wr ≤ 10000000) (fa : Option Addr) (fn fc : Nat) (frm : List Int) (inn : Bool) (hf : Inn w fa fn fc frm) (hn : n ≤ 1000000) (hus : ∀ x ∈ us, x.e.key.length ≤ 140737488351232 ∧ x.e.val.length ≤ 140737488351232) (o : Option Ee) (ho : o = (ers us).reverse.find? (fun e => bhD e.key frm inn)) :
    Calls Try.prog 19 #[.pointer (some ⟨q, 0, none⟩), .slice fa fn fc, .bool inn] w (AskOut w q a n c us wr o) := by
  obtain ⟨w1, hw1⟩ : ∃ w1, w1 = (w.setCell ⟨q, 1, none⟩ (.int .i64 (wr : Int))).alloc (.cells #[.slice none 0 0, .slice none 0 0] 74) := ⟨_, rfl⟩
  have hqs : (w.setCell ⟨q, 1, none⟩ (.int .i64 (wr : Int))).heap[q]? = some (.cells #[.slice a n c, .int .i64 (wr : Int)] 76 (0, 0)) := two_set1 h.blk
  have hszs : (w.setCell ⟨q, 1, none⟩ (.int .i64 (wr : Int))).heap.size = w.heap.size := by simp [World.setCell]
  have hqlt := lt_of_block h.blk
  have hB0 := below_alloc w (.cells #[.slice none 0 0, .slice none 0 0] 74)
  have hqb : (w.alloc (.cells #[.slice none 0 0, .slice none 0 0] 74)).heap[q]? = some (.cells #[.slice a n c, .int .i64 ((wr + 1 : Nat) : Int)] 76 (0, 0)) := (hB0.block _ hqlt).trans h.blk
  obtain ⟨b0, b1, bf⟩ := cells_two hqb
  have bf1 : (w.alloc (.cells #[.slice none 0 0, .slice none 0 0] 74)).frozen? ⟨q, 1, none⟩ = false := by simp only [World.frozen?, hqb]; simp
  have hM1 : Mv (fun k => k = q) w w1 := by rw [hw1]; exact ((Mv.refl (fun k => k = q) w).setB (b := q) rfl 1 _).alloc _
  have hq1 : w1.heap[q]? = some (.cells #[.slice a n c, .int .i64 (wr : Int)] 76 (0, 0)) := by rw [hw1]; exact (Below.heap_alloc _ _ _ (lt_of_block hqs)).trans hqs
  have hz1 : w1.heap[w.heap.size]? = some (.cells #[.slice none 0 0, .slice none 0 0] 74 (0, 0)) := by
    have := heap_alloc_new (w.setCell ⟨q, 1, none⟩ (.int .i64 (wr : Int))) (.cells #[.slice none 0 0, .slice none 0 0] 74)
    rwa [hszs, ← hw1] at this
  have hs1 : w1.heap.size = w.heap.size + 1 := by rw [hw1, World.size_alloc, hszs]
  have hbl1 : Bl w1 q a n c us wr := h.turn hM1 hq1
  have hf1 := inn_mv h.blk hf hM1
  have HA := hide (before_any a fa n c fn fc us frm inn w1 hbl1.prs hf1 hn o ho)
  obtain ⟨b3, b4, bf3⟩ := cells_two hq1
  have hKL : Hid (∀ e, o = some e → e.key.length ≤ 140737488351232 ∧ e.val.length ≤ 140737488351232) := hide (fun e he => by
    rw [ho] at he
    have hm := List.mem_of_find?_eq_some he
    have hm2 : e ∈ ers us := by first | exact hm | exact List.mem_reverse.1 hm
    obtain ⟨x, hx, rfl⟩ := List.mem_map.1 hm2
    exact hus x hx)
  have HB := hide hbl1
  have HM1 := hide hM1
  have Hz1 := hide hz1
  have HS1 := hide hs1
  have d1 : (((wr + 1 : Nat) : Int) == 0) = false := by simp; omega
  have d2 : ¬ (((wr + 1 : Nat) : Int) = 0) := by omega
  have d3 : ((wr + 1 : Nat) : Int) - 1 = (wr : Int) := by omega
  obtain ⟨wi, hwi⟩ : ∃ wi, Hid (wi = ((wr + 1 : Nat) : Int)) := ⟨_, hide rfl⟩
  rw [← hwi.out] at b1 d1 d2 d3
  have d4 := hwi.out
  have d5 : -9223372036854775808 ≤ wi - 1 ∧ wi - 1 ≤ 9223372036854775807 := by omega
  have d6 : IntKind.i64.wrap (wi - 1) = (wr : Int) := by rw [IntKind.wrap_i64, d3] <;> omega
  clear h ho hf hf1 hbl1 hM1 hq1 hz1 hs1 hqb hB0 hus d4 d5 hqs hszs
  obtain ⟨w9, hw9⟩ : ∃ w9, Hid (w9 = w1) := ⟨_, hide rfl⟩
  rw [← hw9.out] at HB HM1 Hz1 HS1
  have HA9 : Hid (Calls Try.prog 36 #[.slice a n c, .slice fa fn fc, .bool inn] w1 (SharedOut us w9 o)) := hide (by rw [hw9.out]; exact HA.out)
  have h9 := hw9.out
  clear HA hw9
  have H9 := hide h9
  clear h9
  subst hw1
  go_enter Try.func19, Try.ntmps19
  go_wp2_with (go_at_call 36; refine HA9.out.mono ?_; rintro e w2 ⟨y, rfl, hy1, hy2, hyo, hb2, -⟩; have HY1 := hide hy1; have HY2 := hide hy2; have HYo := hide hyo; have HB2 := hide hb2; clear hy1 hy2 hyo hb2)
  obtain ⟨W3, hW3⟩ : ∃ W3, W3 = w2.alloc (.cells #[.slice y.ka y.e.key.length y.kc, .slice y.va y.e.val.length y.vc] 74) := ⟨_, rfl⟩
  have hB3 : Below w9.heap.size w9 W3 := by rw [hW3]; exact HB2.out.alloc HB2.out.size _
  have hp3 : W3.heap[w2.heap.size]? = some (.cells #[.slice y.ka y.e.key.length y.kc, .slice y.va y.e.val.length y.vc] 74 (0, 0)) := by rw [hW3]; exact heap_alloc_new w2 _
  have hyo3 : y.Ok W3 := by rw [hW3]; exact HYo.out.below (below_alloc w2 _)
  rw [← hW3]
  have hs23 : w2.heap.size < W3.heap.size := lt_of_block hp3
  clear hW3 b0 b1 bf bf1 b3 b4 bf3
  have hylen : y.e.key.length ≤ 140737488351232 ∧ y.e.val.length ≤ 140737488351232 := by
    rw [HY1.out, HY2.out]
    cases ho : o with
    | none => simp [zeE]
    | some e => exact hKL.out e ho
  have HK := hide (lent_own y.ka y.e.key.length y.kc y.e.key W3.drew (hyo3.key.below (Below.refl _ _).drew) hylen.1)
  have HV := hide (fun W (hW : Below W3.heap.size W3 W) => lent_own y.va y.e.val.length y.vc y.e.val W (hyo3.val.below hW) hylen.2)
  have HP3 := hide hp3
  have HB3 := hide hB3
  have HYO3 := hide hyo3
  have HSP : Hid (∀ W, Below W3.heap.size W3 W → W.cell? ⟨w2.heap.size, 0, none⟩ = some (.slice y.ka y.e.key.length y.kc) ∧ W.cell? ⟨w2.heap.size, 1, none⟩ = some (.slice y.va y.e.val.length y.vc)) := hide (fun W hW => by
    obtain ⟨e0, e1, _⟩ := cells_two ((hW.block _ (lt_of_block HP3.out)).trans HP3.out)
    exact ⟨e0, e1⟩)
  have HS0 := hide (HSP.out W3 (Below.refl _ _))
  clear hp3 hB3 hyo3 hylen
  refine wp_region_noPanic ?_
  refine wp_region_held_drew (S := (fun W => W.cell? ⟨w2.heap.size, 0, none⟩ = some (.slice y.ka y.e.key.length y.kc) ∧ W.cell? ⟨w2.heap.size, 1, none⟩ = some (.slice y.va y.e.val.length y.vc))) (by kernel_rfl) HS0.out (fun _hS => ?_)
  refine wpAnyH_take (i := 0) (oi := { dst := some 34, op := Op.fieldAddr 74 (Operand.tmp 9) 0, type := 0, pos := "law.go:54", after := #[], guard := none }) (v := ?v0x501) rfl (by kernel_rfl) (by kernel_rfl) (by kernel_rfl) (fun _ _ _ h => h) (Or.inl ⟨by rfl, ?hy0x501⟩) (by assumption) ?rest0x501
  case hy0x501 => (intro w s; (try dsimp only at s); first | (go_simp; with_reducible rfl) | go_simp)
  try simp only [Act.put, zps]
  refine wpAnyH_take (i := 1) (oi := { dst := some 35, op := Op.load 60 (Operand.tmp 34), type := 60, pos := "law.go:54", after := #[{ on := 0, ground := Ground.data }], guard := none }) (v := ?v1x502) rfl (by kernel_rfl) (by kernel_rfl) (by kernel_rfl) (fun _ _ _ h => h) (Or.inl ⟨by rfl, ?hy1x502⟩) (by assumption) ?rest1x502
  case hy1x502 => (intro w s; (try dsimp only at s); first | (go_simp; with_reducible rfl) | go_simp)
  try simp only [Act.put, zps]
  refine wpAnyH_take (i := 3) (oi := { dst := some 37, op := Op.fieldAddr 74 (Operand.tmp 9) 1, type := 0, pos := "law.go:54", after := #[], guard := none }) (v := ?v3x503) rfl (by kernel_rfl) (by kernel_rfl) (by kernel_rfl) (fun _ _ _ h => h) (Or.inl ⟨by rfl, ?hy3x503⟩) (by assumption) ?rest3x503
  case hy3x503 => (intro w s; (try dsimp only at s); first | (go_simp; with_reducible rfl) | go_simp)
  try simp only [Act.put, zps]
  refine wpAnyH_take (i := 4) (oi := { dst := some 38, op := Op.load 60 (Operand.tmp 37), type := 60, pos := "law.go:54", after := #[{ on := 3, ground := Ground.data }], guard := none }) (v := ?v4x504) rfl (by kernel_rfl) (by kernel_rfl) (by kernel_rfl) (fun _ _ _ h => h) (Or.inl ⟨by rfl, ?hy4x504⟩) (by assumption) ?rest4x504
  case hy4x504 => (intro w s; (try dsimp only at s); first | (go_simp; with_reducible rfl) | go_simp)
  try simp only [Act.put, zps]
  refine wpAnyH_take (i := 7) (oi := { dst := some 41, op := Op.move (Operand.tmp 10), type := 4, pos := "law.go:54", after := #[{ on := 8, ground := Ground.gcOnly Departure.lateStores }], guard := none }) (v := ?v7x505) rfl (by kernel_rfl) (by kernel_rfl) (by kernel_rfl) (fun _ _ _ h => h) (Or.inl ⟨by rfl, ?hy7x505⟩) (by assumption) ?rest7x505
  case hy7x505 => (intro w s; (try dsimp only at s); first | (go_simp; with_reducible rfl) | go_simp)
  try simp only [Act.put, zps]
  refine wpAnyH_ready (rs := [2]) (by kernel_rfl) (by simp) ?_
  refine AllReadyH.cons (o := { dst := some 36, op := Op.call { callee := Callee.value (Operand.func 24), args := #[Operand.tmp 35], argTypes := #[60] }, type := 60, pos := "law.go:54", after := #[{ on := 1, ground := Ground.data }], guard := none }) rfl (fun K hK => ?_) (AllReadyH.nil)
  go_simp
  go_at_call 24
  refine HK.out.mono ?_
  rintro e w4 ⟨vK, rfl, hmK⟩
  obtain ⟨aK, nK, cK, rfl, hnK⟩ := hmK.1.shape2
  have HMK := hide hmK
  have HNK := hide hnK
  have HBK := hide ((Below.refl W3.heap.size W3).drew.trans hmK.2.2)
  have HSK := hide (HSP.out w4 HBK.out)
  clear hmK hnK
  go_simp
  refine hK.out _ _ ?_ (fun _hS => ?_)
  · exact HSK.out
  clear hK K
  try simp only [Act.put, zps]
  refine wpAnyH_ready (rs := [5]) (by kernel_rfl) (by simp) ?_
  refine AllReadyH.cons (o := { dst := some 39, op := Op.call { callee := Callee.value (Operand.func 24), args := #[Operand.tmp 38], argTypes := #[60] }, type := 60, pos := "law.go:54", after := #[{ on := 4, ground := Ground.data }, { on := 2, ground := Ground.chain }], guard := none }) rfl (fun K hK => ?_) (AllReadyH.nil)
  go_simp
  go_at_call 24
  refine (HV.out w4 HBK.out).mono ?_
  rintro e w5 ⟨vV, rfl, hmV⟩
  obtain ⟨aV, nV, cV, rfl, hnV⟩ := hmV.1.shape2
  have HMV := hide hmV
  have HNV := hide hnV
  have HBV := hide (HBK.out.trans (hmV.2.2.mono HBK.out.size))
  have HSV := hide (HSP.out w5 HBV.out)
  have hz5 := (HBV.out.block _ (Nat.lt_of_lt_of_le (lt_of_block Hz1.out) HB3.out.size)).trans ((HB3.out.block _ (lt_of_block Hz1.out)).trans Hz1.out)
  obtain ⟨g0, g1, gf⟩ := cells_two hz5
  have gf1 : w5.frozen? ⟨w.heap.size, 1, none⟩ = false := by simp [World.frozen?, hz5]
  have HZ5 := hide hz5
  clear hmV hnV hz5
  go_simp
  refine hK.out _ _ ?_ (fun _hS => ?_)
  · exact HSV.out
  clear hK K
  try simp only [Act.put, zps]
  refine wpAnyH_take (i := 6) (oi := { dst := some 40, op := Op.build 74 #[(0, Operand.tmp 36), (1, Operand.tmp 39)], type := 74, pos := "law.go:54", after := #[{ on := 2, ground := Ground.data }, { on := 5, ground := Ground.data }], guard := none }) (v := ?v6x506) rfl (by kernel_rfl) (by kernel_rfl) (by kernel_rfl) (fun _ _ _ h => h) (Or.inl ⟨by rfl, ?hy6x506⟩) (by assumption) ?rest6x506
  case hy6x506 => (intro w s; (try dsimp only at s); first | (go_simp; with_reducible rfl) | go_simp)
  try simp only [Act.put, zps]
  refine wpAnyH_ready (rs := [8]) (by kernel_rfl) (by simp) ?_
  refine AllReadyH.cons (o := { dst := none, op := Op.store 74 (Operand.tmp 6) (Operand.tmp 40), type := 0, pos := "law.go:54", after := #[{ on := 6, ground := Ground.data }, { on := 5, ground := Ground.chain }, { on := 0, ground := Ground.phase }, { on := 1, ground := Ground.phase }, { on := 2, ground := Ground.phase }, { on := 3, ground := Ground.phase }, { on := 4, ground := Ground.phase }, { on := 5, ground := Ground.phase }, { on := 6, ground := Ground.phase }, { on := 7, ground := Ground.textOnly Departure.lateStores }], guard := none }) rfl (fun K hK => ?_) (AllReadyH.nil)
  go_simp
  refine hK.out _ _ ?_ (fun _hS => ?_)
  · exact ⟨(cell_set_ne (by have := HS1.out; have := HB2.out.size; omega)).trans ((cell_set_ne (by have := HS1.out; have := HB2.out.size; omega)).trans HSV.out.1), (cell_set_ne (by have := HS1.out; have := HB2.out.size; omega)).trans ((cell_set_ne (by have := HS1.out; have := HB2.out.size; omega)).trans HSV.out.2)⟩
  clear hK K
  try simp only [Act.put, zps]
  refine wpAnyH_take (i := 9) (oi := { dst := some 7, op := Op.assign (Operand.tmp 41), type := 4, pos := "law.go:54", after := #[{ on := 7, ground := Ground.data }, { on := 8, ground := Ground.chain }, { on := 0, ground := Ground.phase }, { on := 1, ground := Ground.phase }, { on := 2, ground := Ground.phase }, { on := 3, ground := Ground.phase }, { on := 4, ground := Ground.phase }, { on := 5, ground := Ground.phase }, { on := 6, ground := Ground.phase }, { on := 7, ground := Ground.phase }, { on := 8, ground := Ground.phase }], guard := none }) (v := ?v9x507) rfl (by kernel_rfl) (by kernel_rfl) (by kernel_rfl) (fun _ _ _ h => h) (Or.inl ⟨by rfl, ?hy9x507⟩) (by assumption) ?rest9x507
  case hy9x507 => (intro w s; (try dsimp only at s); first | (go_simp; with_reducible rfl) | go_simp)
  try simp only [Act.put, zps]
  refine wpAnyH_take (i := 10) (oi := { dst := some 8, op := Op.assign (Operand.const (Value.int IntKind.u16 0)), type := 78, pos := "law.go:54", after := #[{ on := 9, ground := Ground.chain }, { on := 0, ground := Ground.phase }, { on := 1, ground := Ground.phase }, { on := 2, ground := Ground.phase }, { on := 3, ground := Ground.phase }, { on := 4, ground := Ground.phase }, { on := 5, ground := Ground.phase }, { on := 6, ground := Ground.phase }, { on := 7, ground := Ground.phase }, { on := 8, ground := Ground.phase }, { on := 9, ground := Ground.phase }], guard := none }) (v := ?v10x508) rfl (by kernel_rfl) (by kernel_rfl) (by kernel_rfl) (fun _ _ _ h => h) (Or.inl ⟨by rfl, ?hy10x508⟩) (by assumption) ?rest10x508
  case hy10x508 => (intro w s; (try dsimp only at s); first | (go_simp; with_reducible rfl) | go_simp)
  try simp only [Act.put, zps]
  refine wpAnyH_done (by kernel_rfl) ?_ _
  refine NoPanic.normal ?_
  go_wp2
  have hf5 := two_set2 (u := .slice aK nK cK) (v := .slice aV nV cV) HZ5.out
  obtain ⟨q0, q1, -⟩ := cells_two hf5
  have hnk : nK = y.e.key.length := HNK.out
  have hnv : nV = y.e.val.length := HNV.out
  subst hnk hnv
  refine bodyPost_ret (v := .tuple #[.agg #[.slice aK y.e.key.length cK, .slice aV y.e.val.length cV], .bool o.isSome, .int .u16 0]) ?_ rfl ?_
  · simp [results, Try.results19, go_sem, q0, q1]
  · have hs5 := HS1.out
    have hs6 := HB3.out.size
    have hs7 := HBK.out.size
    have hB5 : Below w9.heap.size w9 w5 := HB3.out.trans (HBV.out.mono HB3.out.size)
    have hB6 : Below w.heap.size w9 ((w5.setCell ⟨w.heap.size, 0, none⟩ (.slice aK y.e.key.length cK)).setCell ⟨w.heap.size, 1, none⟩ (.slice aV y.e.val.length cV)) := two_set_below (hB5.mono (by omega)) (Nat.le_refl _)
    have hM6 : Mv (fun k => k = q) w ((w5.setCell ⟨w.heap.size, 0, none⟩ (.slice aK y.e.key.length cK)).setCell ⟨w.heap.size, 1, none⟩ (.slice aV y.e.val.length cV)) := ⟨hB6.os.trans HM1.out.os, hB6.tape.trans HM1.out.tape, hB6.output.trans HM1.out.output, Nat.le_trans (by omega : w.heap.size ≤ w9.heap.size) hB6.size, fun k hk hn => (hB6.block k hk).trans (HM1.out.block k hk hn)⟩
    refine ⟨⟨⟨y.e.key, y.e.val, false⟩, aK, cK, aV, cV⟩, rfl, HY1.out, HY2.out, ⟨?_, ?_, fun k hk => ?_, fun k hk => ?_, fun k hk e => ?_, HYO3.out.key.byts, HYO3.out.val.byts⟩, hM6, ?_⟩
    · exact (HMK.out.1.below HMV.out.2.2).of_block fun k hk => two_other (by have := HMK.out.2.1 k hk; simp at this; omega)
    · exact HMV.out.1.of_block fun k hk => two_other (by have := HMV.out.2.1 k hk; omega)
    · have := HMK.out.2.1 k hk; simp at this; omega
    · have := HMV.out.2.1 k hk; omega
    · have h1 := HMK.out.1.lt hk
      have h2 := HMV.out.2.1 k e
      omega
    · exact HB.out.low hB6 hqlt (by omega)
end Go.Proofs.Ytgohhlngnnmknaa
