/- The program's Clone. -/
import Derived.Test.YtlahkeapfcfbbaaDoorYJ
namespace Go.Proofs.YtlahkeapfcfbbaaDoor
open Go.RowKit Go.Maps
set_option linter.unusedVariables false
set_option linter.unusedSimpArgs false
variable {w w' : World} {l pw pr : Nat} {vw vr v' : Value} {ms ms1 : List Nat} {R : Int} {A B A' B' M : List Pg} {O : Nat → Prop}
/-- other marks are laid into a list. -/
theorem Lm.marks (h : Lm w l pw pr vw vr ms1 R A B) (hm : Mk ms) : Lm (w.setRow l (mcl ms ++ (lcl ms1 R pw pr).toArray.toList.drop 256).toArray) l pw pr vw vr ms R A B ∧ Mv (· = l) w (w.setRow l (mcl ms ++ (lcl ms1 R pw pr).toArray.toList.drop 256).toArray) := by
  rw [lcl_store h.mks.1]
  have ho : ∀ k, k ≠ l → (w.setRow l (lcl ms R pw pr).toArray).heap[k]? = w.heap[k]? := fun k hk => setRow_other w l k _ hk
  refine ⟨⟨setRow_heap w l _ _ _ _ h.blk, hm, h.wt.of_blocks (ho _ h.n1.symm) (fun k hk => ho _ (fun e => h.w1 (by rw [← e]; exact hk))), h.rd.of_blocks (ho _ h.n2.symm) (fun k hk => ho _ (fun e => h.r1 (by rw [← e]; exact hk))), h.hw, h.hr, h.n1, h.n2, h.n3, h.w1, h.w2, h.r1, h.r2, h.wr⟩, ⟨rfl, rfl, rfl, by simp, fun k hk hne => ho k hne⟩⟩
/-- those that wait lie in another row. -/
theorem Lm.newW (h : Lm w l pw pr vw vr ms R A B) (hb : Below w.heap.size w w') (hr : w'.ownsRow 0 87 2 v' B'.length (pflat B')) (hl : ∀ k, v'.ownBlock = some k → w.heap.size ≤ k) (hh : Heap (key false) B') :
    Lm (w'.setCell ⟨pw, 0, none⟩ v') l pw pr v' vr ms R A B' ∧ Go1 (OwL l pw pr vw vr) w (OwL l pw pr v' vr) (w'.setCell ⟨pw, 0, none⟩ v') := by
  have hlt := h.wt.lt
  refine h.wait ⟨?_, row_keep hr (fun k hk => set_other _ _ _ _ _ (fun e => by have := hl k hk; omega)), fun e => by have := hl _ e; omega⟩ hh ⟨(Mv.of_below hb).setB (.inl rfl) 0 _, fun k hk => hk.elim (fun e => .inl (.inl e)) (fun e => .inr (hl k e))⟩
  rw [heap_setCell_same w' pw 0 _ _ _ ((hb.block pw hlt).trans h.wt.blk)]; rfl
/-- those that are ready lie in another row. -/
theorem Lm.newR (h : Lm w l pw pr vw vr ms R A B) (hb : Below w.heap.size w w') (hr : w'.ownsRow 0 87 2 v' A'.length (pflat A')) (hl : ∀ k, v'.ownBlock = some k → w.heap.size ≤ k) (hh : Heap (key true) A') :
    Lm (w'.setCell ⟨pr, 0, none⟩ v') l pw pr vw v' ms R A' B ∧ Go1 (OwL l pw pr vw vr) w (OwL l pw pr vw v') (w'.setCell ⟨pr, 0, none⟩ v') := by
  have hlt := h.rd.lt
  refine h.ready ⟨?_, row_keep hr (fun k hk => set_other _ _ _ _ _ (fun e => by have := hl k hk; omega)), fun e => by have := hl _ e; omega⟩ hh ⟨(Mv.of_below hb).setB (.inl rfl) 0 _, fun k hk => hk.elim (fun e => .inl (.inl e)) (fun e => .inr (hl k e))⟩
  rw [heap_setCell_same w' pr 0 _ _ _ ((hb.block pr hlt).trans h.rd.blk)]; rfl
set_option maxHeartbeats 1600000 in
set_option maxRecDepth 1000000 in
theorem clone_at (h : LsAt w l M O) (hf : M.length ≤ 900000) : Calls Tryd.prog 16 #[.pointer (some ⟨l, 0, none⟩)] w fun e w' => ∃ l' O', e = .returned (.pointer (some ⟨l', 0, none⟩)) ∧ LsAt w' l' M O' ∧ (∀ k, O' k → w.heap.size ≤ k) ∧ Below w.heap.size w w' := by
  have HN := hide (new_any w)
  obtain ⟨pw, pr, vw, vr, ms, R, A, B, h1, h2, h3, h4⟩ := h
  have hl2 : A.length + B.length ≤ 900000 := by rw [← List.length_append, h3.length_eq]; exact hf
  have H1 := hide h1
  have H2 := hide h2
  have H3 := hide h3
  have hla : A.length ≤ 900000 := by omega
  have hlb : B.length ≤ 900000 := by omega
  clear h1 h2 h3 h4
  go_enter Tryd.func16, Tryd.ntmps16
  go_wp2_with (go_at_call 4; refine HN.out.mono ?_; rintro e w1 ⟨l1, O1, rfl, ⟨pw1, pr1, vw1, vr1, ms1, R1, A1, B1, q1, q2, q4, q5⟩, q6, q3⟩; have HB1 := hide q6; have Q3 : Hid (∀ k, OwL l1 pw1 pr1 vw1 vr1 k → w.heap.size ≤ k) := hide (fun k hk => q3 k ((q5 k).2 hk)); have HM1 : Hid (Lm w1.drew l1 pw1 pr1 vw1 vr1 ms1 R1 A1 B1) := hide (q1.stays (fun _ _ => rfl)); have HBd : Hid (Below w.heap.size w w1.drew) := hide ⟨q6.os, q6.tape, q6.output, q6.size, q6.block⟩; clear q1 q2 q3 q4 q5 q6)
  have HMl := hide (H1.out.below HBd.out)
  obtain ⟨e0, e1, e2, e3⟩ := HMl.out.c
  have HE0 := hide e0
  have HLn : Hid ((mcl ms).length = 256) := hide (by rw [mcl_len]; exact H1.out.mks.1)
  have HCm : Hid (∀ j v, (mcl ms)[j]? = some v → w1.drew.cell? ⟨l, j, none⟩ = some v) := hide (fun j v hv => by
    have hj : j < 256 := by
      have := (List.getElem?_eq_some_iff.1 hv).1
      rw [HLn.out] at this; exact this
    have h5 := HE0.out j hj
    have hjm : j < ms.length := by have := H1.out.mks.1; omega
    simp [mcl, hjm] at hv
    rw [h5, ← hv]
    simp [hjm])
  have HSz : Hid (256 ≤ (lcl ms1 R1 pw1 pr1).toArray.size) := hide (by have := HM1.out.mks.1; simp [lcl]; omega)
  clear e0 e2 e3
  refine wp_region_any (by kernel_rfl) ?_
  change wpAny _ _ _ _ _ _ _ (World.drew _)
  refine wpAny_take (i := 0) (oi := { dst := some 5, op := Op.move (Operand.tmp 3), type := 23, pos := "free.go:60", after := #[], guard := none }) (v := ?v0x1) rfl (by kernel_rfl) (by kernel_rfl) (by kernel_rfl) (fun _ _ _ h => h) (Or.inl ⟨by rfl, ?hy0x1⟩) ?rest0x1
  case hy0x1 => (intro w; (first | (go_simp; with_reducible rfl) | go_simp))
  try simp only [Act.put, List.setIfInBounds_toArray, List.set_cons_zero, List.set_cons_succ]
  refine wpAny_take (i := 1) (oi := { dst := some 6, op := Op.move (Operand.tmp 3), type := 23, pos := "free.go:60", after := #[{ on := 12, ground := Ground.gcOnly Departure.lateStores }], guard := none }) (v := ?v1x2) rfl (by kernel_rfl) (by kernel_rfl) (by kernel_rfl) (fun _ _ _ h => h) (Or.inl ⟨by rfl, ?hy1x2⟩) ?rest1x2
  case hy1x2 => (intro w; (first | (go_simp; with_reducible rfl) | go_simp))
  try simp only [Act.put, List.setIfInBounds_toArray, List.set_cons_zero, List.set_cons_succ]
  refine wpAny_take (i := 2) (oi := { dst := some 7, op := Op.move (Operand.tmp 0), type := 23, pos := "free.go:60", after := #[], guard := none }) (v := ?v2x3) rfl (by kernel_rfl) (by kernel_rfl) (by kernel_rfl) (fun _ _ _ h => h) (Or.inl ⟨by rfl, ?hy2x3⟩) ?rest2x3
  case hy2x3 => (intro w; (first | (go_simp; with_reducible rfl) | go_simp))
  try simp only [Act.put, List.setIfInBounds_toArray, List.set_cons_zero, List.set_cons_succ]
  refine wpAny_take (i := 3) (oi := { dst := some 8, op := Op.nilCheck (Operand.tmp 7), type := 0, pos := "free.go:60", after := #[{ on := 2, ground := Ground.data }], guard := none }) (v := ?v3x4) rfl (by kernel_rfl) (by kernel_rfl) (by kernel_rfl) (fun _ _ _ h => h) (Or.inl ⟨by rfl, ?hy3x4⟩) ?rest3x4
  case hy3x4 => (intro w; (first | (go_simp; with_reducible rfl) | go_simp))
  try simp only [Act.put, List.setIfInBounds_toArray, List.set_cons_zero, List.set_cons_succ]
  refine wpAny_take (i := 4) (oi := { dst := some 9, op := Op.fieldAddr 78 (Operand.tmp 8) 0, type := 0, pos := "free.go:60", after := #[{ on := 3, ground := Ground.data }], guard := none }) (v := ?v4x5) rfl (by kernel_rfl) (by kernel_rfl) (by kernel_rfl) (fun _ _ _ h => h) (Or.inl ⟨by rfl, ?hy4x5⟩) ?rest4x5
  case hy4x5 => (intro w; (first | (go_simp; with_reducible rfl) | go_simp))
  try simp only [Act.put, List.setIfInBounds_toArray, List.set_cons_zero, List.set_cons_succ]
  refine wpAny_take (i := 6) (oi := { dst := some 11, op := Op.move (Operand.tmp 0), type := 23, pos := "free.go:60", after := #[], guard := none }) (v := ?v6x6) rfl (by kernel_rfl) (by kernel_rfl) (by kernel_rfl) (fun _ _ _ h => h) (Or.inl ⟨by rfl, ?hy6x6⟩) ?rest6x6
  case hy6x6 => (intro w; (first | (go_simp; with_reducible rfl) | go_simp))
  try simp only [Act.put, List.setIfInBounds_toArray, List.set_cons_zero, List.set_cons_succ]
  refine wpAny_take (i := 7) (oi := { dst := some 12, op := Op.nilCheck (Operand.tmp 11), type := 0, pos := "free.go:60", after := #[{ on := 6, ground := Ground.data }], guard := none }) (v := ?v7x7) rfl (by kernel_rfl) (by kernel_rfl) (by kernel_rfl) (fun _ _ _ h => h) (Or.inl ⟨by rfl, ?hy7x7⟩) ?rest7x7
  case hy7x7 => (intro w; (first | (go_simp; with_reducible rfl) | go_simp))
  try simp only [Act.put, List.setIfInBounds_toArray, List.set_cons_zero, List.set_cons_succ]
  refine wpAny_take (i := 8) (oi := { dst := some 13, op := Op.fieldAddr 78 (Operand.tmp 12) 1, type := 0, pos := "free.go:60", after := #[{ on := 7, ground := Ground.data }], guard := none }) (v := ?v8x8) rfl (by kernel_rfl) (by kernel_rfl) (by kernel_rfl) (fun _ _ _ h => h) (Or.inl ⟨by rfl, ?hy8x8⟩) ?rest8x8
  case hy8x8 => (intro w; (first | (go_simp; with_reducible rfl) | go_simp))
  try simp only [Act.put, List.setIfInBounds_toArray, List.set_cons_zero, List.set_cons_succ]
  refine wpAny_ready (rs := [5, 9]) (by kernel_rfl) (by simp) ?_
  refine AllReady.cons (o := { dst := some 10, op := Op.load 76 (Operand.tmp 9), type := 76, pos := "free.go:60", after := #[{ on := 4, ground := Ground.data }], guard := none }) rfl (fun K hK => ?_) (AllReady.cons (o := { dst := some 14, op := Op.load 57 (Operand.tmp 13), type := 57, pos := "free.go:60", after := #[{ on := 8, ground := Ground.data }], guard := none }) rfl (fun K hK => ?_) AllReady.nil)
  · refine step_of rfl ?_
    refine wp_load_marks (.tmp 9) rfl l rfl (mcl ms) HLn.out HCm.out ?_
    refine hK _ _ ?_
    clear hK K
    try simp only [Act.put, List.setIfInBounds_toArray, List.set_cons_zero, List.set_cons_succ]
    refine wpAny_ready (rs := [9]) (by kernel_rfl) (by simp) ?_
    refine AllReady.cons (o := { dst := some 14, op := Op.load 57 (Operand.tmp 13), type := 57, pos := "free.go:60", after := #[{ on := 8, ground := Ground.data }], guard := none }) rfl (fun K hK => ?_) AllReady.nil
    go_simp
    refine hK _ _ ?_
    clear hK K
    try simp only [Act.put, List.setIfInBounds_toArray, List.set_cons_zero, List.set_cons_succ]
    refine wpAny_take (i := 10) (oi := { dst := some 15, op := Op.nilCheck (Operand.tmp 5), type := 0, pos := "free.go:60", after := #[{ on := 0, ground := Ground.data }, { on := 0, ground := Ground.phase }, { on := 1, ground := Ground.textOnly Departure.lateStores }, { on := 2, ground := Ground.phase }, { on := 3, ground := Ground.phase }, { on := 4, ground := Ground.phase }, { on := 5, ground := Ground.phase }, { on := 6, ground := Ground.textOnly Departure.lateStores }, { on := 7, ground := Ground.textOnly Departure.lateStoresUnsure }, { on := 8, ground := Ground.textOnly Departure.lateStoresUnsure }, { on := 9, ground := Ground.phase }], guard := none }) (v := ?v10x9) rfl (by kernel_rfl) (by kernel_rfl) (by kernel_rfl) (fun _ _ _ h => h) (Or.inl ⟨by rfl, ?hy10x9⟩) ?rest10x9
    case hy10x9 => (intro w; (first | (go_simp; with_reducible rfl) | go_simp))
    try simp only [Act.put, List.setIfInBounds_toArray, List.set_cons_zero, List.set_cons_succ]
    refine wpAny_take (i := 11) (oi := { dst := some 16, op := Op.fieldAddr 78 (Operand.tmp 15) 0, type := 0, pos := "free.go:60", after := #[{ on := 10, ground := Ground.data }, { on := 0, ground := Ground.phase }, { on := 1, ground := Ground.textOnly Departure.lateStores }, { on := 2, ground := Ground.phase }, { on := 3, ground := Ground.phase }, { on := 4, ground := Ground.phase }, { on := 5, ground := Ground.phase }, { on := 6, ground := Ground.textOnly Departure.lateStores }, { on := 7, ground := Ground.textOnly Departure.lateStoresUnsure }, { on := 8, ground := Ground.textOnly Departure.lateStoresUnsure }, { on := 9, ground := Ground.phase }], guard := none }) (v := ?v11x10) rfl (by kernel_rfl) (by kernel_rfl) (by kernel_rfl) (fun _ _ _ h => h) (Or.inl ⟨by rfl, ?hy11x10⟩) ?rest11x10
    case hy11x10 => (intro w; (first | (go_simp; with_reducible rfl) | go_simp))
    try simp only [Act.put, List.setIfInBounds_toArray, List.set_cons_zero, List.set_cons_succ]
    refine wpAny_ready (rs := [12]) (by kernel_rfl) (by simp) ?_
    refine AllReady.cons (o := { dst := none, op := Op.store 76 (Operand.tmp 16) (Operand.tmp 10), type := 0, pos := "free.go:60", after := #[{ on := 11, ground := Ground.data }, { on := 5, ground := Ground.data }, { on := 0, ground := Ground.phase }, { on := 1, ground := Ground.textOnly Departure.lateStores }, { on := 2, ground := Ground.phase }, { on := 3, ground := Ground.phase }, { on := 4, ground := Ground.phase }, { on := 5, ground := Ground.phase }, { on := 6, ground := Ground.textOnly Departure.lateStores }, { on := 7, ground := Ground.textOnly Departure.lateStoresUnsure }, { on := 8, ground := Ground.textOnly Departure.lateStoresUnsure }, { on := 9, ground := Ground.phase }], guard := none }) rfl (fun K hK => ?_) AllReady.nil
    refine step_of rfl ?_
    refine wp_store_marks (.tmp 16) (.tmp 10) rfl l1 rfl (mcl ms) rfl 78 _ HM1.out.blk HSz.out HLn.out (mcl_cells ms) ?_
    obtain ⟨m2, g2⟩ := Lm.marks HM1.out H1.out.mks
    have HG2 := hide g2
    have HM2 := hide m2
    obtain ⟨-, d1, -, -⟩ := m2.c
    have f1 := m2.fz 256
    clear m2 g2
    generalize World.setRow w1.drew l1 _ = W2 at *
    refine hK _ _ ?_
    clear hK K
    try simp only [Act.put, List.setIfInBounds_toArray, List.set_cons_zero, List.set_cons_succ]
    refine wpAny_take (i := 13) (oi := { dst := some 17, op := Op.nilCheck (Operand.tmp 6), type := 0, pos := "free.go:60", after := #[{ on := 1, ground := Ground.data }, { on := 0, ground := Ground.phase }, { on := 1, ground := Ground.phase }, { on := 2, ground := Ground.phase }, { on := 3, ground := Ground.phase }, { on := 4, ground := Ground.phase }, { on := 5, ground := Ground.phase }, { on := 6, ground := Ground.phase }, { on := 7, ground := Ground.phase }, { on := 8, ground := Ground.phase }, { on := 9, ground := Ground.phase }, { on := 10, ground := Ground.phase }, { on := 11, ground := Ground.phase }, { on := 12, ground := Ground.phase }], guard := none }) (v := ?v13x11) rfl (by kernel_rfl) (by kernel_rfl) (by kernel_rfl) (fun _ _ _ h => h) (Or.inl ⟨by rfl, ?hy13x11⟩) ?rest13x11
    case hy13x11 => (intro w; (first | (go_simp; with_reducible rfl) | go_simp))
    try simp only [Act.put, List.setIfInBounds_toArray, List.set_cons_zero, List.set_cons_succ]
    refine wpAny_take (i := 14) (oi := { dst := some 18, op := Op.fieldAddr 78 (Operand.tmp 17) 1, type := 0, pos := "free.go:60", after := #[{ on := 13, ground := Ground.data }, { on := 0, ground := Ground.phase }, { on := 1, ground := Ground.phase }, { on := 2, ground := Ground.phase }, { on := 3, ground := Ground.phase }, { on := 4, ground := Ground.phase }, { on := 5, ground := Ground.phase }, { on := 6, ground := Ground.phase }, { on := 7, ground := Ground.phase }, { on := 8, ground := Ground.phase }, { on := 9, ground := Ground.phase }, { on := 10, ground := Ground.phase }, { on := 11, ground := Ground.phase }, { on := 12, ground := Ground.phase }], guard := none }) (v := ?v14x12) rfl (by kernel_rfl) (by kernel_rfl) (by kernel_rfl) (fun _ _ _ h => h) (Or.inl ⟨by rfl, ?hy14x12⟩) ?rest14x12
    case hy14x12 => (intro w; (first | (go_simp; with_reducible rfl) | go_simp))
    try simp only [Act.put, List.setIfInBounds_toArray, List.set_cons_zero, List.set_cons_succ]
    refine wpAny_ready (rs := [15]) (by kernel_rfl) (by simp) ?_
    refine AllReady.cons (o := { dst := none, op := Op.store 57 (Operand.tmp 18) (Operand.tmp 14), type := 0, pos := "free.go:60", after := #[{ on := 14, ground := Ground.data }, { on := 9, ground := Ground.data }, { on := 12, ground := Ground.chain }, { on := 0, ground := Ground.phase }, { on := 1, ground := Ground.phase }, { on := 2, ground := Ground.phase }, { on := 3, ground := Ground.phase }, { on := 4, ground := Ground.phase }, { on := 5, ground := Ground.phase }, { on := 6, ground := Ground.phase }, { on := 7, ground := Ground.phase }, { on := 8, ground := Ground.phase }, { on := 9, ground := Ground.phase }, { on := 10, ground := Ground.phase }, { on := 11, ground := Ground.phase }, { on := 12, ground := Ground.phase }], guard := none }) rfl (fun K hK => ?_) AllReady.nil
    go_simp
    refine hK _ _ ?_
    clear hK K
    try simp only [Act.put, List.setIfInBounds_toArray, List.set_cons_zero, List.set_cons_succ]
    refine wpAny_done (by kernel_rfl) ?_ _
    have ⟨m3, g3⟩ := HM2.out.struct 256 (.int .u64 R) H1.out.mks (lcl_reach H1.out.mks R1 pw1 pr1 R)
    have hv3 := HG2.out.trans' g3
    have hB3 := HBd.out.trans (hv3.below HBd.out.size (fun k hk => Q3.out k (.inl hk)))
    have HM3 := hide m3
    have HB3 := hide hB3
    clear m3 g3 hv3 hB3 d1 f1 HM2 HG2 e1 HCm
    generalize W2.setCell _ _ = W3 at *
    have HD3 : Hid (Below w.heap.size w W3.drew) := hide ⟨HB3.out.os, HB3.out.tape, HB3.out.output, HB3.out.size, HB3.out.block⟩
    have HL3 := hide (H1.out.below HD3.out)
    have HN3 : Hid (Lm W3.drew l1 pw1 pr1 vw1 vr1 ms R A1 B1) := hide (HM3.out.stays (fun _ _ => rfl))
    obtain ⟨-, -, a2, -⟩ := HL3.out.c
    have a4 := HL3.out.wt.c0
    obtain ⟨-, -, b2, -⟩ := HN3.out.c
    go_wp2
    refine wp_region_any (by kernel_rfl) ?_
    change wpAny _ _ _ _ _ _ _ (World.drew _)
    refine wpAny_take (i := 0) (oi := { dst := some 19, op := Op.move (Operand.tmp 3), type := 23, pos := "free.go:62", after := #[], guard := none }) (v := ?v0x13) rfl (by kernel_rfl) (by kernel_rfl) (by kernel_rfl) (fun _ _ _ h => h) (Or.inl ⟨by rfl, ?hy0x13⟩) ?rest0x13
    case hy0x13 => (intro w; (first | (go_simp; with_reducible rfl) | go_simp))
    try simp only [Act.put, List.setIfInBounds_toArray, List.set_cons_zero, List.set_cons_succ]
    refine wpAny_take (i := 1) (oi := { dst := some 20, op := Op.nilCheck (Operand.tmp 19), type := 0, pos := "free.go:62", after := #[{ on := 0, ground := Ground.data }], guard := none }) (v := ?v1x14) rfl (by kernel_rfl) (by kernel_rfl) (by kernel_rfl) (fun _ _ _ h => h) (Or.inl ⟨by rfl, ?hy1x14⟩) ?rest1x14
    case hy1x14 => (intro w; (first | (go_simp; with_reducible rfl) | go_simp))
    try simp only [Act.put, List.setIfInBounds_toArray, List.set_cons_zero, List.set_cons_succ]
    refine wpAny_take (i := 2) (oi := { dst := some 21, op := Op.fieldAddr 78 (Operand.tmp 20) 2, type := 0, pos := "free.go:62", after := #[{ on := 1, ground := Ground.data }], guard := none }) (v := ?v2x15) rfl (by kernel_rfl) (by kernel_rfl) (by kernel_rfl) (fun _ _ _ h => h) (Or.inl ⟨by rfl, ?hy2x15⟩) ?rest2x15
    case hy2x15 => (intro w; (first | (go_simp; with_reducible rfl) | go_simp))
    try simp only [Act.put, List.setIfInBounds_toArray, List.set_cons_zero, List.set_cons_succ]
    refine wpAny_take (i := 4) (oi := { dst := some 23, op := Op.move (Operand.tmp 0), type := 23, pos := "free.go:62", after := #[], guard := none }) (v := ?v4x16) rfl (by kernel_rfl) (by kernel_rfl) (by kernel_rfl) (fun _ _ _ h => h) (Or.inl ⟨by rfl, ?hy4x16⟩) ?rest4x16
    case hy4x16 => (intro w; (first | (go_simp; with_reducible rfl) | go_simp))
    try simp only [Act.put, List.setIfInBounds_toArray, List.set_cons_zero, List.set_cons_succ]
    refine wpAny_take (i := 5) (oi := { dst := some 24, op := Op.nilCheck (Operand.tmp 23), type := 0, pos := "free.go:62", after := #[{ on := 4, ground := Ground.data }], guard := none }) (v := ?v5x17) rfl (by kernel_rfl) (by kernel_rfl) (by kernel_rfl) (fun _ _ _ h => h) (Or.inl ⟨by rfl, ?hy5x17⟩) ?rest5x17
    case hy5x17 => (intro w; (first | (go_simp; with_reducible rfl) | go_simp))
    try simp only [Act.put, List.setIfInBounds_toArray, List.set_cons_zero, List.set_cons_succ]
    refine wpAny_take (i := 6) (oi := { dst := some 25, op := Op.fieldAddr 78 (Operand.tmp 24) 2, type := 0, pos := "free.go:62", after := #[{ on := 5, ground := Ground.data }], guard := none }) (v := ?v6x18) rfl (by kernel_rfl) (by kernel_rfl) (by kernel_rfl) (fun _ _ _ h => h) (Or.inl ⟨by rfl, ?hy6x18⟩) ?rest6x18
    case hy6x18 => (intro w; (first | (go_simp; with_reducible rfl) | go_simp))
    try simp only [Act.put, List.setIfInBounds_toArray, List.set_cons_zero, List.set_cons_succ]
    refine wpAny_ready (rs := [3, 7]) (by kernel_rfl) (by simp) ?_
    refine AllReady.cons (o := { dst := some 22, op := Op.load 73 (Operand.tmp 21), type := 73, pos := "free.go:62", after := #[{ on := 2, ground := Ground.data }], guard := none }) rfl (fun K hK => ?_) (AllReady.cons (o := { dst := some 26, op := Op.load 73 (Operand.tmp 25), type := 73, pos := "free.go:62", after := #[{ on := 6, ground := Ground.data }], guard := none }) rfl (fun K hK => ?_) AllReady.nil)
    · skip
      go_simp
      refine hK _ _ ?_
      clear hK K
      try simp only [Act.put, List.setIfInBounds_toArray, List.set_cons_zero, List.set_cons_succ]
      refine wpAny_ready (rs := [7]) (by kernel_rfl) (by simp) ?_
      refine AllReady.cons (o := { dst := some 26, op := Op.load 73 (Operand.tmp 25), type := 73, pos := "free.go:62", after := #[{ on := 6, ground := Ground.data }], guard := none }) rfl (fun K hK => ?_) AllReady.nil
      go_simp
      refine hK _ _ ?_
      clear hK K
      try simp only [Act.put, List.setIfInBounds_toArray, List.set_cons_zero, List.set_cons_succ]
      refine wpAny_take (i := 8) (oi := { dst := some 27, op := Op.nilCheck (Operand.tmp 26), type := 0, pos := "free.go:62", after := #[{ on := 7, ground := Ground.data }], guard := none }) (v := ?v8x19) rfl (by kernel_rfl) (by kernel_rfl) (by kernel_rfl) (fun _ _ _ h => h) (Or.inl ⟨by rfl, ?hy8x19⟩) ?rest8x19
      case hy8x19 => (intro w; (first | (go_simp; with_reducible rfl) | go_simp))
      try simp only [Act.put, List.setIfInBounds_toArray, List.set_cons_zero, List.set_cons_succ]
      refine wpAny_take (i := 9) (oi := { dst := some 28, op := Op.fieldAddr 97 (Operand.tmp 27) 0, type := 0, pos := "free.go:62", after := #[{ on := 8, ground := Ground.data }], guard := none }) (v := ?v9x20) rfl (by kernel_rfl) (by kernel_rfl) (by kernel_rfl) (fun _ _ _ h => h) (Or.inl ⟨by rfl, ?hy9x20⟩) ?rest9x20
      case hy9x20 => (intro w; (first | (go_simp; with_reducible rfl) | go_simp))
      try simp only [Act.put, List.setIfInBounds_toArray, List.set_cons_zero, List.set_cons_succ]
      refine wpAny_ready (rs := [10]) (by kernel_rfl) (by simp) ?_
      refine AllReady.cons (o := { dst := some 29, op := Op.load 93 (Operand.tmp 28), type := 93, pos := "free.go:62", after := #[{ on := 9, ground := Ground.data }], guard := none }) rfl (fun K hK => ?_) AllReady.nil
      go_simp
      refine hK _ _ ?_
      clear hK K
      try simp only [Act.put, List.setIfInBounds_toArray, List.set_cons_zero, List.set_cons_succ]
      refine wpAny_ready (rs := [11]) (by kernel_rfl) (by simp) ?_
      refine AllReady.cons (o := { dst := some 30, op := Op.call { callee := Callee.value (Operand.func 34), args := #[Operand.tmp 29], argTypes := #[93] }, type := 93, pos := "free.go:62", after := #[{ on := 10, ground := Ground.data }], guard := none }) rfl (fun K hK => ?_) AllReady.nil
      go_simp
      refine (sclone_any vw B HL3.out.wt.row hlb).mono ?_
      rintro e w4 ⟨v4, rfl, s1, s2, s3⟩
      obtain ⟨xa, xc, rfl⟩ := own_slice2 s1
      have m5 := HN3.out.newW s3 s1 s2 H1.out.hw
      have HM5 := hide m5.1
      have HG5 := hide m5.2
      have hM4 := HN3.out.below s3
      obtain ⟨-, -, b2', -⟩ := hM4.c
      have z0 := hM4.wt.fz 0
      have z1 := hM4.wt.c0
      clear s1 s2 s3 m5 hM4 a2 a4 b2
      go_simp
      refine hK _ _ ?_
      clear hK K
      try simp only [Act.put, List.setIfInBounds_toArray, List.set_cons_zero, List.set_cons_succ]
      refine wpAny_take (i := 12) (oi := { dst := some 31, op := Op.nilCheck (Operand.tmp 22), type := 0, pos := "free.go:62", after := #[{ on := 3, ground := Ground.data }, { on := 0, ground := Ground.phase }, { on := 1, ground := Ground.phase }, { on := 2, ground := Ground.phase }, { on := 3, ground := Ground.phase }, { on := 4, ground := Ground.phase }, { on := 5, ground := Ground.phase }, { on := 6, ground := Ground.phase }, { on := 7, ground := Ground.phase }, { on := 8, ground := Ground.phase }, { on := 9, ground := Ground.phase }, { on := 10, ground := Ground.phase }, { on := 11, ground := Ground.phase }], guard := none }) (v := ?v12x21) rfl (by kernel_rfl) (by kernel_rfl) (by kernel_rfl) (fun _ _ _ h => h) (Or.inl ⟨by rfl, ?hy12x21⟩) ?rest12x21
      case hy12x21 => (intro w; (first | (go_simp; with_reducible rfl) | go_simp))
      try simp only [Act.put, List.setIfInBounds_toArray, List.set_cons_zero, List.set_cons_succ]
      refine wpAny_take (i := 13) (oi := { dst := some 32, op := Op.fieldAddr 97 (Operand.tmp 31) 0, type := 0, pos := "free.go:62", after := #[{ on := 12, ground := Ground.data }, { on := 0, ground := Ground.phase }, { on := 1, ground := Ground.phase }, { on := 2, ground := Ground.phase }, { on := 3, ground := Ground.phase }, { on := 4, ground := Ground.phase }, { on := 5, ground := Ground.phase }, { on := 6, ground := Ground.phase }, { on := 7, ground := Ground.phase }, { on := 8, ground := Ground.phase }, { on := 9, ground := Ground.phase }, { on := 10, ground := Ground.phase }, { on := 11, ground := Ground.phase }], guard := none }) (v := ?v13x22) rfl (by kernel_rfl) (by kernel_rfl) (by kernel_rfl) (fun _ _ _ h => h) (Or.inl ⟨by rfl, ?hy13x22⟩) ?rest13x22
      case hy13x22 => (intro w; (first | (go_simp; with_reducible rfl) | go_simp))
      try simp only [Act.put, List.setIfInBounds_toArray, List.set_cons_zero, List.set_cons_succ]
      refine wpAny_ready (rs := [14]) (by kernel_rfl) (by simp) ?_
      refine AllReady.cons (o := { dst := none, op := Op.store 93 (Operand.tmp 32) (Operand.tmp 30), type := 0, pos := "free.go:62", after := #[{ on := 13, ground := Ground.data }, { on := 11, ground := Ground.data }, { on := 11, ground := Ground.chain }, { on := 0, ground := Ground.phase }, { on := 1, ground := Ground.phase }, { on := 2, ground := Ground.phase }, { on := 3, ground := Ground.phase }, { on := 4, ground := Ground.phase }, { on := 5, ground := Ground.phase }, { on := 6, ground := Ground.phase }, { on := 7, ground := Ground.phase }, { on := 8, ground := Ground.phase }, { on := 9, ground := Ground.phase }, { on := 10, ground := Ground.phase }, { on := 11, ground := Ground.phase }], guard := none }) rfl (fun K hK => ?_) AllReady.nil
      go_simp
      refine hK _ _ ?_
      clear hK K
      try simp only [Act.put, List.setIfInBounds_toArray, List.set_cons_zero, List.set_cons_succ]
      refine wpAny_done (by kernel_rfl) ?_ _
      have hB5 := HD3.out.trans (HG5.out.mv.below HD3.out.size (fun k hk => Q3.out k (by exact hk)))
      have HB5 := hide hB5
      clear hB5 z0 z1 b2'
      generalize w4.setCell _ _ = W5 at *
      have HD5 : Hid (Below w.heap.size w W5.drew) := hide ⟨HB5.out.os, HB5.out.tape, HB5.out.output, HB5.out.size, HB5.out.block⟩
      have HL5 := hide (H1.out.below HD5.out)
      have HN5 : Hid (Lm W5.drew l1 pw1 pr1 (.slice xa B.length xc) vr1 ms R A1 B) := hide (HM5.out.stays (fun _ _ => rfl))
      have HG6 : Hid (Go1 (OwL l1 pw1 pr1 vw1 vr1) W3.drew (OwL l1 pw1 pr1 (.slice xa B.length xc) vr1) W5.drew) := hide HG5.out.drew
      obtain ⟨-, -, -, a2⟩ := HL5.out.c
      have a4 := HL5.out.rd.c0
      obtain ⟨-, -, -, b2⟩ := HN5.out.c
      go_wp2
      refine wp_region_any (by kernel_rfl) ?_
      change wpAny _ _ _ _ _ _ _ (World.drew _)
      refine wpAny_take (i := 0) (oi := { dst := some 33, op := Op.move (Operand.tmp 3), type := 23, pos := "free.go:63", after := #[], guard := none }) (v := ?v0x23) rfl (by kernel_rfl) (by kernel_rfl) (by kernel_rfl) (fun _ _ _ h => h) (Or.inl ⟨by rfl, ?hy0x23⟩) ?rest0x23
      case hy0x23 => (intro w; (first | (go_simp; with_reducible rfl) | go_simp))
      try simp only [Act.put, List.setIfInBounds_toArray, List.set_cons_zero, List.set_cons_succ]
      refine wpAny_take (i := 1) (oi := { dst := some 34, op := Op.nilCheck (Operand.tmp 33), type := 0, pos := "free.go:63", after := #[{ on := 0, ground := Ground.data }], guard := none }) (v := ?v1x24) rfl (by kernel_rfl) (by kernel_rfl) (by kernel_rfl) (fun _ _ _ h => h) (Or.inl ⟨by rfl, ?hy1x24⟩) ?rest1x24
      case hy1x24 => (intro w; (first | (go_simp; with_reducible rfl) | go_simp))
      try simp only [Act.put, List.setIfInBounds_toArray, List.set_cons_zero, List.set_cons_succ]
      refine wpAny_take (i := 2) (oi := { dst := some 35, op := Op.fieldAddr 78 (Operand.tmp 34) 3, type := 0, pos := "free.go:63", after := #[{ on := 1, ground := Ground.data }], guard := none }) (v := ?v2x25) rfl (by kernel_rfl) (by kernel_rfl) (by kernel_rfl) (fun _ _ _ h => h) (Or.inl ⟨by rfl, ?hy2x25⟩) ?rest2x25
      case hy2x25 => (intro w; (first | (go_simp; with_reducible rfl) | go_simp))
      try simp only [Act.put, List.setIfInBounds_toArray, List.set_cons_zero, List.set_cons_succ]
      refine wpAny_take (i := 4) (oi := { dst := some 37, op := Op.move (Operand.tmp 0), type := 23, pos := "free.go:63", after := #[], guard := none }) (v := ?v4x26) rfl (by kernel_rfl) (by kernel_rfl) (by kernel_rfl) (fun _ _ _ h => h) (Or.inl ⟨by rfl, ?hy4x26⟩) ?rest4x26
      case hy4x26 => (intro w; (first | (go_simp; with_reducible rfl) | go_simp))
      try simp only [Act.put, List.setIfInBounds_toArray, List.set_cons_zero, List.set_cons_succ]
      refine wpAny_take (i := 5) (oi := { dst := some 38, op := Op.nilCheck (Operand.tmp 37), type := 0, pos := "free.go:63", after := #[{ on := 4, ground := Ground.data }], guard := none }) (v := ?v5x27) rfl (by kernel_rfl) (by kernel_rfl) (by kernel_rfl) (fun _ _ _ h => h) (Or.inl ⟨by rfl, ?hy5x27⟩) ?rest5x27
      case hy5x27 => (intro w; (first | (go_simp; with_reducible rfl) | go_simp))
      try simp only [Act.put, List.setIfInBounds_toArray, List.set_cons_zero, List.set_cons_succ]
      refine wpAny_take (i := 6) (oi := { dst := some 39, op := Op.fieldAddr 78 (Operand.tmp 38) 3, type := 0, pos := "free.go:63", after := #[{ on := 5, ground := Ground.data }], guard := none }) (v := ?v6x28) rfl (by kernel_rfl) (by kernel_rfl) (by kernel_rfl) (fun _ _ _ h => h) (Or.inl ⟨by rfl, ?hy6x28⟩) ?rest6x28
      case hy6x28 => (intro w; (first | (go_simp; with_reducible rfl) | go_simp))
      try simp only [Act.put, List.setIfInBounds_toArray, List.set_cons_zero, List.set_cons_succ]
      refine wpAny_ready (rs := [3, 7]) (by kernel_rfl) (by simp) ?_
      refine AllReady.cons (o := { dst := some 36, op := Op.load 73 (Operand.tmp 35), type := 73, pos := "free.go:63", after := #[{ on := 2, ground := Ground.data }], guard := none }) rfl (fun K hK => ?_) (AllReady.cons (o := { dst := some 40, op := Op.load 73 (Operand.tmp 39), type := 73, pos := "free.go:63", after := #[{ on := 6, ground := Ground.data }], guard := none }) rfl (fun K hK => ?_) AllReady.nil)
      · skip
        go_simp
        refine hK _ _ ?_
        clear hK K
        try simp only [Act.put, List.setIfInBounds_toArray, List.set_cons_zero, List.set_cons_succ]
        refine wpAny_ready (rs := [7]) (by kernel_rfl) (by simp) ?_
        refine AllReady.cons (o := { dst := some 40, op := Op.load 73 (Operand.tmp 39), type := 73, pos := "free.go:63", after := #[{ on := 6, ground := Ground.data }], guard := none }) rfl (fun K hK => ?_) AllReady.nil
        go_simp
        refine hK _ _ ?_
        clear hK K
        try simp only [Act.put, List.setIfInBounds_toArray, List.set_cons_zero, List.set_cons_succ]
        refine wpAny_take (i := 8) (oi := { dst := some 41, op := Op.nilCheck (Operand.tmp 40), type := 0, pos := "free.go:63", after := #[{ on := 7, ground := Ground.data }], guard := none }) (v := ?v8x29) rfl (by kernel_rfl) (by kernel_rfl) (by kernel_rfl) (fun _ _ _ h => h) (Or.inl ⟨by rfl, ?hy8x29⟩) ?rest8x29
        case hy8x29 => (intro w; (first | (go_simp; with_reducible rfl) | go_simp))
        try simp only [Act.put, List.setIfInBounds_toArray, List.set_cons_zero, List.set_cons_succ]
        refine wpAny_take (i := 9) (oi := { dst := some 42, op := Op.fieldAddr 97 (Operand.tmp 41) 0, type := 0, pos := "free.go:63", after := #[{ on := 8, ground := Ground.data }], guard := none }) (v := ?v9x30) rfl (by kernel_rfl) (by kernel_rfl) (by kernel_rfl) (fun _ _ _ h => h) (Or.inl ⟨by rfl, ?hy9x30⟩) ?rest9x30
        case hy9x30 => (intro w; (first | (go_simp; with_reducible rfl) | go_simp))
        try simp only [Act.put, List.setIfInBounds_toArray, List.set_cons_zero, List.set_cons_succ]
        refine wpAny_ready (rs := [10]) (by kernel_rfl) (by simp) ?_
        refine AllReady.cons (o := { dst := some 43, op := Op.load 93 (Operand.tmp 42), type := 93, pos := "free.go:63", after := #[{ on := 9, ground := Ground.data }], guard := none }) rfl (fun K hK => ?_) AllReady.nil
        go_simp
        refine hK _ _ ?_
        clear hK K
        try simp only [Act.put, List.setIfInBounds_toArray, List.set_cons_zero, List.set_cons_succ]
        refine wpAny_ready (rs := [11]) (by kernel_rfl) (by simp) ?_
        refine AllReady.cons (o := { dst := some 44, op := Op.call { callee := Callee.value (Operand.func 34), args := #[Operand.tmp 43], argTypes := #[93] }, type := 93, pos := "free.go:63", after := #[{ on := 10, ground := Ground.data }], guard := none }) rfl (fun K hK => ?_) AllReady.nil
        go_simp
        refine (sclone_any vr A HL5.out.rd.row hla).mono ?_
        rintro e w6 ⟨v6, rfl, s1, s2, s3⟩
        obtain ⟨ya, yc, rfl⟩ := own_slice2 s1
        have m7 := HN5.out.newR s3 s1 s2 H1.out.hr
        have HM7 := hide m7.1
        have HG7 := hide m7.2
        have hM6 := HN5.out.below s3
        obtain ⟨-, -, -, b2'⟩ := hM6.c
        have z0 := hM6.rd.fz 0
        have z1 := hM6.rd.c0
        clear s1 s2 s3 m7 hM6 a2 a4 b2
        go_simp
        refine hK _ _ ?_
        clear hK K
        try simp only [Act.put, List.setIfInBounds_toArray, List.set_cons_zero, List.set_cons_succ]
        refine wpAny_take (i := 12) (oi := { dst := some 45, op := Op.nilCheck (Operand.tmp 36), type := 0, pos := "free.go:63", after := #[{ on := 3, ground := Ground.data }, { on := 0, ground := Ground.phase }, { on := 1, ground := Ground.phase }, { on := 2, ground := Ground.phase }, { on := 3, ground := Ground.phase }, { on := 4, ground := Ground.phase }, { on := 5, ground := Ground.phase }, { on := 6, ground := Ground.phase }, { on := 7, ground := Ground.phase }, { on := 8, ground := Ground.phase }, { on := 9, ground := Ground.phase }, { on := 10, ground := Ground.phase }, { on := 11, ground := Ground.phase }], guard := none }) (v := ?v12x31) rfl (by kernel_rfl) (by kernel_rfl) (by kernel_rfl) (fun _ _ _ h => h) (Or.inl ⟨by rfl, ?hy12x31⟩) ?rest12x31
        case hy12x31 => (intro w; (first | (go_simp; with_reducible rfl) | go_simp))
        try simp only [Act.put, List.setIfInBounds_toArray, List.set_cons_zero, List.set_cons_succ]
        refine wpAny_take (i := 13) (oi := { dst := some 46, op := Op.fieldAddr 97 (Operand.tmp 45) 0, type := 0, pos := "free.go:63", after := #[{ on := 12, ground := Ground.data }, { on := 0, ground := Ground.phase }, { on := 1, ground := Ground.phase }, { on := 2, ground := Ground.phase }, { on := 3, ground := Ground.phase }, { on := 4, ground := Ground.phase }, { on := 5, ground := Ground.phase }, { on := 6, ground := Ground.phase }, { on := 7, ground := Ground.phase }, { on := 8, ground := Ground.phase }, { on := 9, ground := Ground.phase }, { on := 10, ground := Ground.phase }, { on := 11, ground := Ground.phase }], guard := none }) (v := ?v13x32) rfl (by kernel_rfl) (by kernel_rfl) (by kernel_rfl) (fun _ _ _ h => h) (Or.inl ⟨by rfl, ?hy13x32⟩) ?rest13x32
        case hy13x32 => (intro w; (first | (go_simp; with_reducible rfl) | go_simp))
        try simp only [Act.put, List.setIfInBounds_toArray, List.set_cons_zero, List.set_cons_succ]
        refine wpAny_ready (rs := [14]) (by kernel_rfl) (by simp) ?_
        refine AllReady.cons (o := { dst := none, op := Op.store 93 (Operand.tmp 46) (Operand.tmp 44), type := 0, pos := "free.go:63", after := #[{ on := 13, ground := Ground.data }, { on := 11, ground := Ground.data }, { on := 11, ground := Ground.chain }, { on := 0, ground := Ground.phase }, { on := 1, ground := Ground.phase }, { on := 2, ground := Ground.phase }, { on := 3, ground := Ground.phase }, { on := 4, ground := Ground.phase }, { on := 5, ground := Ground.phase }, { on := 6, ground := Ground.phase }, { on := 7, ground := Ground.phase }, { on := 8, ground := Ground.phase }, { on := 9, ground := Ground.phase }, { on := 10, ground := Ground.phase }, { on := 11, ground := Ground.phase }], guard := none }) rfl (fun K hK => ?_) AllReady.nil
        go_simp
        refine hK _ _ ?_
        clear hK K
        try simp only [Act.put, List.setIfInBounds_toArray, List.set_cons_zero, List.set_cons_succ]
        refine wpAny_done (by kernel_rfl) ?_ _
        go_wp2
        go_ret
        have hgo := HG6.out.trans HG7.out
        refine ⟨l1, OwL l1 pw1 pr1 _ _, rfl, ⟨pw1, pr1, _, _, ms, R, A, B, HM7.out, H2.out, H3.out, fun k => Iff.rfl⟩, fun k hk => ?_, HD3.out.trans (hgo.mv.below HD3.out.size (fun k hk => Q3.out k (by exact hk)))⟩
        rcases hgo.own k hk with h | h
        · exact Q3.out k h
        · exact Nat.le_trans HD3.out.size h
      · skip
        go_simp
        refine hK _ _ ?_
        clear hK K
        try simp only [Act.put, List.setIfInBounds_toArray, List.set_cons_zero, List.set_cons_succ]
        refine wpAny_take (i := 8) (oi := { dst := some 41, op := Op.nilCheck (Operand.tmp 40), type := 0, pos := "free.go:63", after := #[{ on := 7, ground := Ground.data }], guard := none }) (v := ?v8x33) rfl (by kernel_rfl) (by kernel_rfl) (by kernel_rfl) (fun _ _ _ h => h) (Or.inl ⟨by rfl, ?hy8x33⟩) ?rest8x33
        case hy8x33 => (intro w; (first | (go_simp; with_reducible rfl) | go_simp))
        try simp only [Act.put, List.setIfInBounds_toArray, List.set_cons_zero, List.set_cons_succ]
        refine wpAny_take (i := 9) (oi := { dst := some 42, op := Op.fieldAddr 97 (Operand.tmp 41) 0, type := 0, pos := "free.go:63", after := #[{ on := 8, ground := Ground.data }], guard := none }) (v := ?v9x34) rfl (by kernel_rfl) (by kernel_rfl) (by kernel_rfl) (fun _ _ _ h => h) (Or.inl ⟨by rfl, ?hy9x34⟩) ?rest9x34
        case hy9x34 => (intro w; (first | (go_simp; with_reducible rfl) | go_simp))
        try simp only [Act.put, List.setIfInBounds_toArray, List.set_cons_zero, List.set_cons_succ]
        refine wpAny_ready (rs := [3, 10]) (by kernel_rfl) (by simp) ?_
        refine AllReady.cons (o := { dst := some 36, op := Op.load 73 (Operand.tmp 35), type := 73, pos := "free.go:63", after := #[{ on := 2, ground := Ground.data }], guard := none }) rfl (fun K hK => ?_) (AllReady.cons (o := { dst := some 43, op := Op.load 93 (Operand.tmp 42), type := 93, pos := "free.go:63", after := #[{ on := 9, ground := Ground.data }], guard := none }) rfl (fun K hK => ?_) AllReady.nil)
        · skip
          go_simp
          refine hK _ _ ?_
          clear hK K
          try simp only [Act.put, List.setIfInBounds_toArray, List.set_cons_zero, List.set_cons_succ]
          refine wpAny_ready (rs := [10]) (by kernel_rfl) (by simp) ?_
          refine AllReady.cons (o := { dst := some 43, op := Op.load 93 (Operand.tmp 42), type := 93, pos := "free.go:63", after := #[{ on := 9, ground := Ground.data }], guard := none }) rfl (fun K hK => ?_) AllReady.nil
          go_simp
          refine hK _ _ ?_
          clear hK K
          try simp only [Act.put, List.setIfInBounds_toArray, List.set_cons_zero, List.set_cons_succ]
          refine wpAny_ready (rs := [11]) (by kernel_rfl) (by simp) ?_
          refine AllReady.cons (o := { dst := some 44, op := Op.call { callee := Callee.value (Operand.func 34), args := #[Operand.tmp 43], argTypes := #[93] }, type := 93, pos := "free.go:63", after := #[{ on := 10, ground := Ground.data }], guard := none }) rfl (fun K hK => ?_) AllReady.nil
          go_simp
          refine (sclone_any vr A HL5.out.rd.row hla).mono ?_
          rintro e w6 ⟨v6, rfl, s1, s2, s3⟩
          obtain ⟨ya, yc, rfl⟩ := own_slice2 s1
          have m7 := HN5.out.newR s3 s1 s2 H1.out.hr
          have HM7 := hide m7.1
          have HG7 := hide m7.2
          have hM6 := HN5.out.below s3
          obtain ⟨-, -, -, b2'⟩ := hM6.c
          have z0 := hM6.rd.fz 0
          have z1 := hM6.rd.c0
          clear s1 s2 s3 m7 hM6 a2 a4 b2
          go_simp
          refine hK _ _ ?_
          clear hK K
          try simp only [Act.put, List.setIfInBounds_toArray, List.set_cons_zero, List.set_cons_succ]
          refine wpAny_take (i := 12) (oi := { dst := some 45, op := Op.nilCheck (Operand.tmp 36), type := 0, pos := "free.go:63", after := #[{ on := 3, ground := Ground.data }, { on := 0, ground := Ground.phase }, { on := 1, ground := Ground.phase }, { on := 2, ground := Ground.phase }, { on := 3, ground := Ground.phase }, { on := 4, ground := Ground.phase }, { on := 5, ground := Ground.phase }, { on := 6, ground := Ground.phase }, { on := 7, ground := Ground.phase }, { on := 8, ground := Ground.phase }, { on := 9, ground := Ground.phase }, { on := 10, ground := Ground.phase }, { on := 11, ground := Ground.phase }], guard := none }) (v := ?v12x35) rfl (by kernel_rfl) (by kernel_rfl) (by kernel_rfl) (fun _ _ _ h => h) (Or.inl ⟨by rfl, ?hy12x35⟩) ?rest12x35
          case hy12x35 => (intro w; (first | (go_simp; with_reducible rfl) | go_simp))
          try simp only [Act.put, List.setIfInBounds_toArray, List.set_cons_zero, List.set_cons_succ]
          refine wpAny_take (i := 13) (oi := { dst := some 46, op := Op.fieldAddr 97 (Operand.tmp 45) 0, type := 0, pos := "free.go:63", after := #[{ on := 12, ground := Ground.data }, { on := 0, ground := Ground.phase }, { on := 1, ground := Ground.phase }, { on := 2, ground := Ground.phase }, { on := 3, ground := Ground.phase }, { on := 4, ground := Ground.phase }, { on := 5, ground := Ground.phase }, { on := 6, ground := Ground.phase }, { on := 7, ground := Ground.phase }, { on := 8, ground := Ground.phase }, { on := 9, ground := Ground.phase }, { on := 10, ground := Ground.phase }, { on := 11, ground := Ground.phase }], guard := none }) (v := ?v13x36) rfl (by kernel_rfl) (by kernel_rfl) (by kernel_rfl) (fun _ _ _ h => h) (Or.inl ⟨by rfl, ?hy13x36⟩) ?rest13x36
          case hy13x36 => (intro w; (first | (go_simp; with_reducible rfl) | go_simp))
          try simp only [Act.put, List.setIfInBounds_toArray, List.set_cons_zero, List.set_cons_succ]
          refine wpAny_ready (rs := [14]) (by kernel_rfl) (by simp) ?_
          refine AllReady.cons (o := { dst := none, op := Op.store 93 (Operand.tmp 46) (Operand.tmp 44), type := 0, pos := "free.go:63", after := #[{ on := 13, ground := Ground.data }, { on := 11, ground := Ground.data }, { on := 11, ground := Ground.chain }, { on := 0, ground := Ground.phase }, { on := 1, ground := Ground.phase }, { on := 2, ground := Ground.phase }, { on := 3, ground := Ground.phase }, { on := 4, ground := Ground.phase }, { on := 5, ground := Ground.phase }, { on := 6, ground := Ground.phase }, { on := 7, ground := Ground.phase }, { on := 8, ground := Ground.phase }, { on := 9, ground := Ground.phase }, { on := 10, ground := Ground.phase }, { on := 11, ground := Ground.phase }], guard := none }) rfl (fun K hK => ?_) AllReady.nil
          go_simp
          refine hK _ _ ?_
          clear hK K
          try simp only [Act.put, List.setIfInBounds_toArray, List.set_cons_zero, List.set_cons_succ]
          refine wpAny_done (by kernel_rfl) ?_ _
          go_wp2
          go_ret
          have hgo := HG6.out.trans HG7.out
          refine ⟨l1, OwL l1 pw1 pr1 _ _, rfl, ⟨pw1, pr1, _, _, ms, R, A, B, HM7.out, H2.out, H3.out, fun k => Iff.rfl⟩, fun k hk => ?_, HD3.out.trans (hgo.mv.below HD3.out.size (fun k hk => Q3.out k (by exact hk)))⟩
          rcases hgo.own k hk with h | h
          · exact Q3.out k h
          · exact Nat.le_trans HD3.out.size h
        · skip
          go_simp
          refine hK _ _ ?_
          clear hK K
          try simp only [Act.put, List.setIfInBounds_toArray, List.set_cons_zero, List.set_cons_succ]
          refine wpAny_ready (rs := [3, 11]) (by kernel_rfl) (by simp) ?_
          refine AllReady.cons (o := { dst := some 36, op := Op.load 73 (Operand.tmp 35), type := 73, pos := "free.go:63", after := #[{ on := 2, ground := Ground.data }], guard := none }) rfl (fun K hK => ?_) (AllReady.cons (o := { dst := some 44, op := Op.call { callee := Callee.value (Operand.func 34), args := #[Operand.tmp 43], argTypes := #[93] }, type := 93, pos := "free.go:63", after := #[{ on := 10, ground := Ground.data }], guard := none }) rfl (fun K hK => ?_) AllReady.nil)
          · skip
            go_simp
            refine hK _ _ ?_
            clear hK K
            try simp only [Act.put, List.setIfInBounds_toArray, List.set_cons_zero, List.set_cons_succ]
            refine wpAny_ready (rs := [11]) (by kernel_rfl) (by simp) ?_
            refine AllReady.cons (o := { dst := some 44, op := Op.call { callee := Callee.value (Operand.func 34), args := #[Operand.tmp 43], argTypes := #[93] }, type := 93, pos := "free.go:63", after := #[{ on := 10, ground := Ground.data }], guard := none }) rfl (fun K hK => ?_) AllReady.nil
            go_simp
            refine (sclone_any vr A HL5.out.rd.row hla).mono ?_
            rintro e w6 ⟨v6, rfl, s1, s2, s3⟩
            obtain ⟨ya, yc, rfl⟩ := own_slice2 s1
            have m7 := HN5.out.newR s3 s1 s2 H1.out.hr
            have HM7 := hide m7.1
            have HG7 := hide m7.2
            have hM6 := HN5.out.below s3
            obtain ⟨-, -, -, b2'⟩ := hM6.c
            have z0 := hM6.rd.fz 0
            have z1 := hM6.rd.c0
            clear s1 s2 s3 m7 hM6 a2 a4 b2
            go_simp
            refine hK _ _ ?_
            clear hK K
            try simp only [Act.put, List.setIfInBounds_toArray, List.set_cons_zero, List.set_cons_succ]
            refine wpAny_take (i := 12) (oi := { dst := some 45, op := Op.nilCheck (Operand.tmp 36), type := 0, pos := "free.go:63", after := #[{ on := 3, ground := Ground.data }, { on := 0, ground := Ground.phase }, { on := 1, ground := Ground.phase }, { on := 2, ground := Ground.phase }, { on := 3, ground := Ground.phase }, { on := 4, ground := Ground.phase }, { on := 5, ground := Ground.phase }, { on := 6, ground := Ground.phase }, { on := 7, ground := Ground.phase }, { on := 8, ground := Ground.phase }, { on := 9, ground := Ground.phase }, { on := 10, ground := Ground.phase }, { on := 11, ground := Ground.phase }], guard := none }) (v := ?v12x37) rfl (by kernel_rfl) (by kernel_rfl) (by kernel_rfl) (fun _ _ _ h => h) (Or.inl ⟨by rfl, ?hy12x37⟩) ?rest12x37
            case hy12x37 => (intro w; (first | (go_simp; with_reducible rfl) | go_simp))
            try simp only [Act.put, List.setIfInBounds_toArray, List.set_cons_zero, List.set_cons_succ]
            refine wpAny_take (i := 13) (oi := { dst := some 46, op := Op.fieldAddr 97 (Operand.tmp 45) 0, type := 0, pos := "free.go:63", after := #[{ on := 12, ground := Ground.data }, { on := 0, ground := Ground.phase }, { on := 1, ground := Ground.phase }, { on := 2, ground := Ground.phase }, { on := 3, ground := Ground.phase }, { on := 4, ground := Ground.phase }, { on := 5, ground := Ground.phase }, { on := 6, ground := Ground.phase }, { on := 7, ground := Ground.phase }, { on := 8, ground := Ground.phase }, { on := 9, ground := Ground.phase }, { on := 10, ground := Ground.phase }, { on := 11, ground := Ground.phase }], guard := none }) (v := ?v13x38) rfl (by kernel_rfl) (by kernel_rfl) (by kernel_rfl) (fun _ _ _ h => h) (Or.inl ⟨by rfl, ?hy13x38⟩) ?rest13x38
            case hy13x38 => (intro w; (first | (go_simp; with_reducible rfl) | go_simp))
            try simp only [Act.put, List.setIfInBounds_toArray, List.set_cons_zero, List.set_cons_succ]
            refine wpAny_ready (rs := [14]) (by kernel_rfl) (by simp) ?_
            refine AllReady.cons (o := { dst := none, op := Op.store 93 (Operand.tmp 46) (Operand.tmp 44), type := 0, pos := "free.go:63", after := #[{ on := 13, ground := Ground.data }, { on := 11, ground := Ground.data }, { on := 11, ground := Ground.chain }, { on := 0, ground := Ground.phase }, { on := 1, ground := Ground.phase }, { on := 2, ground := Ground.phase }, { on := 3, ground := Ground.phase }, { on := 4, ground := Ground.phase }, { on := 5, ground := Ground.phase }, { on := 6, ground := Ground.phase }, { on := 7, ground := Ground.phase }, { on := 8, ground := Ground.phase }, { on := 9, ground := Ground.phase }, { on := 10, ground := Ground.phase }, { on := 11, ground := Ground.phase }], guard := none }) rfl (fun K hK => ?_) AllReady.nil
            go_simp
            refine hK _ _ ?_
            clear hK K
            try simp only [Act.put, List.setIfInBounds_toArray, List.set_cons_zero, List.set_cons_succ]
            refine wpAny_done (by kernel_rfl) ?_ _
            go_wp2
            go_ret
            have hgo := HG6.out.trans HG7.out
            refine ⟨l1, OwL l1 pw1 pr1 _ _, rfl, ⟨pw1, pr1, _, _, ms, R, A, B, HM7.out, H2.out, H3.out, fun k => Iff.rfl⟩, fun k hk => ?_, HD3.out.trans (hgo.mv.below HD3.out.size (fun k hk => Q3.out k (by exact hk)))⟩
            rcases hgo.own k hk with h | h
            · exact Q3.out k h
            · exact Nat.le_trans HD3.out.size h
          · skip
            go_simp
            refine (sclone_any vr A HL5.out.rd.row hla).mono ?_
            rintro e w6 ⟨v6, rfl, s1, s2, s3⟩
            obtain ⟨ya, yc, rfl⟩ := own_slice2 s1
            have m7 := HN5.out.newR s3 s1 s2 H1.out.hr
            have HM7 := hide m7.1
            have HG7 := hide m7.2
            have hM6 := HN5.out.below s3
            obtain ⟨-, -, -, b2'⟩ := hM6.c
            have z0 := hM6.rd.fz 0
            have z1 := hM6.rd.c0
            clear s1 s2 s3 m7 hM6 a2 a4 b2
            go_simp
            refine hK _ _ ?_
            clear hK K
            try simp only [Act.put, List.setIfInBounds_toArray, List.set_cons_zero, List.set_cons_succ]
            refine wpAny_ready (rs := [3]) (by kernel_rfl) (by simp) ?_
            refine AllReady.cons (o := { dst := some 36, op := Op.load 73 (Operand.tmp 35), type := 73, pos := "free.go:63", after := #[{ on := 2, ground := Ground.data }], guard := none }) rfl (fun K hK => ?_) AllReady.nil
            go_simp
            refine hK _ _ ?_
            clear hK K
            try simp only [Act.put, List.setIfInBounds_toArray, List.set_cons_zero, List.set_cons_succ]
            refine wpAny_take (i := 12) (oi := { dst := some 45, op := Op.nilCheck (Operand.tmp 36), type := 0, pos := "free.go:63", after := #[{ on := 3, ground := Ground.data }, { on := 0, ground := Ground.phase }, { on := 1, ground := Ground.phase }, { on := 2, ground := Ground.phase }, { on := 3, ground := Ground.phase }, { on := 4, ground := Ground.phase }, { on := 5, ground := Ground.phase }, { on := 6, ground := Ground.phase }, { on := 7, ground := Ground.phase }, { on := 8, ground := Ground.phase }, { on := 9, ground := Ground.phase }, { on := 10, ground := Ground.phase }, { on := 11, ground := Ground.phase }], guard := none }) (v := ?v12x39) rfl (by kernel_rfl) (by kernel_rfl) (by kernel_rfl) (fun _ _ _ h => h) (Or.inl ⟨by rfl, ?hy12x39⟩) ?rest12x39
            case hy12x39 => (intro w; (first | (go_simp; with_reducible rfl) | go_simp))
            try simp only [Act.put, List.setIfInBounds_toArray, List.set_cons_zero, List.set_cons_succ]
            refine wpAny_take (i := 13) (oi := { dst := some 46, op := Op.fieldAddr 97 (Operand.tmp 45) 0, type := 0, pos := "free.go:63", after := #[{ on := 12, ground := Ground.data }, { on := 0, ground := Ground.phase }, { on := 1, ground := Ground.phase }, { on := 2, ground := Ground.phase }, { on := 3, ground := Ground.phase }, { on := 4, ground := Ground.phase }, { on := 5, ground := Ground.phase }, { on := 6, ground := Ground.phase }, { on := 7, ground := Ground.phase }, { on := 8, ground := Ground.phase }, { on := 9, ground := Ground.phase }, { on := 10, ground := Ground.phase }, { on := 11, ground := Ground.phase }], guard := none }) (v := ?v13x40) rfl (by kernel_rfl) (by kernel_rfl) (by kernel_rfl) (fun _ _ _ h => h) (Or.inl ⟨by rfl, ?hy13x40⟩) ?rest13x40
            case hy13x40 => (intro w; (first | (go_simp; with_reducible rfl) | go_simp))
            try simp only [Act.put, List.setIfInBounds_toArray, List.set_cons_zero, List.set_cons_succ]
            refine wpAny_ready (rs := [14]) (by kernel_rfl) (by simp) ?_
            refine AllReady.cons (o := { dst := none, op := Op.store 93 (Operand.tmp 46) (Operand.tmp 44), type := 0, pos := "free.go:63", after := #[{ on := 13, ground := Ground.data }, { on := 11, ground := Ground.data }, { on := 11, ground := Ground.chain }, { on := 0, ground := Ground.phase }, { on := 1, ground := Ground.phase }, { on := 2, ground := Ground.phase }, { on := 3, ground := Ground.phase }, { on := 4, ground := Ground.phase }, { on := 5, ground := Ground.phase }, { on := 6, ground := Ground.phase }, { on := 7, ground := Ground.phase }, { on := 8, ground := Ground.phase }, { on := 9, ground := Ground.phase }, { on := 10, ground := Ground.phase }, { on := 11, ground := Ground.phase }], guard := none }) rfl (fun K hK => ?_) AllReady.nil
            go_simp
            refine hK _ _ ?_
            clear hK K
            try simp only [Act.put, List.setIfInBounds_toArray, List.set_cons_zero, List.set_cons_succ]
            refine wpAny_done (by kernel_rfl) ?_ _
            go_wp2
            go_ret
            have hgo := HG6.out.trans HG7.out
            refine ⟨l1, OwL l1 pw1 pr1 _ _, rfl, ⟨pw1, pr1, _, _, ms, R, A, B, HM7.out, H2.out, H3.out, fun k => Iff.rfl⟩, fun k hk => ?_, HD3.out.trans (hgo.mv.below HD3.out.size (fun k hk => Q3.out k (by exact hk)))⟩
            rcases hgo.own k hk with h | h
            · exact Q3.out k h
            · exact Nat.le_trans HD3.out.size h
    · skip
      go_simp
      refine hK _ _ ?_
      clear hK K
      try simp only [Act.put, List.setIfInBounds_toArray, List.set_cons_zero, List.set_cons_succ]
      refine wpAny_take (i := 8) (oi := { dst := some 27, op := Op.nilCheck (Operand.tmp 26), type := 0, pos := "free.go:62", after := #[{ on := 7, ground := Ground.data }], guard := none }) (v := ?v8x41) rfl (by kernel_rfl) (by kernel_rfl) (by kernel_rfl) (fun _ _ _ h => h) (Or.inl ⟨by rfl, ?hy8x41⟩) ?rest8x41
      case hy8x41 => (intro w; (first | (go_simp; with_reducible rfl) | go_simp))
      try simp only [Act.put, List.setIfInBounds_toArray, List.set_cons_zero, List.set_cons_succ]
      refine wpAny_take (i := 9) (oi := { dst := some 28, op := Op.fieldAddr 97 (Operand.tmp 27) 0, type := 0, pos := "free.go:62", after := #[{ on := 8, ground := Ground.data }], guard := none }) (v := ?v9x42) rfl (by kernel_rfl) (by kernel_rfl) (by kernel_rfl) (fun _ _ _ h => h) (Or.inl ⟨by rfl, ?hy9x42⟩) ?rest9x42
      case hy9x42 => (intro w; (first | (go_simp; with_reducible rfl) | go_simp))
      try simp only [Act.put, List.setIfInBounds_toArray, List.set_cons_zero, List.set_cons_succ]
      refine wpAny_ready (rs := [3, 10]) (by kernel_rfl) (by simp) ?_
      refine AllReady.cons (o := { dst := some 22, op := Op.load 73 (Operand.tmp 21), type := 73, pos := "free.go:62", after := #[{ on := 2, ground := Ground.data }], guard := none }) rfl (fun K hK => ?_) (AllReady.cons (o := { dst := some 29, op := Op.load 93 (Operand.tmp 28), type := 93, pos := "free.go:62", after := #[{ on := 9, ground := Ground.data }], guard := none }) rfl (fun K hK => ?_) AllReady.nil)
      · skip
        go_simp
        refine hK _ _ ?_
        clear hK K
        try simp only [Act.put, List.setIfInBounds_toArray, List.set_cons_zero, List.set_cons_succ]
        refine wpAny_ready (rs := [10]) (by kernel_rfl) (by simp) ?_
        refine AllReady.cons (o := { dst := some 29, op := Op.load 93 (Operand.tmp 28), type := 93, pos := "free.go:62", after := #[{ on := 9, ground := Ground.data }], guard := none }) rfl (fun K hK => ?_) AllReady.nil
        go_simp
        refine hK _ _ ?_
        clear hK K
        try simp only [Act.put, List.setIfInBounds_toArray, List.set_cons_zero, List.set_cons_succ]
        refine wpAny_ready (rs := [11]) (by kernel_rfl) (by simp) ?_
        refine AllReady.cons (o := { dst := some 30, op := Op.call { callee := Callee.value (Operand.func 34), args := #[Operand.tmp 29], argTypes := #[93] }, type := 93, pos := "free.go:62", after := #[{ on := 10, ground := Ground.data }], guard := none }) rfl (fun K hK => ?_) AllReady.nil
        go_simp
        refine (sclone_any vw B HL3.out.wt.row hlb).mono ?_
        rintro e w4 ⟨v4, rfl, s1, s2, s3⟩
        obtain ⟨xa, xc, rfl⟩ := own_slice2 s1
        have m5 := HN3.out.newW s3 s1 s2 H1.out.hw
        have HM5 := hide m5.1
        have HG5 := hide m5.2
        have hM4 := HN3.out.below s3
        obtain ⟨-, -, b2', -⟩ := hM4.c
        have z0 := hM4.wt.fz 0
        have z1 := hM4.wt.c0
        clear s1 s2 s3 m5 hM4 a2 a4 b2
        go_simp
        refine hK _ _ ?_
        clear hK K
        try simp only [Act.put, List.setIfInBounds_toArray, List.set_cons_zero, List.set_cons_succ]
        refine wpAny_take (i := 12) (oi := { dst := some 31, op := Op.nilCheck (Operand.tmp 22), type := 0, pos := "free.go:62", after := #[{ on := 3, ground := Ground.data }, { on := 0, ground := Ground.phase }, { on := 1, ground := Ground.phase }, { on := 2, ground := Ground.phase }, { on := 3, ground := Ground.phase }, { on := 4, ground := Ground.phase }, { on := 5, ground := Ground.phase }, { on := 6, ground := Ground.phase }, { on := 7, ground := Ground.phase }, { on := 8, ground := Ground.phase }, { on := 9, ground := Ground.phase }, { on := 10, ground := Ground.phase }, { on := 11, ground := Ground.phase }], guard := none }) (v := ?v12x43) rfl (by kernel_rfl) (by kernel_rfl) (by kernel_rfl) (fun _ _ _ h => h) (Or.inl ⟨by rfl, ?hy12x43⟩) ?rest12x43
        case hy12x43 => (intro w; (first | (go_simp; with_reducible rfl) | go_simp))
        try simp only [Act.put, List.setIfInBounds_toArray, List.set_cons_zero, List.set_cons_succ]
        refine wpAny_take (i := 13) (oi := { dst := some 32, op := Op.fieldAddr 97 (Operand.tmp 31) 0, type := 0, pos := "free.go:62", after := #[{ on := 12, ground := Ground.data }, { on := 0, ground := Ground.phase }, { on := 1, ground := Ground.phase }, { on := 2, ground := Ground.phase }, { on := 3, ground := Ground.phase }, { on := 4, ground := Ground.phase }, { on := 5, ground := Ground.phase }, { on := 6, ground := Ground.phase }, { on := 7, ground := Ground.phase }, { on := 8, ground := Ground.phase }, { on := 9, ground := Ground.phase }, { on := 10, ground := Ground.phase }, { on := 11, ground := Ground.phase }], guard := none }) (v := ?v13x44) rfl (by kernel_rfl) (by kernel_rfl) (by kernel_rfl) (fun _ _ _ h => h) (Or.inl ⟨by rfl, ?hy13x44⟩) ?rest13x44
        case hy13x44 => (intro w; (first | (go_simp; with_reducible rfl) | go_simp))
        try simp only [Act.put, List.setIfInBounds_toArray, List.set_cons_zero, List.set_cons_succ]
        refine wpAny_ready (rs := [14]) (by kernel_rfl) (by simp) ?_
        refine AllReady.cons (o := { dst := none, op := Op.store 93 (Operand.tmp 32) (Operand.tmp 30), type := 0, pos := "free.go:62", after := #[{ on := 13, ground := Ground.data }, { on := 11, ground := Ground.data }, { on := 11, ground := Ground.chain }, { on := 0, ground := Ground.phase }, { on := 1, ground := Ground.phase }, { on := 2, ground := Ground.phase }, { on := 3, ground := Ground.phase }, { on := 4, ground := Ground.phase }, { on := 5, ground := Ground.phase }, { on := 6, ground := Ground.phase }, { on := 7, ground := Ground.phase }, { on := 8, ground := Ground.phase }, { on := 9, ground := Ground.phase }, { on := 10, ground := Ground.phase }, { on := 11, ground := Ground.phase }], guard := none }) rfl (fun K hK => ?_) AllReady.nil
        go_simp
        refine hK _ _ ?_
        clear hK K
        try simp only [Act.put, List.setIfInBounds_toArray, List.set_cons_zero, List.set_cons_succ]
        refine wpAny_done (by kernel_rfl) ?_ _
        have hB5 := HD3.out.trans (HG5.out.mv.below HD3.out.size (fun k hk => Q3.out k (by exact hk)))
        have HB5 := hide hB5
        clear hB5 z0 z1 b2'
        generalize w4.setCell _ _ = W5 at *
        have HD5 : Hid (Below w.heap.size w W5.drew) := hide ⟨HB5.out.os, HB5.out.tape, HB5.out.output, HB5.out.size, HB5.out.block⟩
        have HL5 := hide (H1.out.below HD5.out)
        have HN5 : Hid (Lm W5.drew l1 pw1 pr1 (.slice xa B.length xc) vr1 ms R A1 B) := hide (HM5.out.stays (fun _ _ => rfl))
        have HG6 : Hid (Go1 (OwL l1 pw1 pr1 vw1 vr1) W3.drew (OwL l1 pw1 pr1 (.slice xa B.length xc) vr1) W5.drew) := hide HG5.out.drew
        obtain ⟨-, -, -, a2⟩ := HL5.out.c
        have a4 := HL5.out.rd.c0
        obtain ⟨-, -, -, b2⟩ := HN5.out.c
        go_wp2
        refine wp_region_any (by kernel_rfl) ?_
        change wpAny _ _ _ _ _ _ _ (World.drew _)
        refine wpAny_take (i := 0) (oi := { dst := some 33, op := Op.move (Operand.tmp 3), type := 23, pos := "free.go:63", after := #[], guard := none }) (v := ?v0x45) rfl (by kernel_rfl) (by kernel_rfl) (by kernel_rfl) (fun _ _ _ h => h) (Or.inl ⟨by rfl, ?hy0x45⟩) ?rest0x45
        case hy0x45 => (intro w; (first | (go_simp; with_reducible rfl) | go_simp))
        try simp only [Act.put, List.setIfInBounds_toArray, List.set_cons_zero, List.set_cons_succ]
        refine wpAny_take (i := 1) (oi := { dst := some 34, op := Op.nilCheck (Operand.tmp 33), type := 0, pos := "free.go:63", after := #[{ on := 0, ground := Ground.data }], guard := none }) (v := ?v1x46) rfl (by kernel_rfl) (by kernel_rfl) (by kernel_rfl) (fun _ _ _ h => h) (Or.inl ⟨by rfl, ?hy1x46⟩) ?rest1x46
        case hy1x46 => (intro w; (first | (go_simp; with_reducible rfl) | go_simp))
        try simp only [Act.put, List.setIfInBounds_toArray, List.set_cons_zero, List.set_cons_succ]
        refine wpAny_take (i := 2) (oi := { dst := some 35, op := Op.fieldAddr 78 (Operand.tmp 34) 3, type := 0, pos := "free.go:63", after := #[{ on := 1, ground := Ground.data }], guard := none }) (v := ?v2x47) rfl (by kernel_rfl) (by kernel_rfl) (by kernel_rfl) (fun _ _ _ h => h) (Or.inl ⟨by rfl, ?hy2x47⟩) ?rest2x47
        case hy2x47 => (intro w; (first | (go_simp; with_reducible rfl) | go_simp))
        try simp only [Act.put, List.setIfInBounds_toArray, List.set_cons_zero, List.set_cons_succ]
        refine wpAny_take (i := 4) (oi := { dst := some 37, op := Op.move (Operand.tmp 0), type := 23, pos := "free.go:63", after := #[], guard := none }) (v := ?v4x48) rfl (by kernel_rfl) (by kernel_rfl) (by kernel_rfl) (fun _ _ _ h => h) (Or.inl ⟨by rfl, ?hy4x48⟩) ?rest4x48
        case hy4x48 => (intro w; (first | (go_simp; with_reducible rfl) | go_simp))
        try simp only [Act.put, List.setIfInBounds_toArray, List.set_cons_zero, List.set_cons_succ]
        refine wpAny_take (i := 5) (oi := { dst := some 38, op := Op.nilCheck (Operand.tmp 37), type := 0, pos := "free.go:63", after := #[{ on := 4, ground := Ground.data }], guard := none }) (v := ?v5x49) rfl (by kernel_rfl) (by kernel_rfl) (by kernel_rfl) (fun _ _ _ h => h) (Or.inl ⟨by rfl, ?hy5x49⟩) ?rest5x49
        case hy5x49 => (intro w; (first | (go_simp; with_reducible rfl) | go_simp))
        try simp only [Act.put, List.setIfInBounds_toArray, List.set_cons_zero, List.set_cons_succ]
        refine wpAny_take (i := 6) (oi := { dst := some 39, op := Op.fieldAddr 78 (Operand.tmp 38) 3, type := 0, pos := "free.go:63", after := #[{ on := 5, ground := Ground.data }], guard := none }) (v := ?v6x50) rfl (by kernel_rfl) (by kernel_rfl) (by kernel_rfl) (fun _ _ _ h => h) (Or.inl ⟨by rfl, ?hy6x50⟩) ?rest6x50
        case hy6x50 => (intro w; (first | (go_simp; with_reducible rfl) | go_simp))
        try simp only [Act.put, List.setIfInBounds_toArray, List.set_cons_zero, List.set_cons_succ]
        refine wpAny_ready (rs := [3, 7]) (by kernel_rfl) (by simp) ?_
        refine AllReady.cons (o := { dst := some 36, op := Op.load 73 (Operand.tmp 35), type := 73, pos := "free.go:63", after := #[{ on := 2, ground := Ground.data }], guard := none }) rfl (fun K hK => ?_) (AllReady.cons (o := { dst := some 40, op := Op.load 73 (Operand.tmp 39), type := 73, pos := "free.go:63", after := #[{ on := 6, ground := Ground.data }], guard := none }) rfl (fun K hK => ?_) AllReady.nil)
        · skip
          go_simp
          refine hK _ _ ?_
          clear hK K
          try simp only [Act.put, List.setIfInBounds_toArray, List.set_cons_zero, List.set_cons_succ]
          refine wpAny_ready (rs := [7]) (by kernel_rfl) (by simp) ?_
          refine AllReady.cons (o := { dst := some 40, op := Op.load 73 (Operand.tmp 39), type := 73, pos := "free.go:63", after := #[{ on := 6, ground := Ground.data }], guard := none }) rfl (fun K hK => ?_) AllReady.nil
          go_simp
          refine hK _ _ ?_
          clear hK K
          try simp only [Act.put, List.setIfInBounds_toArray, List.set_cons_zero, List.set_cons_succ]
          refine wpAny_take (i := 8) (oi := { dst := some 41, op := Op.nilCheck (Operand.tmp 40), type := 0, pos := "free.go:63", after := #[{ on := 7, ground := Ground.data }], guard := none }) (v := ?v8x51) rfl (by kernel_rfl) (by kernel_rfl) (by kernel_rfl) (fun _ _ _ h => h) (Or.inl ⟨by rfl, ?hy8x51⟩) ?rest8x51
          case hy8x51 => (intro w; (first | (go_simp; with_reducible rfl) | go_simp))
          try simp only [Act.put, List.setIfInBounds_toArray, List.set_cons_zero, List.set_cons_succ]
          refine wpAny_take (i := 9) (oi := { dst := some 42, op := Op.fieldAddr 97 (Operand.tmp 41) 0, type := 0, pos := "free.go:63", after := #[{ on := 8, ground := Ground.data }], guard := none }) (v := ?v9x52) rfl (by kernel_rfl) (by kernel_rfl) (by kernel_rfl) (fun _ _ _ h => h) (Or.inl ⟨by rfl, ?hy9x52⟩) ?rest9x52
          case hy9x52 => (intro w; (first | (go_simp; with_reducible rfl) | go_simp))
          try simp only [Act.put, List.setIfInBounds_toArray, List.set_cons_zero, List.set_cons_succ]
          refine wpAny_ready (rs := [10]) (by kernel_rfl) (by simp) ?_
          refine AllReady.cons (o := { dst := some 43, op := Op.load 93 (Operand.tmp 42), type := 93, pos := "free.go:63", after := #[{ on := 9, ground := Ground.data }], guard := none }) rfl (fun K hK => ?_) AllReady.nil
          go_simp
          refine hK _ _ ?_
          clear hK K
          try simp only [Act.put, List.setIfInBounds_toArray, List.set_cons_zero, List.set_cons_succ]
          refine wpAny_ready (rs := [11]) (by kernel_rfl) (by simp) ?_
          refine AllReady.cons (o := { dst := some 44, op := Op.call { callee := Callee.value (Operand.func 34), args := #[Operand.tmp 43], argTypes := #[93] }, type := 93, pos := "free.go:63", after := #[{ on := 10, ground := Ground.data }], guard := none }) rfl (fun K hK => ?_) AllReady.nil
          go_simp
          refine (sclone_any vr A HL5.out.rd.row hla).mono ?_
          rintro e w6 ⟨v6, rfl, s1, s2, s3⟩
          obtain ⟨ya, yc, rfl⟩ := own_slice2 s1
          have m7 := HN5.out.newR s3 s1 s2 H1.out.hr
          have HM7 := hide m7.1
          have HG7 := hide m7.2
          have hM6 := HN5.out.below s3
          obtain ⟨-, -, -, b2'⟩ := hM6.c
          have z0 := hM6.rd.fz 0
          have z1 := hM6.rd.c0
          clear s1 s2 s3 m7 hM6 a2 a4 b2
          go_simp
          refine hK _ _ ?_
          clear hK K
          try simp only [Act.put, List.setIfInBounds_toArray, List.set_cons_zero, List.set_cons_succ]
          refine wpAny_take (i := 12) (oi := { dst := some 45, op := Op.nilCheck (Operand.tmp 36), type := 0, pos := "free.go:63", after := #[{ on := 3, ground := Ground.data }, { on := 0, ground := Ground.phase }, { on := 1, ground := Ground.phase }, { on := 2, ground := Ground.phase }, { on := 3, ground := Ground.phase }, { on := 4, ground := Ground.phase }, { on := 5, ground := Ground.phase }, { on := 6, ground := Ground.phase }, { on := 7, ground := Ground.phase }, { on := 8, ground := Ground.phase }, { on := 9, ground := Ground.phase }, { on := 10, ground := Ground.phase }, { on := 11, ground := Ground.phase }], guard := none }) (v := ?v12x53) rfl (by kernel_rfl) (by kernel_rfl) (by kernel_rfl) (fun _ _ _ h => h) (Or.inl ⟨by rfl, ?hy12x53⟩) ?rest12x53
          case hy12x53 => (intro w; (first | (go_simp; with_reducible rfl) | go_simp))
          try simp only [Act.put, List.setIfInBounds_toArray, List.set_cons_zero, List.set_cons_succ]
          refine wpAny_take (i := 13) (oi := { dst := some 46, op := Op.fieldAddr 97 (Operand.tmp 45) 0, type := 0, pos := "free.go:63", after := #[{ on := 12, ground := Ground.data }, { on := 0, ground := Ground.phase }, { on := 1, ground := Ground.phase }, { on := 2, ground := Ground.phase }, { on := 3, ground := Ground.phase }, { on := 4, ground := Ground.phase }, { on := 5, ground := Ground.phase }, { on := 6, ground := Ground.phase }, { on := 7, ground := Ground.phase }, { on := 8, ground := Ground.phase }, { on := 9, ground := Ground.phase }, { on := 10, ground := Ground.phase }, { on := 11, ground := Ground.phase }], guard := none }) (v := ?v13x54) rfl (by kernel_rfl) (by kernel_rfl) (by kernel_rfl) (fun _ _ _ h => h) (Or.inl ⟨by rfl, ?hy13x54⟩) ?rest13x54
          case hy13x54 => (intro w; (first | (go_simp; with_reducible rfl) | go_simp))
          try simp only [Act.put, List.setIfInBounds_toArray, List.set_cons_zero, List.set_cons_succ]
          refine wpAny_ready (rs := [14]) (by kernel_rfl) (by simp) ?_
          refine AllReady.cons (o := { dst := none, op := Op.store 93 (Operand.tmp 46) (Operand.tmp 44), type := 0, pos := "free.go:63", after := #[{ on := 13, ground := Ground.data }, { on := 11, ground := Ground.data }, { on := 11, ground := Ground.chain }, { on := 0, ground := Ground.phase }, { on := 1, ground := Ground.phase }, { on := 2, ground := Ground.phase }, { on := 3, ground := Ground.phase }, { on := 4, ground := Ground.phase }, { on := 5, ground := Ground.phase }, { on := 6, ground := Ground.phase }, { on := 7, ground := Ground.phase }, { on := 8, ground := Ground.phase }, { on := 9, ground := Ground.phase }, { on := 10, ground := Ground.phase }, { on := 11, ground := Ground.phase }], guard := none }) rfl (fun K hK => ?_) AllReady.nil
          go_simp
          refine hK _ _ ?_
          clear hK K
          try simp only [Act.put, List.setIfInBounds_toArray, List.set_cons_zero, List.set_cons_succ]
          refine wpAny_done (by kernel_rfl) ?_ _
          go_wp2
          go_ret
          have hgo := HG6.out.trans HG7.out
          refine ⟨l1, OwL l1 pw1 pr1 _ _, rfl, ⟨pw1, pr1, _, _, ms, R, A, B, HM7.out, H2.out, H3.out, fun k => Iff.rfl⟩, fun k hk => ?_, HD3.out.trans (hgo.mv.below HD3.out.size (fun k hk => Q3.out k (by exact hk)))⟩
          rcases hgo.own k hk with h | h
          · exact Q3.out k h
          · exact Nat.le_trans HD3.out.size h
        · skip
          go_simp
          refine hK _ _ ?_
          clear hK K
          try simp only [Act.put, List.setIfInBounds_toArray, List.set_cons_zero, List.set_cons_succ]
          refine wpAny_take (i := 8) (oi := { dst := some 41, op := Op.nilCheck (Operand.tmp 40), type := 0, pos := "free.go:63", after := #[{ on := 7, ground := Ground.data }], guard := none }) (v := ?v8x55) rfl (by kernel_rfl) (by kernel_rfl) (by kernel_rfl) (fun _ _ _ h => h) (Or.inl ⟨by rfl, ?hy8x55⟩) ?rest8x55
          case hy8x55 => (intro w; (first | (go_simp; with_reducible rfl) | go_simp))
          try simp only [Act.put, List.setIfInBounds_toArray, List.set_cons_zero, List.set_cons_succ]
          refine wpAny_take (i := 9) (oi := { dst := some 42, op := Op.fieldAddr 97 (Operand.tmp 41) 0, type := 0, pos := "free.go:63", after := #[{ on := 8, ground := Ground.data }], guard := none }) (v := ?v9x56) rfl (by kernel_rfl) (by kernel_rfl) (by kernel_rfl) (fun _ _ _ h => h) (Or.inl ⟨by rfl, ?hy9x56⟩) ?rest9x56
          case hy9x56 => (intro w; (first | (go_simp; with_reducible rfl) | go_simp))
          try simp only [Act.put, List.setIfInBounds_toArray, List.set_cons_zero, List.set_cons_succ]
          refine wpAny_ready (rs := [3, 10]) (by kernel_rfl) (by simp) ?_
          refine AllReady.cons (o := { dst := some 36, op := Op.load 73 (Operand.tmp 35), type := 73, pos := "free.go:63", after := #[{ on := 2, ground := Ground.data }], guard := none }) rfl (fun K hK => ?_) (AllReady.cons (o := { dst := some 43, op := Op.load 93 (Operand.tmp 42), type := 93, pos := "free.go:63", after := #[{ on := 9, ground := Ground.data }], guard := none }) rfl (fun K hK => ?_) AllReady.nil)
          · skip
            go_simp
            refine hK _ _ ?_
            clear hK K
            try simp only [Act.put, List.setIfInBounds_toArray, List.set_cons_zero, List.set_cons_succ]
            refine wpAny_ready (rs := [10]) (by kernel_rfl) (by simp) ?_
            refine AllReady.cons (o := { dst := some 43, op := Op.load 93 (Operand.tmp 42), type := 93, pos := "free.go:63", after := #[{ on := 9, ground := Ground.data }], guard := none }) rfl (fun K hK => ?_) AllReady.nil
            go_simp
            refine hK _ _ ?_
            clear hK K
            try simp only [Act.put, List.setIfInBounds_toArray, List.set_cons_zero, List.set_cons_succ]
            refine wpAny_ready (rs := [11]) (by kernel_rfl) (by simp) ?_
            refine AllReady.cons (o := { dst := some 44, op := Op.call { callee := Callee.value (Operand.func 34), args := #[Operand.tmp 43], argTypes := #[93] }, type := 93, pos := "free.go:63", after := #[{ on := 10, ground := Ground.data }], guard := none }) rfl (fun K hK => ?_) AllReady.nil
            go_simp
            refine (sclone_any vr A HL5.out.rd.row hla).mono ?_
            rintro e w6 ⟨v6, rfl, s1, s2, s3⟩
            obtain ⟨ya, yc, rfl⟩ := own_slice2 s1
            have m7 := HN5.out.newR s3 s1 s2 H1.out.hr
            have HM7 := hide m7.1
            have HG7 := hide m7.2
            have hM6 := HN5.out.below s3
            obtain ⟨-, -, -, b2'⟩ := hM6.c
            have z0 := hM6.rd.fz 0
            have z1 := hM6.rd.c0
            clear s1 s2 s3 m7 hM6 a2 a4 b2
            go_simp
            refine hK _ _ ?_
            clear hK K
            try simp only [Act.put, List.setIfInBounds_toArray, List.set_cons_zero, List.set_cons_succ]
            refine wpAny_take (i := 12) (oi := { dst := some 45, op := Op.nilCheck (Operand.tmp 36), type := 0, pos := "free.go:63", after := #[{ on := 3, ground := Ground.data }, { on := 0, ground := Ground.phase }, { on := 1, ground := Ground.phase }, { on := 2, ground := Ground.phase }, { on := 3, ground := Ground.phase }, { on := 4, ground := Ground.phase }, { on := 5, ground := Ground.phase }, { on := 6, ground := Ground.phase }, { on := 7, ground := Ground.phase }, { on := 8, ground := Ground.phase }, { on := 9, ground := Ground.phase }, { on := 10, ground := Ground.phase }, { on := 11, ground := Ground.phase }], guard := none }) (v := ?v12x57) rfl (by kernel_rfl) (by kernel_rfl) (by kernel_rfl) (fun _ _ _ h => h) (Or.inl ⟨by rfl, ?hy12x57⟩) ?rest12x57
            case hy12x57 => (intro w; (first | (go_simp; with_reducible rfl) | go_simp))
            try simp only [Act.put, List.setIfInBounds_toArray, List.set_cons_zero, List.set_cons_succ]
            refine wpAny_take (i := 13) (oi := { dst := some 46, op := Op.fieldAddr 97 (Operand.tmp 45) 0, type := 0, pos := "free.go:63", after := #[{ on := 12, ground := Ground.data }, { on := 0, ground := Ground.phase }, { on := 1, ground := Ground.phase }, { on := 2, ground := Ground.phase }, { on := 3, ground := Ground.phase }, { on := 4, ground := Ground.phase }, { on := 5, ground := Ground.phase }, { on := 6, ground := Ground.phase }, { on := 7, ground := Ground.phase }, { on := 8, ground := Ground.phase }, { on := 9, ground := Ground.phase }, { on := 10, ground := Ground.phase }, { on := 11, ground := Ground.phase }], guard := none }) (v := ?v13x58) rfl (by kernel_rfl) (by kernel_rfl) (by kernel_rfl) (fun _ _ _ h => h) (Or.inl ⟨by rfl, ?hy13x58⟩) ?rest13x58
            case hy13x58 => (intro w; (first | (go_simp; with_reducible rfl) | go_simp))
            try simp only [Act.put, List.setIfInBounds_toArray, List.set_cons_zero, List.set_cons_succ]
            refine wpAny_ready (rs := [14]) (by kernel_rfl) (by simp) ?_
            refine AllReady.cons (o := { dst := none, op := Op.store 93 (Operand.tmp 46) (Operand.tmp 44), type := 0, pos := "free.go:63", after := #[{ on := 13, ground := Ground.data }, { on := 11, ground := Ground.data }, { on := 11, ground := Ground.chain }, { on := 0, ground := Ground.phase }, { on := 1, ground := Ground.phase }, { on := 2, ground := Ground.phase }, { on := 3, ground := Ground.phase }, { on := 4, ground := Ground.phase }, { on := 5, ground := Ground.phase }, { on := 6, ground := Ground.phase }, { on := 7, ground := Ground.phase }, { on := 8, ground := Ground.phase }, { on := 9, ground := Ground.phase }, { on := 10, ground := Ground.phase }, { on := 11, ground := Ground.phase }], guard := none }) rfl (fun K hK => ?_) AllReady.nil
            go_simp
            refine hK _ _ ?_
            clear hK K
            try simp only [Act.put, List.setIfInBounds_toArray, List.set_cons_zero, List.set_cons_succ]
            refine wpAny_done (by kernel_rfl) ?_ _
            go_wp2
            go_ret
            have hgo := HG6.out.trans HG7.out
            refine ⟨l1, OwL l1 pw1 pr1 _ _, rfl, ⟨pw1, pr1, _, _, ms, R, A, B, HM7.out, H2.out, H3.out, fun k => Iff.rfl⟩, fun k hk => ?_, HD3.out.trans (hgo.mv.below HD3.out.size (fun k hk => Q3.out k (by exact hk)))⟩
            rcases hgo.own k hk with h | h
            · exact Q3.out k h
            · exact Nat.le_trans HD3.out.size h
          · skip
            go_simp
            refine hK _ _ ?_
            clear hK K
            try simp only [Act.put, List.setIfInBounds_toArray, List.set_cons_zero, List.set_cons_succ]
            refine wpAny_ready (rs := [3, 11]) (by kernel_rfl) (by simp) ?_
            refine AllReady.cons (o := { dst := some 36, op := Op.load 73 (Operand.tmp 35), type := 73, pos := "free.go:63", after := #[{ on := 2, ground := Ground.data }], guard := none }) rfl (fun K hK => ?_) (AllReady.cons (o := { dst := some 44, op := Op.call { callee := Callee.value (Operand.func 34), args := #[Operand.tmp 43], argTypes := #[93] }, type := 93, pos := "free.go:63", after := #[{ on := 10, ground := Ground.data }], guard := none }) rfl (fun K hK => ?_) AllReady.nil)
            · skip
              go_simp
              refine hK _ _ ?_
              clear hK K
              try simp only [Act.put, List.setIfInBounds_toArray, List.set_cons_zero, List.set_cons_succ]
              refine wpAny_ready (rs := [11]) (by kernel_rfl) (by simp) ?_
              refine AllReady.cons (o := { dst := some 44, op := Op.call { callee := Callee.value (Operand.func 34), args := #[Operand.tmp 43], argTypes := #[93] }, type := 93, pos := "free.go:63", after := #[{ on := 10, ground := Ground.data }], guard := none }) rfl (fun K hK => ?_) AllReady.nil
              go_simp
              refine (sclone_any vr A HL5.out.rd.row hla).mono ?_
              rintro e w6 ⟨v6, rfl, s1, s2, s3⟩
              obtain ⟨ya, yc, rfl⟩ := own_slice2 s1
              have m7 := HN5.out.newR s3 s1 s2 H1.out.hr
              have HM7 := hide m7.1
              have HG7 := hide m7.2
              have hM6 := HN5.out.below s3
              obtain ⟨-, -, -, b2'⟩ := hM6.c
              have z0 := hM6.rd.fz 0
              have z1 := hM6.rd.c0
              clear s1 s2 s3 m7 hM6 a2 a4 b2
              go_simp
              refine hK _ _ ?_
              clear hK K
              try simp only [Act.put, List.setIfInBounds_toArray, List.set_cons_zero, List.set_cons_succ]
              refine wpAny_take (i := 12) (oi := { dst := some 45, op := Op.nilCheck (Operand.tmp 36), type := 0, pos := "free.go:63", after := #[{ on := 3, ground := Ground.data }, { on := 0, ground := Ground.phase }, { on := 1, ground := Ground.phase }, { on := 2, ground := Ground.phase }, { on := 3, ground := Ground.phase }, { on := 4, ground := Ground.phase }, { on := 5, ground := Ground.phase }, { on := 6, ground := Ground.phase }, { on := 7, ground := Ground.phase }, { on := 8, ground := Ground.phase }, { on := 9, ground := Ground.phase }, { on := 10, ground := Ground.phase }, { on := 11, ground := Ground.phase }], guard := none }) (v := ?v12x59) rfl (by kernel_rfl) (by kernel_rfl) (by kernel_rfl) (fun _ _ _ h => h) (Or.inl ⟨by rfl, ?hy12x59⟩) ?rest12x59
              case hy12x59 => (intro w; (first | (go_simp; with_reducible rfl) | go_simp))
              try simp only [Act.put, List.setIfInBounds_toArray, List.set_cons_zero, List.set_cons_succ]
              refine wpAny_take (i := 13) (oi := { dst := some 46, op := Op.fieldAddr 97 (Operand.tmp 45) 0, type := 0, pos := "free.go:63", after := #[{ on := 12, ground := Ground.data }, { on := 0, ground := Ground.phase }, { on := 1, ground := Ground.phase }, { on := 2, ground := Ground.phase }, { on := 3, ground := Ground.phase }, { on := 4, ground := Ground.phase }, { on := 5, ground := Ground.phase }, { on := 6, ground := Ground.phase }, { on := 7, ground := Ground.phase }, { on := 8, ground := Ground.phase }, { on := 9, ground := Ground.phase }, { on := 10, ground := Ground.phase }, { on := 11, ground := Ground.phase }], guard := none }) (v := ?v13x60) rfl (by kernel_rfl) (by kernel_rfl) (by kernel_rfl) (fun _ _ _ h => h) (Or.inl ⟨by rfl, ?hy13x60⟩) ?rest13x60
              case hy13x60 => (intro w; (first | (go_simp; with_reducible rfl) | go_simp))
              try simp only [Act.put, List.setIfInBounds_toArray, List.set_cons_zero, List.set_cons_succ]
              refine wpAny_ready (rs := [14]) (by kernel_rfl) (by simp) ?_
              refine AllReady.cons (o := { dst := none, op := Op.store 93 (Operand.tmp 46) (Operand.tmp 44), type := 0, pos := "free.go:63", after := #[{ on := 13, ground := Ground.data }, { on := 11, ground := Ground.data }, { on := 11, ground := Ground.chain }, { on := 0, ground := Ground.phase }, { on := 1, ground := Ground.phase }, { on := 2, ground := Ground.phase }, { on := 3, ground := Ground.phase }, { on := 4, ground := Ground.phase }, { on := 5, ground := Ground.phase }, { on := 6, ground := Ground.phase }, { on := 7, ground := Ground.phase }, { on := 8, ground := Ground.phase }, { on := 9, ground := Ground.phase }, { on := 10, ground := Ground.phase }, { on := 11, ground := Ground.phase }], guard := none }) rfl (fun K hK => ?_) AllReady.nil
              go_simp
              refine hK _ _ ?_
              clear hK K
              try simp only [Act.put, List.setIfInBounds_toArray, List.set_cons_zero, List.set_cons_succ]
              refine wpAny_done (by kernel_rfl) ?_ _
              go_wp2
              go_ret
              have hgo := HG6.out.trans HG7.out
              refine ⟨l1, OwL l1 pw1 pr1 _ _, rfl, ⟨pw1, pr1, _, _, ms, R, A, B, HM7.out, H2.out, H3.out, fun k => Iff.rfl⟩, fun k hk => ?_, HD3.out.trans (hgo.mv.below HD3.out.size (fun k hk => Q3.out k (by exact hk)))⟩
              rcases hgo.own k hk with h | h
              · exact Q3.out k h
              · exact Nat.le_trans HD3.out.size h
            · skip
              go_simp
              refine (sclone_any vr A HL5.out.rd.row hla).mono ?_
              rintro e w6 ⟨v6, rfl, s1, s2, s3⟩
              obtain ⟨ya, yc, rfl⟩ := own_slice2 s1
              have m7 := HN5.out.newR s3 s1 s2 H1.out.hr
              have HM7 := hide m7.1
              have HG7 := hide m7.2
              have hM6 := HN5.out.below s3
              obtain ⟨-, -, -, b2'⟩ := hM6.c
              have z0 := hM6.rd.fz 0
              have z1 := hM6.rd.c0
              clear s1 s2 s3 m7 hM6 a2 a4 b2
              go_simp
              refine hK _ _ ?_
              clear hK K
              try simp only [Act.put, List.setIfInBounds_toArray, List.set_cons_zero, List.set_cons_succ]
              refine wpAny_ready (rs := [3]) (by kernel_rfl) (by simp) ?_
              refine AllReady.cons (o := { dst := some 36, op := Op.load 73 (Operand.tmp 35), type := 73, pos := "free.go:63", after := #[{ on := 2, ground := Ground.data }], guard := none }) rfl (fun K hK => ?_) AllReady.nil
              go_simp
              refine hK _ _ ?_
              clear hK K
              try simp only [Act.put, List.setIfInBounds_toArray, List.set_cons_zero, List.set_cons_succ]
              refine wpAny_take (i := 12) (oi := { dst := some 45, op := Op.nilCheck (Operand.tmp 36), type := 0, pos := "free.go:63", after := #[{ on := 3, ground := Ground.data }, { on := 0, ground := Ground.phase }, { on := 1, ground := Ground.phase }, { on := 2, ground := Ground.phase }, { on := 3, ground := Ground.phase }, { on := 4, ground := Ground.phase }, { on := 5, ground := Ground.phase }, { on := 6, ground := Ground.phase }, { on := 7, ground := Ground.phase }, { on := 8, ground := Ground.phase }, { on := 9, ground := Ground.phase }, { on := 10, ground := Ground.phase }, { on := 11, ground := Ground.phase }], guard := none }) (v := ?v12x61) rfl (by kernel_rfl) (by kernel_rfl) (by kernel_rfl) (fun _ _ _ h => h) (Or.inl ⟨by rfl, ?hy12x61⟩) ?rest12x61
              case hy12x61 => (intro w; (first | (go_simp; with_reducible rfl) | go_simp))
              try simp only [Act.put, List.setIfInBounds_toArray, List.set_cons_zero, List.set_cons_succ]
              refine wpAny_take (i := 13) (oi := { dst := some 46, op := Op.fieldAddr 97 (Operand.tmp 45) 0, type := 0, pos := "free.go:63", after := #[{ on := 12, ground := Ground.data }, { on := 0, ground := Ground.phase }, { on := 1, ground := Ground.phase }, { on := 2, ground := Ground.phase }, { on := 3, ground := Ground.phase }, { on := 4, ground := Ground.phase }, { on := 5, ground := Ground.phase }, { on := 6, ground := Ground.phase }, { on := 7, ground := Ground.phase }, { on := 8, ground := Ground.phase }, { on := 9, ground := Ground.phase }, { on := 10, ground := Ground.phase }, { on := 11, ground := Ground.phase }], guard := none }) (v := ?v13x62) rfl (by kernel_rfl) (by kernel_rfl) (by kernel_rfl) (fun _ _ _ h => h) (Or.inl ⟨by rfl, ?hy13x62⟩) ?rest13x62
              case hy13x62 => (intro w; (first | (go_simp; with_reducible rfl) | go_simp))
              try simp only [Act.put, List.setIfInBounds_toArray, List.set_cons_zero, List.set_cons_succ]
              refine wpAny_ready (rs := [14]) (by kernel_rfl) (by simp) ?_
              refine AllReady.cons (o := { dst := none, op := Op.store 93 (Operand.tmp 46) (Operand.tmp 44), type := 0, pos := "free.go:63", after := #[{ on := 13, ground := Ground.data }, { on := 11, ground := Ground.data }, { on := 11, ground := Ground.chain }, { on := 0, ground := Ground.phase }, { on := 1, ground := Ground.phase }, { on := 2, ground := Ground.phase }, { on := 3, ground := Ground.phase }, { on := 4, ground := Ground.phase }, { on := 5, ground := Ground.phase }, { on := 6, ground := Ground.phase }, { on := 7, ground := Ground.phase }, { on := 8, ground := Ground.phase }, { on := 9, ground := Ground.phase }, { on := 10, ground := Ground.phase }, { on := 11, ground := Ground.phase }], guard := none }) rfl (fun K hK => ?_) AllReady.nil
              go_simp
              refine hK _ _ ?_
              clear hK K
              try simp only [Act.put, List.setIfInBounds_toArray, List.set_cons_zero, List.set_cons_succ]
              refine wpAny_done (by kernel_rfl) ?_ _
              go_wp2
              go_ret
              have hgo := HG6.out.trans HG7.out
              refine ⟨l1, OwL l1 pw1 pr1 _ _, rfl, ⟨pw1, pr1, _, _, ms, R, A, B, HM7.out, H2.out, H3.out, fun k => Iff.rfl⟩, fun k hk => ?_, HD3.out.trans (hgo.mv.below HD3.out.size (fun k hk => Q3.out k (by exact hk)))⟩
              rcases hgo.own k hk with h | h
              · exact Q3.out k h
              · exact Nat.le_trans HD3.out.size h
      · skip
        go_simp
        refine hK _ _ ?_
        clear hK K
        try simp only [Act.put, List.setIfInBounds_toArray, List.set_cons_zero, List.set_cons_succ]
        refine wpAny_ready (rs := [3, 11]) (by kernel_rfl) (by simp) ?_
        refine AllReady.cons (o := { dst := some 22, op := Op.load 73 (Operand.tmp 21), type := 73, pos := "free.go:62", after := #[{ on := 2, ground := Ground.data }], guard := none }) rfl (fun K hK => ?_) (AllReady.cons (o := { dst := some 30, op := Op.call { callee := Callee.value (Operand.func 34), args := #[Operand.tmp 29], argTypes := #[93] }, type := 93, pos := "free.go:62", after := #[{ on := 10, ground := Ground.data }], guard := none }) rfl (fun K hK => ?_) AllReady.nil)
        · skip
          go_simp
          refine hK _ _ ?_
          clear hK K
          try simp only [Act.put, List.setIfInBounds_toArray, List.set_cons_zero, List.set_cons_succ]
          refine wpAny_ready (rs := [11]) (by kernel_rfl) (by simp) ?_
          refine AllReady.cons (o := { dst := some 30, op := Op.call { callee := Callee.value (Operand.func 34), args := #[Operand.tmp 29], argTypes := #[93] }, type := 93, pos := "free.go:62", after := #[{ on := 10, ground := Ground.data }], guard := none }) rfl (fun K hK => ?_) AllReady.nil
          go_simp
          refine (sclone_any vw B HL3.out.wt.row hlb).mono ?_
          rintro e w4 ⟨v4, rfl, s1, s2, s3⟩
          obtain ⟨xa, xc, rfl⟩ := own_slice2 s1
          have m5 := HN3.out.newW s3 s1 s2 H1.out.hw
          have HM5 := hide m5.1
          have HG5 := hide m5.2
          have hM4 := HN3.out.below s3
          obtain ⟨-, -, b2', -⟩ := hM4.c
          have z0 := hM4.wt.fz 0
          have z1 := hM4.wt.c0
          clear s1 s2 s3 m5 hM4 a2 a4 b2
          go_simp
          refine hK _ _ ?_
          clear hK K
          try simp only [Act.put, List.setIfInBounds_toArray, List.set_cons_zero, List.set_cons_succ]
          refine wpAny_take (i := 12) (oi := { dst := some 31, op := Op.nilCheck (Operand.tmp 22), type := 0, pos := "free.go:62", after := #[{ on := 3, ground := Ground.data }, { on := 0, ground := Ground.phase }, { on := 1, ground := Ground.phase }, { on := 2, ground := Ground.phase }, { on := 3, ground := Ground.phase }, { on := 4, ground := Ground.phase }, { on := 5, ground := Ground.phase }, { on := 6, ground := Ground.phase }, { on := 7, ground := Ground.phase }, { on := 8, ground := Ground.phase }, { on := 9, ground := Ground.phase }, { on := 10, ground := Ground.phase }, { on := 11, ground := Ground.phase }], guard := none }) (v := ?v12x63) rfl (by kernel_rfl) (by kernel_rfl) (by kernel_rfl) (fun _ _ _ h => h) (Or.inl ⟨by rfl, ?hy12x63⟩) ?rest12x63
          case hy12x63 => (intro w; (first | (go_simp; with_reducible rfl) | go_simp))
          try simp only [Act.put, List.setIfInBounds_toArray, List.set_cons_zero, List.set_cons_succ]
          refine wpAny_take (i := 13) (oi := { dst := some 32, op := Op.fieldAddr 97 (Operand.tmp 31) 0, type := 0, pos := "free.go:62", after := #[{ on := 12, ground := Ground.data }, { on := 0, ground := Ground.phase }, { on := 1, ground := Ground.phase }, { on := 2, ground := Ground.phase }, { on := 3, ground := Ground.phase }, { on := 4, ground := Ground.phase }, { on := 5, ground := Ground.phase }, { on := 6, ground := Ground.phase }, { on := 7, ground := Ground.phase }, { on := 8, ground := Ground.phase }, { on := 9, ground := Ground.phase }, { on := 10, ground := Ground.phase }, { on := 11, ground := Ground.phase }], guard := none }) (v := ?v13x64) rfl (by kernel_rfl) (by kernel_rfl) (by kernel_rfl) (fun _ _ _ h => h) (Or.inl ⟨by rfl, ?hy13x64⟩) ?rest13x64
          case hy13x64 => (intro w; (first | (go_simp; with_reducible rfl) | go_simp))
          try simp only [Act.put, List.setIfInBounds_toArray, List.set_cons_zero, List.set_cons_succ]
          refine wpAny_ready (rs := [14]) (by kernel_rfl) (by simp) ?_
          refine AllReady.cons (o := { dst := none, op := Op.store 93 (Operand.tmp 32) (Operand.tmp 30), type := 0, pos := "free.go:62", after := #[{ on := 13, ground := Ground.data }, { on := 11, ground := Ground.data }, { on := 11, ground := Ground.chain }, { on := 0, ground := Ground.phase }, { on := 1, ground := Ground.phase }, { on := 2, ground := Ground.phase }, { on := 3, ground := Ground.phase }, { on := 4, ground := Ground.phase }, { on := 5, ground := Ground.phase }, { on := 6, ground := Ground.phase }, { on := 7, ground := Ground.phase }, { on := 8, ground := Ground.phase }, { on := 9, ground := Ground.phase }, { on := 10, ground := Ground.phase }, { on := 11, ground := Ground.phase }], guard := none }) rfl (fun K hK => ?_) AllReady.nil
          go_simp
          refine hK _ _ ?_
          clear hK K
          try simp only [Act.put, List.setIfInBounds_toArray, List.set_cons_zero, List.set_cons_succ]
          refine wpAny_done (by kernel_rfl) ?_ _
          have hB5 := HD3.out.trans (HG5.out.mv.below HD3.out.size (fun k hk => Q3.out k (by exact hk)))
          have HB5 := hide hB5
          clear hB5 z0 z1 b2'
          generalize w4.setCell _ _ = W5 at *
          have HD5 : Hid (Below w.heap.size w W5.drew) := hide ⟨HB5.out.os, HB5.out.tape, HB5.out.output, HB5.out.size, HB5.out.block⟩
          have HL5 := hide (H1.out.below HD5.out)
          have HN5 : Hid (Lm W5.drew l1 pw1 pr1 (.slice xa B.length xc) vr1 ms R A1 B) := hide (HM5.out.stays (fun _ _ => rfl))
          have HG6 : Hid (Go1 (OwL l1 pw1 pr1 vw1 vr1) W3.drew (OwL l1 pw1 pr1 (.slice xa B.length xc) vr1) W5.drew) := hide HG5.out.drew
          obtain ⟨-, -, -, a2⟩ := HL5.out.c
          have a4 := HL5.out.rd.c0
          obtain ⟨-, -, -, b2⟩ := HN5.out.c
          go_wp2
          refine wp_region_any (by kernel_rfl) ?_
          change wpAny _ _ _ _ _ _ _ (World.drew _)
          refine wpAny_take (i := 0) (oi := { dst := some 33, op := Op.move (Operand.tmp 3), type := 23, pos := "free.go:63", after := #[], guard := none }) (v := ?v0x65) rfl (by kernel_rfl) (by kernel_rfl) (by kernel_rfl) (fun _ _ _ h => h) (Or.inl ⟨by rfl, ?hy0x65⟩) ?rest0x65
          case hy0x65 => (intro w; (first | (go_simp; with_reducible rfl) | go_simp))
          try simp only [Act.put, List.setIfInBounds_toArray, List.set_cons_zero, List.set_cons_succ]
          refine wpAny_take (i := 1) (oi := { dst := some 34, op := Op.nilCheck (Operand.tmp 33), type := 0, pos := "free.go:63", after := #[{ on := 0, ground := Ground.data }], guard := none }) (v := ?v1x66) rfl (by kernel_rfl) (by kernel_rfl) (by kernel_rfl) (fun _ _ _ h => h) (Or.inl ⟨by rfl, ?hy1x66⟩) ?rest1x66
          case hy1x66 => (intro w; (first | (go_simp; with_reducible rfl) | go_simp))
          try simp only [Act.put, List.setIfInBounds_toArray, List.set_cons_zero, List.set_cons_succ]
          refine wpAny_take (i := 2) (oi := { dst := some 35, op := Op.fieldAddr 78 (Operand.tmp 34) 3, type := 0, pos := "free.go:63", after := #[{ on := 1, ground := Ground.data }], guard := none }) (v := ?v2x67) rfl (by kernel_rfl) (by kernel_rfl) (by kernel_rfl) (fun _ _ _ h => h) (Or.inl ⟨by rfl, ?hy2x67⟩) ?rest2x67
          case hy2x67 => (intro w; (first | (go_simp; with_reducible rfl) | go_simp))
          try simp only [Act.put, List.setIfInBounds_toArray, List.set_cons_zero, List.set_cons_succ]
          refine wpAny_take (i := 4) (oi := { dst := some 37, op := Op.move (Operand.tmp 0), type := 23, pos := "free.go:63", after := #[], guard := none }) (v := ?v4x68) rfl (by kernel_rfl) (by kernel_rfl) (by kernel_rfl) (fun _ _ _ h => h) (Or.inl ⟨by rfl, ?hy4x68⟩) ?rest4x68
          case hy4x68 => (intro w; (first | (go_simp; with_reducible rfl) | go_simp))
          try simp only [Act.put, List.setIfInBounds_toArray, List.set_cons_zero, List.set_cons_succ]
          refine wpAny_take (i := 5) (oi := { dst := some 38, op := Op.nilCheck (Operand.tmp 37), type := 0, pos := "free.go:63", after := #[{ on := 4, ground := Ground.data }], guard := none }) (v := ?v5x69) rfl (by kernel_rfl) (by kernel_rfl) (by kernel_rfl) (fun _ _ _ h => h) (Or.inl ⟨by rfl, ?hy5x69⟩) ?rest5x69
          case hy5x69 => (intro w; (first | (go_simp; with_reducible rfl) | go_simp))
          try simp only [Act.put, List.setIfInBounds_toArray, List.set_cons_zero, List.set_cons_succ]
          refine wpAny_take (i := 6) (oi := { dst := some 39, op := Op.fieldAddr 78 (Operand.tmp 38) 3, type := 0, pos := "free.go:63", after := #[{ on := 5, ground := Ground.data }], guard := none }) (v := ?v6x70) rfl (by kernel_rfl) (by kernel_rfl) (by kernel_rfl) (fun _ _ _ h => h) (Or.inl ⟨by rfl, ?hy6x70⟩) ?rest6x70
          case hy6x70 => (intro w; (first | (go_simp; with_reducible rfl) | go_simp))
          try simp only [Act.put, List.setIfInBounds_toArray, List.set_cons_zero, List.set_cons_succ]
          refine wpAny_ready (rs := [3, 7]) (by kernel_rfl) (by simp) ?_
          refine AllReady.cons (o := { dst := some 36, op := Op.load 73 (Operand.tmp 35), type := 73, pos := "free.go:63", after := #[{ on := 2, ground := Ground.data }], guard := none }) rfl (fun K hK => ?_) (AllReady.cons (o := { dst := some 40, op := Op.load 73 (Operand.tmp 39), type := 73, pos := "free.go:63", after := #[{ on := 6, ground := Ground.data }], guard := none }) rfl (fun K hK => ?_) AllReady.nil)
          · skip
            go_simp
            refine hK _ _ ?_
            clear hK K
            try simp only [Act.put, List.setIfInBounds_toArray, List.set_cons_zero, List.set_cons_succ]
            refine wpAny_ready (rs := [7]) (by kernel_rfl) (by simp) ?_
            refine AllReady.cons (o := { dst := some 40, op := Op.load 73 (Operand.tmp 39), type := 73, pos := "free.go:63", after := #[{ on := 6, ground := Ground.data }], guard := none }) rfl (fun K hK => ?_) AllReady.nil
            go_simp
            refine hK _ _ ?_
            clear hK K
            try simp only [Act.put, List.setIfInBounds_toArray, List.set_cons_zero, List.set_cons_succ]
            refine wpAny_take (i := 8) (oi := { dst := some 41, op := Op.nilCheck (Operand.tmp 40), type := 0, pos := "free.go:63", after := #[{ on := 7, ground := Ground.data }], guard := none }) (v := ?v8x71) rfl (by kernel_rfl) (by kernel_rfl) (by kernel_rfl) (fun _ _ _ h => h) (Or.inl ⟨by rfl, ?hy8x71⟩) ?rest8x71
            case hy8x71 => (intro w; (first | (go_simp; with_reducible rfl) | go_simp))
            try simp only [Act.put, List.setIfInBounds_toArray, List.set_cons_zero, List.set_cons_succ]
            refine wpAny_take (i := 9) (oi := { dst := some 42, op := Op.fieldAddr 97 (Operand.tmp 41) 0, type := 0, pos := "free.go:63", after := #[{ on := 8, ground := Ground.data }], guard := none }) (v := ?v9x72) rfl (by kernel_rfl) (by kernel_rfl) (by kernel_rfl) (fun _ _ _ h => h) (Or.inl ⟨by rfl, ?hy9x72⟩) ?rest9x72
            case hy9x72 => (intro w; (first | (go_simp; with_reducible rfl) | go_simp))
            try simp only [Act.put, List.setIfInBounds_toArray, List.set_cons_zero, List.set_cons_succ]
            refine wpAny_ready (rs := [10]) (by kernel_rfl) (by simp) ?_
            refine AllReady.cons (o := { dst := some 43, op := Op.load 93 (Operand.tmp 42), type := 93, pos := "free.go:63", after := #[{ on := 9, ground := Ground.data }], guard := none }) rfl (fun K hK => ?_) AllReady.nil
            go_simp
            refine hK _ _ ?_
            clear hK K
            try simp only [Act.put, List.setIfInBounds_toArray, List.set_cons_zero, List.set_cons_succ]
            refine wpAny_ready (rs := [11]) (by kernel_rfl) (by simp) ?_
            refine AllReady.cons (o := { dst := some 44, op := Op.call { callee := Callee.value (Operand.func 34), args := #[Operand.tmp 43], argTypes := #[93] }, type := 93, pos := "free.go:63", after := #[{ on := 10, ground := Ground.data }], guard := none }) rfl (fun K hK => ?_) AllReady.nil
            go_simp
            refine (sclone_any vr A HL5.out.rd.row hla).mono ?_
            rintro e w6 ⟨v6, rfl, s1, s2, s3⟩
            obtain ⟨ya, yc, rfl⟩ := own_slice2 s1
            have m7 := HN5.out.newR s3 s1 s2 H1.out.hr
            have HM7 := hide m7.1
            have HG7 := hide m7.2
            have hM6 := HN5.out.below s3
            obtain ⟨-, -, -, b2'⟩ := hM6.c
            have z0 := hM6.rd.fz 0
            have z1 := hM6.rd.c0
            clear s1 s2 s3 m7 hM6 a2 a4 b2
            go_simp
            refine hK _ _ ?_
            clear hK K
            try simp only [Act.put, List.setIfInBounds_toArray, List.set_cons_zero, List.set_cons_succ]
            refine wpAny_take (i := 12) (oi := { dst := some 45, op := Op.nilCheck (Operand.tmp 36), type := 0, pos := "free.go:63", after := #[{ on := 3, ground := Ground.data }, { on := 0, ground := Ground.phase }, { on := 1, ground := Ground.phase }, { on := 2, ground := Ground.phase }, { on := 3, ground := Ground.phase }, { on := 4, ground := Ground.phase }, { on := 5, ground := Ground.phase }, { on := 6, ground := Ground.phase }, { on := 7, ground := Ground.phase }, { on := 8, ground := Ground.phase }, { on := 9, ground := Ground.phase }, { on := 10, ground := Ground.phase }, { on := 11, ground := Ground.phase }], guard := none }) (v := ?v12x73) rfl (by kernel_rfl) (by kernel_rfl) (by kernel_rfl) (fun _ _ _ h => h) (Or.inl ⟨by rfl, ?hy12x73⟩) ?rest12x73
            case hy12x73 => (intro w; (first | (go_simp; with_reducible rfl) | go_simp))
            try simp only [Act.put, List.setIfInBounds_toArray, List.set_cons_zero, List.set_cons_succ]
            refine wpAny_take (i := 13) (oi := { dst := some 46, op := Op.fieldAddr 97 (Operand.tmp 45) 0, type := 0, pos := "free.go:63", after := #[{ on := 12, ground := Ground.data }, { on := 0, ground := Ground.phase }, { on := 1, ground := Ground.phase }, { on := 2, ground := Ground.phase }, { on := 3, ground := Ground.phase }, { on := 4, ground := Ground.phase }, { on := 5, ground := Ground.phase }, { on := 6, ground := Ground.phase }, { on := 7, ground := Ground.phase }, { on := 8, ground := Ground.phase }, { on := 9, ground := Ground.phase }, { on := 10, ground := Ground.phase }, { on := 11, ground := Ground.phase }], guard := none }) (v := ?v13x74) rfl (by kernel_rfl) (by kernel_rfl) (by kernel_rfl) (fun _ _ _ h => h) (Or.inl ⟨by rfl, ?hy13x74⟩) ?rest13x74
            case hy13x74 => (intro w; (first | (go_simp; with_reducible rfl) | go_simp))
            try simp only [Act.put, List.setIfInBounds_toArray, List.set_cons_zero, List.set_cons_succ]
            refine wpAny_ready (rs := [14]) (by kernel_rfl) (by simp) ?_
            refine AllReady.cons (o := { dst := none, op := Op.store 93 (Operand.tmp 46) (Operand.tmp 44), type := 0, pos := "free.go:63", after := #[{ on := 13, ground := Ground.data }, { on := 11, ground := Ground.data }, { on := 11, ground := Ground.chain }, { on := 0, ground := Ground.phase }, { on := 1, ground := Ground.phase }, { on := 2, ground := Ground.phase }, { on := 3, ground := Ground.phase }, { on := 4, ground := Ground.phase }, { on := 5, ground := Ground.phase }, { on := 6, ground := Ground.phase }, { on := 7, ground := Ground.phase }, { on := 8, ground := Ground.phase }, { on := 9, ground := Ground.phase }, { on := 10, ground := Ground.phase }, { on := 11, ground := Ground.phase }], guard := none }) rfl (fun K hK => ?_) AllReady.nil
            go_simp
            refine hK _ _ ?_
            clear hK K
            try simp only [Act.put, List.setIfInBounds_toArray, List.set_cons_zero, List.set_cons_succ]
            refine wpAny_done (by kernel_rfl) ?_ _
            go_wp2
            go_ret
            have hgo := HG6.out.trans HG7.out
            refine ⟨l1, OwL l1 pw1 pr1 _ _, rfl, ⟨pw1, pr1, _, _, ms, R, A, B, HM7.out, H2.out, H3.out, fun k => Iff.rfl⟩, fun k hk => ?_, HD3.out.trans (hgo.mv.below HD3.out.size (fun k hk => Q3.out k (by exact hk)))⟩
            rcases hgo.own k hk with h | h
            · exact Q3.out k h
            · exact Nat.le_trans HD3.out.size h
          · skip
            go_simp
            refine hK _ _ ?_
            clear hK K
            try simp only [Act.put, List.setIfInBounds_toArray, List.set_cons_zero, List.set_cons_succ]
            refine wpAny_take (i := 8) (oi := { dst := some 41, op := Op.nilCheck (Operand.tmp 40), type := 0, pos := "free.go:63", after := #[{ on := 7, ground := Ground.data }], guard := none }) (v := ?v8x75) rfl (by kernel_rfl) (by kernel_rfl) (by kernel_rfl) (fun _ _ _ h => h) (Or.inl ⟨by rfl, ?hy8x75⟩) ?rest8x75
            case hy8x75 => (intro w; (first | (go_simp; with_reducible rfl) | go_simp))
            try simp only [Act.put, List.setIfInBounds_toArray, List.set_cons_zero, List.set_cons_succ]
            refine wpAny_take (i := 9) (oi := { dst := some 42, op := Op.fieldAddr 97 (Operand.tmp 41) 0, type := 0, pos := "free.go:63", after := #[{ on := 8, ground := Ground.data }], guard := none }) (v := ?v9x76) rfl (by kernel_rfl) (by kernel_rfl) (by kernel_rfl) (fun _ _ _ h => h) (Or.inl ⟨by rfl, ?hy9x76⟩) ?rest9x76
            case hy9x76 => (intro w; (first | (go_simp; with_reducible rfl) | go_simp))
            try simp only [Act.put, List.setIfInBounds_toArray, List.set_cons_zero, List.set_cons_succ]
            refine wpAny_ready (rs := [3, 10]) (by kernel_rfl) (by simp) ?_
            refine AllReady.cons (o := { dst := some 36, op := Op.load 73 (Operand.tmp 35), type := 73, pos := "free.go:63", after := #[{ on := 2, ground := Ground.data }], guard := none }) rfl (fun K hK => ?_) (AllReady.cons (o := { dst := some 43, op := Op.load 93 (Operand.tmp 42), type := 93, pos := "free.go:63", after := #[{ on := 9, ground := Ground.data }], guard := none }) rfl (fun K hK => ?_) AllReady.nil)
            · skip
              go_simp
              refine hK _ _ ?_
              clear hK K
              try simp only [Act.put, List.setIfInBounds_toArray, List.set_cons_zero, List.set_cons_succ]
              refine wpAny_ready (rs := [10]) (by kernel_rfl) (by simp) ?_
              refine AllReady.cons (o := { dst := some 43, op := Op.load 93 (Operand.tmp 42), type := 93, pos := "free.go:63", after := #[{ on := 9, ground := Ground.data }], guard := none }) rfl (fun K hK => ?_) AllReady.nil
              go_simp
              refine hK _ _ ?_
              clear hK K
              try simp only [Act.put, List.setIfInBounds_toArray, List.set_cons_zero, List.set_cons_succ]
              refine wpAny_ready (rs := [11]) (by kernel_rfl) (by simp) ?_
              refine AllReady.cons (o := { dst := some 44, op := Op.call { callee := Callee.value (Operand.func 34), args := #[Operand.tmp 43], argTypes := #[93] }, type := 93, pos := "free.go:63", after := #[{ on := 10, ground := Ground.data }], guard := none }) rfl (fun K hK => ?_) AllReady.nil
              go_simp
              refine (sclone_any vr A HL5.out.rd.row hla).mono ?_
              rintro e w6 ⟨v6, rfl, s1, s2, s3⟩
              obtain ⟨ya, yc, rfl⟩ := own_slice2 s1
              have m7 := HN5.out.newR s3 s1 s2 H1.out.hr
              have HM7 := hide m7.1
              have HG7 := hide m7.2
              have hM6 := HN5.out.below s3
              obtain ⟨-, -, -, b2'⟩ := hM6.c
              have z0 := hM6.rd.fz 0
              have z1 := hM6.rd.c0
              clear s1 s2 s3 m7 hM6 a2 a4 b2
              go_simp
              refine hK _ _ ?_
              clear hK K
              try simp only [Act.put, List.setIfInBounds_toArray, List.set_cons_zero, List.set_cons_succ]
              refine wpAny_take (i := 12) (oi := { dst := some 45, op := Op.nilCheck (Operand.tmp 36), type := 0, pos := "free.go:63", after := #[{ on := 3, ground := Ground.data }, { on := 0, ground := Ground.phase }, { on := 1, ground := Ground.phase }, { on := 2, ground := Ground.phase }, { on := 3, ground := Ground.phase }, { on := 4, ground := Ground.phase }, { on := 5, ground := Ground.phase }, { on := 6, ground := Ground.phase }, { on := 7, ground := Ground.phase }, { on := 8, ground := Ground.phase }, { on := 9, ground := Ground.phase }, { on := 10, ground := Ground.phase }, { on := 11, ground := Ground.phase }], guard := none }) (v := ?v12x77) rfl (by kernel_rfl) (by kernel_rfl) (by kernel_rfl) (fun _ _ _ h => h) (Or.inl ⟨by rfl, ?hy12x77⟩) ?rest12x77
              case hy12x77 => (intro w; (first | (go_simp; with_reducible rfl) | go_simp))
              try simp only [Act.put, List.setIfInBounds_toArray, List.set_cons_zero, List.set_cons_succ]
              refine wpAny_take (i := 13) (oi := { dst := some 46, op := Op.fieldAddr 97 (Operand.tmp 45) 0, type := 0, pos := "free.go:63", after := #[{ on := 12, ground := Ground.data }, { on := 0, ground := Ground.phase }, { on := 1, ground := Ground.phase }, { on := 2, ground := Ground.phase }, { on := 3, ground := Ground.phase }, { on := 4, ground := Ground.phase }, { on := 5, ground := Ground.phase }, { on := 6, ground := Ground.phase }, { on := 7, ground := Ground.phase }, { on := 8, ground := Ground.phase }, { on := 9, ground := Ground.phase }, { on := 10, ground := Ground.phase }, { on := 11, ground := Ground.phase }], guard := none }) (v := ?v13x78) rfl (by kernel_rfl) (by kernel_rfl) (by kernel_rfl) (fun _ _ _ h => h) (Or.inl ⟨by rfl, ?hy13x78⟩) ?rest13x78
              case hy13x78 => (intro w; (first | (go_simp; with_reducible rfl) | go_simp))
              try simp only [Act.put, List.setIfInBounds_toArray, List.set_cons_zero, List.set_cons_succ]
              refine wpAny_ready (rs := [14]) (by kernel_rfl) (by simp) ?_
              refine AllReady.cons (o := { dst := none, op := Op.store 93 (Operand.tmp 46) (Operand.tmp 44), type := 0, pos := "free.go:63", after := #[{ on := 13, ground := Ground.data }, { on := 11, ground := Ground.data }, { on := 11, ground := Ground.chain }, { on := 0, ground := Ground.phase }, { on := 1, ground := Ground.phase }, { on := 2, ground := Ground.phase }, { on := 3, ground := Ground.phase }, { on := 4, ground := Ground.phase }, { on := 5, ground := Ground.phase }, { on := 6, ground := Ground.phase }, { on := 7, ground := Ground.phase }, { on := 8, ground := Ground.phase }, { on := 9, ground := Ground.phase }, { on := 10, ground := Ground.phase }, { on := 11, ground := Ground.phase }], guard := none }) rfl (fun K hK => ?_) AllReady.nil
              go_simp
              refine hK _ _ ?_
              clear hK K
              try simp only [Act.put, List.setIfInBounds_toArray, List.set_cons_zero, List.set_cons_succ]
              refine wpAny_done (by kernel_rfl) ?_ _
              go_wp2
              go_ret
              have hgo := HG6.out.trans HG7.out
              refine ⟨l1, OwL l1 pw1 pr1 _ _, rfl, ⟨pw1, pr1, _, _, ms, R, A, B, HM7.out, H2.out, H3.out, fun k => Iff.rfl⟩, fun k hk => ?_, HD3.out.trans (hgo.mv.below HD3.out.size (fun k hk => Q3.out k (by exact hk)))⟩
              rcases hgo.own k hk with h | h
              · exact Q3.out k h
              · exact Nat.le_trans HD3.out.size h
            · skip
              go_simp
              refine hK _ _ ?_
              clear hK K
              try simp only [Act.put, List.setIfInBounds_toArray, List.set_cons_zero, List.set_cons_succ]
              refine wpAny_ready (rs := [3, 11]) (by kernel_rfl) (by simp) ?_
              refine AllReady.cons (o := { dst := some 36, op := Op.load 73 (Operand.tmp 35), type := 73, pos := "free.go:63", after := #[{ on := 2, ground := Ground.data }], guard := none }) rfl (fun K hK => ?_) (AllReady.cons (o := { dst := some 44, op := Op.call { callee := Callee.value (Operand.func 34), args := #[Operand.tmp 43], argTypes := #[93] }, type := 93, pos := "free.go:63", after := #[{ on := 10, ground := Ground.data }], guard := none }) rfl (fun K hK => ?_) AllReady.nil)
              · skip
                go_simp
                refine hK _ _ ?_
                clear hK K
                try simp only [Act.put, List.setIfInBounds_toArray, List.set_cons_zero, List.set_cons_succ]
                refine wpAny_ready (rs := [11]) (by kernel_rfl) (by simp) ?_
                refine AllReady.cons (o := { dst := some 44, op := Op.call { callee := Callee.value (Operand.func 34), args := #[Operand.tmp 43], argTypes := #[93] }, type := 93, pos := "free.go:63", after := #[{ on := 10, ground := Ground.data }], guard := none }) rfl (fun K hK => ?_) AllReady.nil
                go_simp
                refine (sclone_any vr A HL5.out.rd.row hla).mono ?_
                rintro e w6 ⟨v6, rfl, s1, s2, s3⟩
                obtain ⟨ya, yc, rfl⟩ := own_slice2 s1
                have m7 := HN5.out.newR s3 s1 s2 H1.out.hr
                have HM7 := hide m7.1
                have HG7 := hide m7.2
                have hM6 := HN5.out.below s3
                obtain ⟨-, -, -, b2'⟩ := hM6.c
                have z0 := hM6.rd.fz 0
                have z1 := hM6.rd.c0
                clear s1 s2 s3 m7 hM6 a2 a4 b2
                go_simp
                refine hK _ _ ?_
                clear hK K
                try simp only [Act.put, List.setIfInBounds_toArray, List.set_cons_zero, List.set_cons_succ]
                refine wpAny_take (i := 12) (oi := { dst := some 45, op := Op.nilCheck (Operand.tmp 36), type := 0, pos := "free.go:63", after := #[{ on := 3, ground := Ground.data }, { on := 0, ground := Ground.phase }, { on := 1, ground := Ground.phase }, { on := 2, ground := Ground.phase }, { on := 3, ground := Ground.phase }, { on := 4, ground := Ground.phase }, { on := 5, ground := Ground.phase }, { on := 6, ground := Ground.phase }, { on := 7, ground := Ground.phase }, { on := 8, ground := Ground.phase }, { on := 9, ground := Ground.phase }, { on := 10, ground := Ground.phase }, { on := 11, ground := Ground.phase }], guard := none }) (v := ?v12x79) rfl (by kernel_rfl) (by kernel_rfl) (by kernel_rfl) (fun _ _ _ h => h) (Or.inl ⟨by rfl, ?hy12x79⟩) ?rest12x79
                case hy12x79 => (intro w; (first | (go_simp; with_reducible rfl) | go_simp))
                try simp only [Act.put, List.setIfInBounds_toArray, List.set_cons_zero, List.set_cons_succ]
                refine wpAny_take (i := 13) (oi := { dst := some 46, op := Op.fieldAddr 97 (Operand.tmp 45) 0, type := 0, pos := "free.go:63", after := #[{ on := 12, ground := Ground.data }, { on := 0, ground := Ground.phase }, { on := 1, ground := Ground.phase }, { on := 2, ground := Ground.phase }, { on := 3, ground := Ground.phase }, { on := 4, ground := Ground.phase }, { on := 5, ground := Ground.phase }, { on := 6, ground := Ground.phase }, { on := 7, ground := Ground.phase }, { on := 8, ground := Ground.phase }, { on := 9, ground := Ground.phase }, { on := 10, ground := Ground.phase }, { on := 11, ground := Ground.phase }], guard := none }) (v := ?v13x80) rfl (by kernel_rfl) (by kernel_rfl) (by kernel_rfl) (fun _ _ _ h => h) (Or.inl ⟨by rfl, ?hy13x80⟩) ?rest13x80
                case hy13x80 => (intro w; (first | (go_simp; with_reducible rfl) | go_simp))
                try simp only [Act.put, List.setIfInBounds_toArray, List.set_cons_zero, List.set_cons_succ]
                refine wpAny_ready (rs := [14]) (by kernel_rfl) (by simp) ?_
                refine AllReady.cons (o := { dst := none, op := Op.store 93 (Operand.tmp 46) (Operand.tmp 44), type := 0, pos := "free.go:63", after := #[{ on := 13, ground := Ground.data }, { on := 11, ground := Ground.data }, { on := 11, ground := Ground.chain }, { on := 0, ground := Ground.phase }, { on := 1, ground := Ground.phase }, { on := 2, ground := Ground.phase }, { on := 3, ground := Ground.phase }, { on := 4, ground := Ground.phase }, { on := 5, ground := Ground.phase }, { on := 6, ground := Ground.phase }, { on := 7, ground := Ground.phase }, { on := 8, ground := Ground.phase }, { on := 9, ground := Ground.phase }, { on := 10, ground := Ground.phase }, { on := 11, ground := Ground.phase }], guard := none }) rfl (fun K hK => ?_) AllReady.nil
                go_simp
                refine hK _ _ ?_
                clear hK K
                try simp only [Act.put, List.setIfInBounds_toArray, List.set_cons_zero, List.set_cons_succ]
                refine wpAny_done (by kernel_rfl) ?_ _
                go_wp2
                go_ret
                have hgo := HG6.out.trans HG7.out
                refine ⟨l1, OwL l1 pw1 pr1 _ _, rfl, ⟨pw1, pr1, _, _, ms, R, A, B, HM7.out, H2.out, H3.out, fun k => Iff.rfl⟩, fun k hk => ?_, HD3.out.trans (hgo.mv.below HD3.out.size (fun k hk => Q3.out k (by exact hk)))⟩
                rcases hgo.own k hk with h | h
                · exact Q3.out k h
                · exact Nat.le_trans HD3.out.size h
              · skip
                go_simp
                refine (sclone_any vr A HL5.out.rd.row hla).mono ?_
                rintro e w6 ⟨v6, rfl, s1, s2, s3⟩
                obtain ⟨ya, yc, rfl⟩ := own_slice2 s1
                have m7 := HN5.out.newR s3 s1 s2 H1.out.hr
                have HM7 := hide m7.1
                have HG7 := hide m7.2
                have hM6 := HN5.out.below s3
                obtain ⟨-, -, -, b2'⟩ := hM6.c
                have z0 := hM6.rd.fz 0
                have z1 := hM6.rd.c0
                clear s1 s2 s3 m7 hM6 a2 a4 b2
                go_simp
                refine hK _ _ ?_
                clear hK K
                try simp only [Act.put, List.setIfInBounds_toArray, List.set_cons_zero, List.set_cons_succ]
                refine wpAny_ready (rs := [3]) (by kernel_rfl) (by simp) ?_
                refine AllReady.cons (o := { dst := some 36, op := Op.load 73 (Operand.tmp 35), type := 73, pos := "free.go:63", after := #[{ on := 2, ground := Ground.data }], guard := none }) rfl (fun K hK => ?_) AllReady.nil
                go_simp
                refine hK _ _ ?_
                clear hK K
                try simp only [Act.put, List.setIfInBounds_toArray, List.set_cons_zero, List.set_cons_succ]
                refine wpAny_take (i := 12) (oi := { dst := some 45, op := Op.nilCheck (Operand.tmp 36), type := 0, pos := "free.go:63", after := #[{ on := 3, ground := Ground.data }, { on := 0, ground := Ground.phase }, { on := 1, ground := Ground.phase }, { on := 2, ground := Ground.phase }, { on := 3, ground := Ground.phase }, { on := 4, ground := Ground.phase }, { on := 5, ground := Ground.phase }, { on := 6, ground := Ground.phase }, { on := 7, ground := Ground.phase }, { on := 8, ground := Ground.phase }, { on := 9, ground := Ground.phase }, { on := 10, ground := Ground.phase }, { on := 11, ground := Ground.phase }], guard := none }) (v := ?v12x81) rfl (by kernel_rfl) (by kernel_rfl) (by kernel_rfl) (fun _ _ _ h => h) (Or.inl ⟨by rfl, ?hy12x81⟩) ?rest12x81
                case hy12x81 => (intro w; (first | (go_simp; with_reducible rfl) | go_simp))
                try simp only [Act.put, List.setIfInBounds_toArray, List.set_cons_zero, List.set_cons_succ]
                refine wpAny_take (i := 13) (oi := { dst := some 46, op := Op.fieldAddr 97 (Operand.tmp 45) 0, type := 0, pos := "free.go:63", after := #[{ on := 12, ground := Ground.data }, { on := 0, ground := Ground.phase }, { on := 1, ground := Ground.phase }, { on := 2, ground := Ground.phase }, { on := 3, ground := Ground.phase }, { on := 4, ground := Ground.phase }, { on := 5, ground := Ground.phase }, { on := 6, ground := Ground.phase }, { on := 7, ground := Ground.phase }, { on := 8, ground := Ground.phase }, { on := 9, ground := Ground.phase }, { on := 10, ground := Ground.phase }, { on := 11, ground := Ground.phase }], guard := none }) (v := ?v13x82) rfl (by kernel_rfl) (by kernel_rfl) (by kernel_rfl) (fun _ _ _ h => h) (Or.inl ⟨by rfl, ?hy13x82⟩) ?rest13x82
                case hy13x82 => (intro w; (first | (go_simp; with_reducible rfl) | go_simp))
                try simp only [Act.put, List.setIfInBounds_toArray, List.set_cons_zero, List.set_cons_succ]
                refine wpAny_ready (rs := [14]) (by kernel_rfl) (by simp) ?_
                refine AllReady.cons (o := { dst := none, op := Op.store 93 (Operand.tmp 46) (Operand.tmp 44), type := 0, pos := "free.go:63", after := #[{ on := 13, ground := Ground.data }, { on := 11, ground := Ground.data }, { on := 11, ground := Ground.chain }, { on := 0, ground := Ground.phase }, { on := 1, ground := Ground.phase }, { on := 2, ground := Ground.phase }, { on := 3, ground := Ground.phase }, { on := 4, ground := Ground.phase }, { on := 5, ground := Ground.phase }, { on := 6, ground := Ground.phase }, { on := 7, ground := Ground.phase }, { on := 8, ground := Ground.phase }, { on := 9, ground := Ground.phase }, { on := 10, ground := Ground.phase }, { on := 11, ground := Ground.phase }], guard := none }) rfl (fun K hK => ?_) AllReady.nil
                go_simp
                refine hK _ _ ?_
                clear hK K
                try simp only [Act.put, List.setIfInBounds_toArray, List.set_cons_zero, List.set_cons_succ]
                refine wpAny_done (by kernel_rfl) ?_ _
                go_wp2
                go_ret
                have hgo := HG6.out.trans HG7.out
                refine ⟨l1, OwL l1 pw1 pr1 _ _, rfl, ⟨pw1, pr1, _, _, ms, R, A, B, HM7.out, H2.out, H3.out, fun k => Iff.rfl⟩, fun k hk => ?_, HD3.out.trans (hgo.mv.below HD3.out.size (fun k hk => Q3.out k (by exact hk)))⟩
                rcases hgo.own k hk with h | h
                · exact Q3.out k h
                · exact Nat.le_trans HD3.out.size h
        · skip
          go_simp
          refine (sclone_any vw B HL3.out.wt.row hlb).mono ?_
          rintro e w4 ⟨v4, rfl, s1, s2, s3⟩
          obtain ⟨xa, xc, rfl⟩ := own_slice2 s1
          have m5 := HN3.out.newW s3 s1 s2 H1.out.hw
          have HM5 := hide m5.1
          have HG5 := hide m5.2
          have hM4 := HN3.out.below s3
          obtain ⟨-, -, b2', -⟩ := hM4.c
          have z0 := hM4.wt.fz 0
          have z1 := hM4.wt.c0
          clear s1 s2 s3 m5 hM4 a2 a4 b2
          go_simp
          refine hK _ _ ?_
          clear hK K
          try simp only [Act.put, List.setIfInBounds_toArray, List.set_cons_zero, List.set_cons_succ]
          refine wpAny_ready (rs := [3]) (by kernel_rfl) (by simp) ?_
          refine AllReady.cons (o := { dst := some 22, op := Op.load 73 (Operand.tmp 21), type := 73, pos := "free.go:62", after := #[{ on := 2, ground := Ground.data }], guard := none }) rfl (fun K hK => ?_) AllReady.nil
          go_simp
          refine hK _ _ ?_
          clear hK K
          try simp only [Act.put, List.setIfInBounds_toArray, List.set_cons_zero, List.set_cons_succ]
          refine wpAny_take (i := 12) (oi := { dst := some 31, op := Op.nilCheck (Operand.tmp 22), type := 0, pos := "free.go:62", after := #[{ on := 3, ground := Ground.data }, { on := 0, ground := Ground.phase }, { on := 1, ground := Ground.phase }, { on := 2, ground := Ground.phase }, { on := 3, ground := Ground.phase }, { on := 4, ground := Ground.phase }, { on := 5, ground := Ground.phase }, { on := 6, ground := Ground.phase }, { on := 7, ground := Ground.phase }, { on := 8, ground := Ground.phase }, { on := 9, ground := Ground.phase }, { on := 10, ground := Ground.phase }, { on := 11, ground := Ground.phase }], guard := none }) (v := ?v12x83) rfl (by kernel_rfl) (by kernel_rfl) (by kernel_rfl) (fun _ _ _ h => h) (Or.inl ⟨by rfl, ?hy12x83⟩) ?rest12x83
          case hy12x83 => (intro w; (first | (go_simp; with_reducible rfl) | go_simp))
          try simp only [Act.put, List.setIfInBounds_toArray, List.set_cons_zero, List.set_cons_succ]
          refine wpAny_take (i := 13) (oi := { dst := some 32, op := Op.fieldAddr 97 (Operand.tmp 31) 0, type := 0, pos := "free.go:62", after := #[{ on := 12, ground := Ground.data }, { on := 0, ground := Ground.phase }, { on := 1, ground := Ground.phase }, { on := 2, ground := Ground.phase }, { on := 3, ground := Ground.phase }, { on := 4, ground := Ground.phase }, { on := 5, ground := Ground.phase }, { on := 6, ground := Ground.phase }, { on := 7, ground := Ground.phase }, { on := 8, ground := Ground.phase }, { on := 9, ground := Ground.phase }, { on := 10, ground := Ground.phase }, { on := 11, ground := Ground.phase }], guard := none }) (v := ?v13x84) rfl (by kernel_rfl) (by kernel_rfl) (by kernel_rfl) (fun _ _ _ h => h) (Or.inl ⟨by rfl, ?hy13x84⟩) ?rest13x84
          case hy13x84 => (intro w; (first | (go_simp; with_reducible rfl) | go_simp))
          try simp only [Act.put, List.setIfInBounds_toArray, List.set_cons_zero, List.set_cons_succ]
          refine wpAny_ready (rs := [14]) (by kernel_rfl) (by simp) ?_
          refine AllReady.cons (o := { dst := none, op := Op.store 93 (Operand.tmp 32) (Operand.tmp 30), type := 0, pos := "free.go:62", after := #[{ on := 13, ground := Ground.data }, { on := 11, ground := Ground.data }, { on := 11, ground := Ground.chain }, { on := 0, ground := Ground.phase }, { on := 1, ground := Ground.phase }, { on := 2, ground := Ground.phase }, { on := 3, ground := Ground.phase }, { on := 4, ground := Ground.phase }, { on := 5, ground := Ground.phase }, { on := 6, ground := Ground.phase }, { on := 7, ground := Ground.phase }, { on := 8, ground := Ground.phase }, { on := 9, ground := Ground.phase }, { on := 10, ground := Ground.phase }, { on := 11, ground := Ground.phase }], guard := none }) rfl (fun K hK => ?_) AllReady.nil
          go_simp
          refine hK _ _ ?_
          clear hK K
          try simp only [Act.put, List.setIfInBounds_toArray, List.set_cons_zero, List.set_cons_succ]
          refine wpAny_done (by kernel_rfl) ?_ _
          have hB5 := HD3.out.trans (HG5.out.mv.below HD3.out.size (fun k hk => Q3.out k (by exact hk)))
          have HB5 := hide hB5
          clear hB5 z0 z1 b2'
          generalize w4.setCell _ _ = W5 at *
          have HD5 : Hid (Below w.heap.size w W5.drew) := hide ⟨HB5.out.os, HB5.out.tape, HB5.out.output, HB5.out.size, HB5.out.block⟩
          have HL5 := hide (H1.out.below HD5.out)
          have HN5 : Hid (Lm W5.drew l1 pw1 pr1 (.slice xa B.length xc) vr1 ms R A1 B) := hide (HM5.out.stays (fun _ _ => rfl))
          have HG6 : Hid (Go1 (OwL l1 pw1 pr1 vw1 vr1) W3.drew (OwL l1 pw1 pr1 (.slice xa B.length xc) vr1) W5.drew) := hide HG5.out.drew
          obtain ⟨-, -, -, a2⟩ := HL5.out.c
          have a4 := HL5.out.rd.c0
          obtain ⟨-, -, -, b2⟩ := HN5.out.c
          go_wp2
          refine wp_region_any (by kernel_rfl) ?_
          change wpAny _ _ _ _ _ _ _ (World.drew _)
          refine wpAny_take (i := 0) (oi := { dst := some 33, op := Op.move (Operand.tmp 3), type := 23, pos := "free.go:63", after := #[], guard := none }) (v := ?v0x85) rfl (by kernel_rfl) (by kernel_rfl) (by kernel_rfl) (fun _ _ _ h => h) (Or.inl ⟨by rfl, ?hy0x85⟩) ?rest0x85
          case hy0x85 => (intro w; (first | (go_simp; with_reducible rfl) | go_simp))
          try simp only [Act.put, List.setIfInBounds_toArray, List.set_cons_zero, List.set_cons_succ]
          refine wpAny_take (i := 1) (oi := { dst := some 34, op := Op.nilCheck (Operand.tmp 33), type := 0, pos := "free.go:63", after := #[{ on := 0, ground := Ground.data }], guard := none }) (v := ?v1x86) rfl (by kernel_rfl) (by kernel_rfl) (by kernel_rfl) (fun _ _ _ h => h) (Or.inl ⟨by rfl, ?hy1x86⟩) ?rest1x86
          case hy1x86 => (intro w; (first | (go_simp; with_reducible rfl) | go_simp))
          try simp only [Act.put, List.setIfInBounds_toArray, List.set_cons_zero, List.set_cons_succ]
          refine wpAny_take (i := 2) (oi := { dst := some 35, op := Op.fieldAddr 78 (Operand.tmp 34) 3, type := 0, pos := "free.go:63", after := #[{ on := 1, ground := Ground.data }], guard := none }) (v := ?v2x87) rfl (by kernel_rfl) (by kernel_rfl) (by kernel_rfl) (fun _ _ _ h => h) (Or.inl ⟨by rfl, ?hy2x87⟩) ?rest2x87
          case hy2x87 => (intro w; (first | (go_simp; with_reducible rfl) | go_simp))
          try simp only [Act.put, List.setIfInBounds_toArray, List.set_cons_zero, List.set_cons_succ]
          refine wpAny_take (i := 4) (oi := { dst := some 37, op := Op.move (Operand.tmp 0), type := 23, pos := "free.go:63", after := #[], guard := none }) (v := ?v4x88) rfl (by kernel_rfl) (by kernel_rfl) (by kernel_rfl) (fun _ _ _ h => h) (Or.inl ⟨by rfl, ?hy4x88⟩) ?rest4x88
          case hy4x88 => (intro w; (first | (go_simp; with_reducible rfl) | go_simp))
          try simp only [Act.put, List.setIfInBounds_toArray, List.set_cons_zero, List.set_cons_succ]
          refine wpAny_take (i := 5) (oi := { dst := some 38, op := Op.nilCheck (Operand.tmp 37), type := 0, pos := "free.go:63", after := #[{ on := 4, ground := Ground.data }], guard := none }) (v := ?v5x89) rfl (by kernel_rfl) (by kernel_rfl) (by kernel_rfl) (fun _ _ _ h => h) (Or.inl ⟨by rfl, ?hy5x89⟩) ?rest5x89
          case hy5x89 => (intro w; (first | (go_simp; with_reducible rfl) | go_simp))
          try simp only [Act.put, List.setIfInBounds_toArray, List.set_cons_zero, List.set_cons_succ]
          refine wpAny_take (i := 6) (oi := { dst := some 39, op := Op.fieldAddr 78 (Operand.tmp 38) 3, type := 0, pos := "free.go:63", after := #[{ on := 5, ground := Ground.data }], guard := none }) (v := ?v6x90) rfl (by kernel_rfl) (by kernel_rfl) (by kernel_rfl) (fun _ _ _ h => h) (Or.inl ⟨by rfl, ?hy6x90⟩) ?rest6x90
          case hy6x90 => (intro w; (first | (go_simp; with_reducible rfl) | go_simp))
          try simp only [Act.put, List.setIfInBounds_toArray, List.set_cons_zero, List.set_cons_succ]
          refine wpAny_ready (rs := [3, 7]) (by kernel_rfl) (by simp) ?_
          refine AllReady.cons (o := { dst := some 36, op := Op.load 73 (Operand.tmp 35), type := 73, pos := "free.go:63", after := #[{ on := 2, ground := Ground.data }], guard := none }) rfl (fun K hK => ?_) (AllReady.cons (o := { dst := some 40, op := Op.load 73 (Operand.tmp 39), type := 73, pos := "free.go:63", after := #[{ on := 6, ground := Ground.data }], guard := none }) rfl (fun K hK => ?_) AllReady.nil)
          · skip
            go_simp
            refine hK _ _ ?_
            clear hK K
            try simp only [Act.put, List.setIfInBounds_toArray, List.set_cons_zero, List.set_cons_succ]
            refine wpAny_ready (rs := [7]) (by kernel_rfl) (by simp) ?_
            refine AllReady.cons (o := { dst := some 40, op := Op.load 73 (Operand.tmp 39), type := 73, pos := "free.go:63", after := #[{ on := 6, ground := Ground.data }], guard := none }) rfl (fun K hK => ?_) AllReady.nil
            go_simp
            refine hK _ _ ?_
            clear hK K
            try simp only [Act.put, List.setIfInBounds_toArray, List.set_cons_zero, List.set_cons_succ]
            refine wpAny_take (i := 8) (oi := { dst := some 41, op := Op.nilCheck (Operand.tmp 40), type := 0, pos := "free.go:63", after := #[{ on := 7, ground := Ground.data }], guard := none }) (v := ?v8x91) rfl (by kernel_rfl) (by kernel_rfl) (by kernel_rfl) (fun _ _ _ h => h) (Or.inl ⟨by rfl, ?hy8x91⟩) ?rest8x91
            case hy8x91 => (intro w; (first | (go_simp; with_reducible rfl) | go_simp))
            try simp only [Act.put, List.setIfInBounds_toArray, List.set_cons_zero, List.set_cons_succ]
            refine wpAny_take (i := 9) (oi := { dst := some 42, op := Op.fieldAddr 97 (Operand.tmp 41) 0, type := 0, pos := "free.go:63", after := #[{ on := 8, ground := Ground.data }], guard := none }) (v := ?v9x92) rfl (by kernel_rfl) (by kernel_rfl) (by kernel_rfl) (fun _ _ _ h => h) (Or.inl ⟨by rfl, ?hy9x92⟩) ?rest9x92
            case hy9x92 => (intro w; (first | (go_simp; with_reducible rfl) | go_simp))
            try simp only [Act.put, List.setIfInBounds_toArray, List.set_cons_zero, List.set_cons_succ]
            refine wpAny_ready (rs := [10]) (by kernel_rfl) (by simp) ?_
            refine AllReady.cons (o := { dst := some 43, op := Op.load 93 (Operand.tmp 42), type := 93, pos := "free.go:63", after := #[{ on := 9, ground := Ground.data }], guard := none }) rfl (fun K hK => ?_) AllReady.nil
            go_simp
            refine hK _ _ ?_
            clear hK K
            try simp only [Act.put, List.setIfInBounds_toArray, List.set_cons_zero, List.set_cons_succ]
            refine wpAny_ready (rs := [11]) (by kernel_rfl) (by simp) ?_
            refine AllReady.cons (o := { dst := some 44, op := Op.call { callee := Callee.value (Operand.func 34), args := #[Operand.tmp 43], argTypes := #[93] }, type := 93, pos := "free.go:63", after := #[{ on := 10, ground := Ground.data }], guard := none }) rfl (fun K hK => ?_) AllReady.nil
            go_simp
            refine (sclone_any vr A HL5.out.rd.row hla).mono ?_
            rintro e w6 ⟨v6, rfl, s1, s2, s3⟩
            obtain ⟨ya, yc, rfl⟩ := own_slice2 s1
            have m7 := HN5.out.newR s3 s1 s2 H1.out.hr
            have HM7 := hide m7.1
            have HG7 := hide m7.2
            have hM6 := HN5.out.below s3
            obtain ⟨-, -, -, b2'⟩ := hM6.c
            have z0 := hM6.rd.fz 0
            have z1 := hM6.rd.c0
            clear s1 s2 s3 m7 hM6 a2 a4 b2
            go_simp
            refine hK _ _ ?_
            clear hK K
            try simp only [Act.put, List.setIfInBounds_toArray, List.set_cons_zero, List.set_cons_succ]
            refine wpAny_take (i := 12) (oi := { dst := some 45, op := Op.nilCheck (Operand.tmp 36), type := 0, pos := "free.go:63", after := #[{ on := 3, ground := Ground.data }, { on := 0, ground := Ground.phase }, { on := 1, ground := Ground.phase }, { on := 2, ground := Ground.phase }, { on := 3, ground := Ground.phase }, { on := 4, ground := Ground.phase }, { on := 5, ground := Ground.phase }, { on := 6, ground := Ground.phase }, { on := 7, ground := Ground.phase }, { on := 8, ground := Ground.phase }, { on := 9, ground := Ground.phase }, { on := 10, ground := Ground.phase }, { on := 11, ground := Ground.phase }], guard := none }) (v := ?v12x93) rfl (by kernel_rfl) (by kernel_rfl) (by kernel_rfl) (fun _ _ _ h => h) (Or.inl ⟨by rfl, ?hy12x93⟩) ?rest12x93
            case hy12x93 => (intro w; (first | (go_simp; with_reducible rfl) | go_simp))
            try simp only [Act.put, List.setIfInBounds_toArray, List.set_cons_zero, List.set_cons_succ]
            refine wpAny_take (i := 13) (oi := { dst := some 46, op := Op.fieldAddr 97 (Operand.tmp 45) 0, type := 0, pos := "free.go:63", after := #[{ on := 12, ground := Ground.data }, { on := 0, ground := Ground.phase }, { on := 1, ground := Ground.phase }, { on := 2, ground := Ground.phase }, { on := 3, ground := Ground.phase }, { on := 4, ground := Ground.phase }, { on := 5, ground := Ground.phase }, { on := 6, ground := Ground.phase }, { on := 7, ground := Ground.phase }, { on := 8, ground := Ground.phase }, { on := 9, ground := Ground.phase }, { on := 10, ground := Ground.phase }, { on := 11, ground := Ground.phase }], guard := none }) (v := ?v13x94) rfl (by kernel_rfl) (by kernel_rfl) (by kernel_rfl) (fun _ _ _ h => h) (Or.inl ⟨by rfl, ?hy13x94⟩) ?rest13x94
            case hy13x94 => (intro w; (first | (go_simp; with_reducible rfl) | go_simp))
            try simp only [Act.put, List.setIfInBounds_toArray, List.set_cons_zero, List.set_cons_succ]
            refine wpAny_ready (rs := [14]) (by kernel_rfl) (by simp) ?_
            refine AllReady.cons (o := { dst := none, op := Op.store 93 (Operand.tmp 46) (Operand.tmp 44), type := 0, pos := "free.go:63", after := #[{ on := 13, ground := Ground.data }, { on := 11, ground := Ground.data }, { on := 11, ground := Ground.chain }, { on := 0, ground := Ground.phase }, { on := 1, ground := Ground.phase }, { on := 2, ground := Ground.phase }, { on := 3, ground := Ground.phase }, { on := 4, ground := Ground.phase }, { on := 5, ground := Ground.phase }, { on := 6, ground := Ground.phase }, { on := 7, ground := Ground.phase }, { on := 8, ground := Ground.phase }, { on := 9, ground := Ground.phase }, { on := 10, ground := Ground.phase }, { on := 11, ground := Ground.phase }], guard := none }) rfl (fun K hK => ?_) AllReady.nil
            go_simp
            refine hK _ _ ?_
            clear hK K
            try simp only [Act.put, List.setIfInBounds_toArray, List.set_cons_zero, List.set_cons_succ]
            refine wpAny_done (by kernel_rfl) ?_ _
            go_wp2
            go_ret
            have hgo := HG6.out.trans HG7.out
            refine ⟨l1, OwL l1 pw1 pr1 _ _, rfl, ⟨pw1, pr1, _, _, ms, R, A, B, HM7.out, H2.out, H3.out, fun k => Iff.rfl⟩, fun k hk => ?_, HD3.out.trans (hgo.mv.below HD3.out.size (fun k hk => Q3.out k (by exact hk)))⟩
            rcases hgo.own k hk with h | h
            · exact Q3.out k h
            · exact Nat.le_trans HD3.out.size h
          · skip
            go_simp
            refine hK _ _ ?_
            clear hK K
            try simp only [Act.put, List.setIfInBounds_toArray, List.set_cons_zero, List.set_cons_succ]
            refine wpAny_take (i := 8) (oi := { dst := some 41, op := Op.nilCheck (Operand.tmp 40), type := 0, pos := "free.go:63", after := #[{ on := 7, ground := Ground.data }], guard := none }) (v := ?v8x95) rfl (by kernel_rfl) (by kernel_rfl) (by kernel_rfl) (fun _ _ _ h => h) (Or.inl ⟨by rfl, ?hy8x95⟩) ?rest8x95
            case hy8x95 => (intro w; (first | (go_simp; with_reducible rfl) | go_simp))
            try simp only [Act.put, List.setIfInBounds_toArray, List.set_cons_zero, List.set_cons_succ]
            refine wpAny_take (i := 9) (oi := { dst := some 42, op := Op.fieldAddr 97 (Operand.tmp 41) 0, type := 0, pos := "free.go:63", after := #[{ on := 8, ground := Ground.data }], guard := none }) (v := ?v9x96) rfl (by kernel_rfl) (by kernel_rfl) (by kernel_rfl) (fun _ _ _ h => h) (Or.inl ⟨by rfl, ?hy9x96⟩) ?rest9x96
            case hy9x96 => (intro w; (first | (go_simp; with_reducible rfl) | go_simp))
            try simp only [Act.put, List.setIfInBounds_toArray, List.set_cons_zero, List.set_cons_succ]
            refine wpAny_ready (rs := [3, 10]) (by kernel_rfl) (by simp) ?_
            refine AllReady.cons (o := { dst := some 36, op := Op.load 73 (Operand.tmp 35), type := 73, pos := "free.go:63", after := #[{ on := 2, ground := Ground.data }], guard := none }) rfl (fun K hK => ?_) (AllReady.cons (o := { dst := some 43, op := Op.load 93 (Operand.tmp 42), type := 93, pos := "free.go:63", after := #[{ on := 9, ground := Ground.data }], guard := none }) rfl (fun K hK => ?_) AllReady.nil)
            · skip
              go_simp
              refine hK _ _ ?_
              clear hK K
              try simp only [Act.put, List.setIfInBounds_toArray, List.set_cons_zero, List.set_cons_succ]
              refine wpAny_ready (rs := [10]) (by kernel_rfl) (by simp) ?_
              refine AllReady.cons (o := { dst := some 43, op := Op.load 93 (Operand.tmp 42), type := 93, pos := "free.go:63", after := #[{ on := 9, ground := Ground.data }], guard := none }) rfl (fun K hK => ?_) AllReady.nil
              go_simp
              refine hK _ _ ?_
              clear hK K
              try simp only [Act.put, List.setIfInBounds_toArray, List.set_cons_zero, List.set_cons_succ]
              refine wpAny_ready (rs := [11]) (by kernel_rfl) (by simp) ?_
              refine AllReady.cons (o := { dst := some 44, op := Op.call { callee := Callee.value (Operand.func 34), args := #[Operand.tmp 43], argTypes := #[93] }, type := 93, pos := "free.go:63", after := #[{ on := 10, ground := Ground.data }], guard := none }) rfl (fun K hK => ?_) AllReady.nil
              go_simp
              refine (sclone_any vr A HL5.out.rd.row hla).mono ?_
              rintro e w6 ⟨v6, rfl, s1, s2, s3⟩
              obtain ⟨ya, yc, rfl⟩ := own_slice2 s1
              have m7 := HN5.out.newR s3 s1 s2 H1.out.hr
              have HM7 := hide m7.1
              have HG7 := hide m7.2
              have hM6 := HN5.out.below s3
              obtain ⟨-, -, -, b2'⟩ := hM6.c
              have z0 := hM6.rd.fz 0
              have z1 := hM6.rd.c0
              clear s1 s2 s3 m7 hM6 a2 a4 b2
              go_simp
              refine hK _ _ ?_
              clear hK K
              try simp only [Act.put, List.setIfInBounds_toArray, List.set_cons_zero, List.set_cons_succ]
              refine wpAny_take (i := 12) (oi := { dst := some 45, op := Op.nilCheck (Operand.tmp 36), type := 0, pos := "free.go:63", after := #[{ on := 3, ground := Ground.data }, { on := 0, ground := Ground.phase }, { on := 1, ground := Ground.phase }, { on := 2, ground := Ground.phase }, { on := 3, ground := Ground.phase }, { on := 4, ground := Ground.phase }, { on := 5, ground := Ground.phase }, { on := 6, ground := Ground.phase }, { on := 7, ground := Ground.phase }, { on := 8, ground := Ground.phase }, { on := 9, ground := Ground.phase }, { on := 10, ground := Ground.phase }, { on := 11, ground := Ground.phase }], guard := none }) (v := ?v12x97) rfl (by kernel_rfl) (by kernel_rfl) (by kernel_rfl) (fun _ _ _ h => h) (Or.inl ⟨by rfl, ?hy12x97⟩) ?rest12x97
              case hy12x97 => (intro w; (first | (go_simp; with_reducible rfl) | go_simp))
              try simp only [Act.put, List.setIfInBounds_toArray, List.set_cons_zero, List.set_cons_succ]
              refine wpAny_take (i := 13) (oi := { dst := some 46, op := Op.fieldAddr 97 (Operand.tmp 45) 0, type := 0, pos := "free.go:63", after := #[{ on := 12, ground := Ground.data }, { on := 0, ground := Ground.phase }, { on := 1, ground := Ground.phase }, { on := 2, ground := Ground.phase }, { on := 3, ground := Ground.phase }, { on := 4, ground := Ground.phase }, { on := 5, ground := Ground.phase }, { on := 6, ground := Ground.phase }, { on := 7, ground := Ground.phase }, { on := 8, ground := Ground.phase }, { on := 9, ground := Ground.phase }, { on := 10, ground := Ground.phase }, { on := 11, ground := Ground.phase }], guard := none }) (v := ?v13x98) rfl (by kernel_rfl) (by kernel_rfl) (by kernel_rfl) (fun _ _ _ h => h) (Or.inl ⟨by rfl, ?hy13x98⟩) ?rest13x98
              case hy13x98 => (intro w; (first | (go_simp; with_reducible rfl) | go_simp))
              try simp only [Act.put, List.setIfInBounds_toArray, List.set_cons_zero, List.set_cons_succ]
              refine wpAny_ready (rs := [14]) (by kernel_rfl) (by simp) ?_
              refine AllReady.cons (o := { dst := none, op := Op.store 93 (Operand.tmp 46) (Operand.tmp 44), type := 0, pos := "free.go:63", after := #[{ on := 13, ground := Ground.data }, { on := 11, ground := Ground.data }, { on := 11, ground := Ground.chain }, { on := 0, ground := Ground.phase }, { on := 1, ground := Ground.phase }, { on := 2, ground := Ground.phase }, { on := 3, ground := Ground.phase }, { on := 4, ground := Ground.phase }, { on := 5, ground := Ground.phase }, { on := 6, ground := Ground.phase }, { on := 7, ground := Ground.phase }, { on := 8, ground := Ground.phase }, { on := 9, ground := Ground.phase }, { on := 10, ground := Ground.phase }, { on := 11, ground := Ground.phase }], guard := none }) rfl (fun K hK => ?_) AllReady.nil
              go_simp
              refine hK _ _ ?_
              clear hK K
              try simp only [Act.put, List.setIfInBounds_toArray, List.set_cons_zero, List.set_cons_succ]
              refine wpAny_done (by kernel_rfl) ?_ _
              go_wp2
              go_ret
              have hgo := HG6.out.trans HG7.out
              refine ⟨l1, OwL l1 pw1 pr1 _ _, rfl, ⟨pw1, pr1, _, _, ms, R, A, B, HM7.out, H2.out, H3.out, fun k => Iff.rfl⟩, fun k hk => ?_, HD3.out.trans (hgo.mv.below HD3.out.size (fun k hk => Q3.out k (by exact hk)))⟩
              rcases hgo.own k hk with h | h
              · exact Q3.out k h
              · exact Nat.le_trans HD3.out.size h
            · skip
              go_simp
              refine hK _ _ ?_
              clear hK K
              try simp only [Act.put, List.setIfInBounds_toArray, List.set_cons_zero, List.set_cons_succ]
              refine wpAny_ready (rs := [3, 11]) (by kernel_rfl) (by simp) ?_
              refine AllReady.cons (o := { dst := some 36, op := Op.load 73 (Operand.tmp 35), type := 73, pos := "free.go:63", after := #[{ on := 2, ground := Ground.data }], guard := none }) rfl (fun K hK => ?_) (AllReady.cons (o := { dst := some 44, op := Op.call { callee := Callee.value (Operand.func 34), args := #[Operand.tmp 43], argTypes := #[93] }, type := 93, pos := "free.go:63", after := #[{ on := 10, ground := Ground.data }], guard := none }) rfl (fun K hK => ?_) AllReady.nil)
              · skip
                go_simp
                refine hK _ _ ?_
                clear hK K
                try simp only [Act.put, List.setIfInBounds_toArray, List.set_cons_zero, List.set_cons_succ]
                refine wpAny_ready (rs := [11]) (by kernel_rfl) (by simp) ?_
                refine AllReady.cons (o := { dst := some 44, op := Op.call { callee := Callee.value (Operand.func 34), args := #[Operand.tmp 43], argTypes := #[93] }, type := 93, pos := "free.go:63", after := #[{ on := 10, ground := Ground.data }], guard := none }) rfl (fun K hK => ?_) AllReady.nil
                go_simp
                refine (sclone_any vr A HL5.out.rd.row hla).mono ?_
                rintro e w6 ⟨v6, rfl, s1, s2, s3⟩
                obtain ⟨ya, yc, rfl⟩ := own_slice2 s1
                have m7 := HN5.out.newR s3 s1 s2 H1.out.hr
                have HM7 := hide m7.1
                have HG7 := hide m7.2
                have hM6 := HN5.out.below s3
                obtain ⟨-, -, -, b2'⟩ := hM6.c
                have z0 := hM6.rd.fz 0
                have z1 := hM6.rd.c0
                clear s1 s2 s3 m7 hM6 a2 a4 b2
                go_simp
                refine hK _ _ ?_
                clear hK K
                try simp only [Act.put, List.setIfInBounds_toArray, List.set_cons_zero, List.set_cons_succ]
                refine wpAny_take (i := 12) (oi := { dst := some 45, op := Op.nilCheck (Operand.tmp 36), type := 0, pos := "free.go:63", after := #[{ on := 3, ground := Ground.data }, { on := 0, ground := Ground.phase }, { on := 1, ground := Ground.phase }, { on := 2, ground := Ground.phase }, { on := 3, ground := Ground.phase }, { on := 4, ground := Ground.phase }, { on := 5, ground := Ground.phase }, { on := 6, ground := Ground.phase }, { on := 7, ground := Ground.phase }, { on := 8, ground := Ground.phase }, { on := 9, ground := Ground.phase }, { on := 10, ground := Ground.phase }, { on := 11, ground := Ground.phase }], guard := none }) (v := ?v12x99) rfl (by kernel_rfl) (by kernel_rfl) (by kernel_rfl) (fun _ _ _ h => h) (Or.inl ⟨by rfl, ?hy12x99⟩) ?rest12x99
                case hy12x99 => (intro w; (first | (go_simp; with_reducible rfl) | go_simp))
                try simp only [Act.put, List.setIfInBounds_toArray, List.set_cons_zero, List.set_cons_succ]
                refine wpAny_take (i := 13) (oi := { dst := some 46, op := Op.fieldAddr 97 (Operand.tmp 45) 0, type := 0, pos := "free.go:63", after := #[{ on := 12, ground := Ground.data }, { on := 0, ground := Ground.phase }, { on := 1, ground := Ground.phase }, { on := 2, ground := Ground.phase }, { on := 3, ground := Ground.phase }, { on := 4, ground := Ground.phase }, { on := 5, ground := Ground.phase }, { on := 6, ground := Ground.phase }, { on := 7, ground := Ground.phase }, { on := 8, ground := Ground.phase }, { on := 9, ground := Ground.phase }, { on := 10, ground := Ground.phase }, { on := 11, ground := Ground.phase }], guard := none }) (v := ?v13x100) rfl (by kernel_rfl) (by kernel_rfl) (by kernel_rfl) (fun _ _ _ h => h) (Or.inl ⟨by rfl, ?hy13x100⟩) ?rest13x100
                case hy13x100 => (intro w; (first | (go_simp; with_reducible rfl) | go_simp))
                try simp only [Act.put, List.setIfInBounds_toArray, List.set_cons_zero, List.set_cons_succ]
                refine wpAny_ready (rs := [14]) (by kernel_rfl) (by simp) ?_
                refine AllReady.cons (o := { dst := none, op := Op.store 93 (Operand.tmp 46) (Operand.tmp 44), type := 0, pos := "free.go:63", after := #[{ on := 13, ground := Ground.data }, { on := 11, ground := Ground.data }, { on := 11, ground := Ground.chain }, { on := 0, ground := Ground.phase }, { on := 1, ground := Ground.phase }, { on := 2, ground := Ground.phase }, { on := 3, ground := Ground.phase }, { on := 4, ground := Ground.phase }, { on := 5, ground := Ground.phase }, { on := 6, ground := Ground.phase }, { on := 7, ground := Ground.phase }, { on := 8, ground := Ground.phase }, { on := 9, ground := Ground.phase }, { on := 10, ground := Ground.phase }, { on := 11, ground := Ground.phase }], guard := none }) rfl (fun K hK => ?_) AllReady.nil
                go_simp
                refine hK _ _ ?_
                clear hK K
                try simp only [Act.put, List.setIfInBounds_toArray, List.set_cons_zero, List.set_cons_succ]
                refine wpAny_done (by kernel_rfl) ?_ _
                go_wp2
                go_ret
                have hgo := HG6.out.trans HG7.out
                refine ⟨l1, OwL l1 pw1 pr1 _ _, rfl, ⟨pw1, pr1, _, _, ms, R, A, B, HM7.out, H2.out, H3.out, fun k => Iff.rfl⟩, fun k hk => ?_, HD3.out.trans (hgo.mv.below HD3.out.size (fun k hk => Q3.out k (by exact hk)))⟩
                rcases hgo.own k hk with h | h
                · exact Q3.out k h
                · exact Nat.le_trans HD3.out.size h
              · skip
                go_simp
                refine (sclone_any vr A HL5.out.rd.row hla).mono ?_
                rintro e w6 ⟨v6, rfl, s1, s2, s3⟩
                obtain ⟨ya, yc, rfl⟩ := own_slice2 s1
                have m7 := HN5.out.newR s3 s1 s2 H1.out.hr
                have HM7 := hide m7.1
                have HG7 := hide m7.2
                have hM6 := HN5.out.below s3
                obtain ⟨-, -, -, b2'⟩ := hM6.c
                have z0 := hM6.rd.fz 0
                have z1 := hM6.rd.c0
                clear s1 s2 s3 m7 hM6 a2 a4 b2
                go_simp
                refine hK _ _ ?_
                clear hK K
                try simp only [Act.put, List.setIfInBounds_toArray, List.set_cons_zero, List.set_cons_succ]
                refine wpAny_ready (rs := [3]) (by kernel_rfl) (by simp) ?_
                refine AllReady.cons (o := { dst := some 36, op := Op.load 73 (Operand.tmp 35), type := 73, pos := "free.go:63", after := #[{ on := 2, ground := Ground.data }], guard := none }) rfl (fun K hK => ?_) AllReady.nil
                go_simp
                refine hK _ _ ?_
                clear hK K
                try simp only [Act.put, List.setIfInBounds_toArray, List.set_cons_zero, List.set_cons_succ]
                refine wpAny_take (i := 12) (oi := { dst := some 45, op := Op.nilCheck (Operand.tmp 36), type := 0, pos := "free.go:63", after := #[{ on := 3, ground := Ground.data }, { on := 0, ground := Ground.phase }, { on := 1, ground := Ground.phase }, { on := 2, ground := Ground.phase }, { on := 3, ground := Ground.phase }, { on := 4, ground := Ground.phase }, { on := 5, ground := Ground.phase }, { on := 6, ground := Ground.phase }, { on := 7, ground := Ground.phase }, { on := 8, ground := Ground.phase }, { on := 9, ground := Ground.phase }, { on := 10, ground := Ground.phase }, { on := 11, ground := Ground.phase }], guard := none }) (v := ?v12x101) rfl (by kernel_rfl) (by kernel_rfl) (by kernel_rfl) (fun _ _ _ h => h) (Or.inl ⟨by rfl, ?hy12x101⟩) ?rest12x101
                case hy12x101 => (intro w; (first | (go_simp; with_reducible rfl) | go_simp))
                try simp only [Act.put, List.setIfInBounds_toArray, List.set_cons_zero, List.set_cons_succ]
                refine wpAny_take (i := 13) (oi := { dst := some 46, op := Op.fieldAddr 97 (Operand.tmp 45) 0, type := 0, pos := "free.go:63", after := #[{ on := 12, ground := Ground.data }, { on := 0, ground := Ground.phase }, { on := 1, ground := Ground.phase }, { on := 2, ground := Ground.phase }, { on := 3, ground := Ground.phase }, { on := 4, ground := Ground.phase }, { on := 5, ground := Ground.phase }, { on := 6, ground := Ground.phase }, { on := 7, ground := Ground.phase }, { on := 8, ground := Ground.phase }, { on := 9, ground := Ground.phase }, { on := 10, ground := Ground.phase }, { on := 11, ground := Ground.phase }], guard := none }) (v := ?v13x102) rfl (by kernel_rfl) (by kernel_rfl) (by kernel_rfl) (fun _ _ _ h => h) (Or.inl ⟨by rfl, ?hy13x102⟩) ?rest13x102
                case hy13x102 => (intro w; (first | (go_simp; with_reducible rfl) | go_simp))
                try simp only [Act.put, List.setIfInBounds_toArray, List.set_cons_zero, List.set_cons_succ]
                refine wpAny_ready (rs := [14]) (by kernel_rfl) (by simp) ?_
                refine AllReady.cons (o := { dst := none, op := Op.store 93 (Operand.tmp 46) (Operand.tmp 44), type := 0, pos := "free.go:63", after := #[{ on := 13, ground := Ground.data }, { on := 11, ground := Ground.data }, { on := 11, ground := Ground.chain }, { on := 0, ground := Ground.phase }, { on := 1, ground := Ground.phase }, { on := 2, ground := Ground.phase }, { on := 3, ground := Ground.phase }, { on := 4, ground := Ground.phase }, { on := 5, ground := Ground.phase }, { on := 6, ground := Ground.phase }, { on := 7, ground := Ground.phase }, { on := 8, ground := Ground.phase }, { on := 9, ground := Ground.phase }, { on := 10, ground := Ground.phase }, { on := 11, ground := Ground.phase }], guard := none }) rfl (fun K hK => ?_) AllReady.nil
                go_simp
                refine hK _ _ ?_
                clear hK K
                try simp only [Act.put, List.setIfInBounds_toArray, List.set_cons_zero, List.set_cons_succ]
                refine wpAny_done (by kernel_rfl) ?_ _
                go_wp2
                go_ret
                have hgo := HG6.out.trans HG7.out
                refine ⟨l1, OwL l1 pw1 pr1 _ _, rfl, ⟨pw1, pr1, _, _, ms, R, A, B, HM7.out, H2.out, H3.out, fun k => Iff.rfl⟩, fun k hk => ?_, HD3.out.trans (hgo.mv.below HD3.out.size (fun k hk => Q3.out k (by exact hk)))⟩
                rcases hgo.own k hk with h | h
                · exact Q3.out k h
                · exact Nat.le_trans HD3.out.size h
  · go_simp
    refine hK _ _ ?_
    clear hK K
    try simp only [Act.put, List.setIfInBounds_toArray, List.set_cons_zero, List.set_cons_succ]
    refine wpAny_ready (rs := [5]) (by kernel_rfl) (by simp) ?_
    refine AllReady.cons (o := { dst := some 10, op := Op.load 76 (Operand.tmp 9), type := 76, pos := "free.go:60", after := #[{ on := 4, ground := Ground.data }], guard := none }) rfl (fun K hK => ?_) AllReady.nil
    refine step_of rfl ?_
    refine wp_load_marks (.tmp 9) rfl l rfl (mcl ms) HLn.out HCm.out ?_
    refine hK _ _ ?_
    clear hK K
    try simp only [Act.put, List.setIfInBounds_toArray, List.set_cons_zero, List.set_cons_succ]
    refine wpAny_take (i := 10) (oi := { dst := some 15, op := Op.nilCheck (Operand.tmp 5), type := 0, pos := "free.go:60", after := #[{ on := 0, ground := Ground.data }, { on := 0, ground := Ground.phase }, { on := 1, ground := Ground.textOnly Departure.lateStores }, { on := 2, ground := Ground.phase }, { on := 3, ground := Ground.phase }, { on := 4, ground := Ground.phase }, { on := 5, ground := Ground.phase }, { on := 6, ground := Ground.textOnly Departure.lateStores }, { on := 7, ground := Ground.textOnly Departure.lateStoresUnsure }, { on := 8, ground := Ground.textOnly Departure.lateStoresUnsure }, { on := 9, ground := Ground.phase }], guard := none }) (v := ?v10x103) rfl (by kernel_rfl) (by kernel_rfl) (by kernel_rfl) (fun _ _ _ h => h) (Or.inl ⟨by rfl, ?hy10x103⟩) ?rest10x103
    case hy10x103 => (intro w; (first | (go_simp; with_reducible rfl) | go_simp))
    try simp only [Act.put, List.setIfInBounds_toArray, List.set_cons_zero, List.set_cons_succ]
    refine wpAny_take (i := 11) (oi := { dst := some 16, op := Op.fieldAddr 78 (Operand.tmp 15) 0, type := 0, pos := "free.go:60", after := #[{ on := 10, ground := Ground.data }, { on := 0, ground := Ground.phase }, { on := 1, ground := Ground.textOnly Departure.lateStores }, { on := 2, ground := Ground.phase }, { on := 3, ground := Ground.phase }, { on := 4, ground := Ground.phase }, { on := 5, ground := Ground.phase }, { on := 6, ground := Ground.textOnly Departure.lateStores }, { on := 7, ground := Ground.textOnly Departure.lateStoresUnsure }, { on := 8, ground := Ground.textOnly Departure.lateStoresUnsure }, { on := 9, ground := Ground.phase }], guard := none }) (v := ?v11x104) rfl (by kernel_rfl) (by kernel_rfl) (by kernel_rfl) (fun _ _ _ h => h) (Or.inl ⟨by rfl, ?hy11x104⟩) ?rest11x104
    case hy11x104 => (intro w; (first | (go_simp; with_reducible rfl) | go_simp))
    try simp only [Act.put, List.setIfInBounds_toArray, List.set_cons_zero, List.set_cons_succ]
    refine wpAny_ready (rs := [12]) (by kernel_rfl) (by simp) ?_
    refine AllReady.cons (o := { dst := none, op := Op.store 76 (Operand.tmp 16) (Operand.tmp 10), type := 0, pos := "free.go:60", after := #[{ on := 11, ground := Ground.data }, { on := 5, ground := Ground.data }, { on := 0, ground := Ground.phase }, { on := 1, ground := Ground.textOnly Departure.lateStores }, { on := 2, ground := Ground.phase }, { on := 3, ground := Ground.phase }, { on := 4, ground := Ground.phase }, { on := 5, ground := Ground.phase }, { on := 6, ground := Ground.textOnly Departure.lateStores }, { on := 7, ground := Ground.textOnly Departure.lateStoresUnsure }, { on := 8, ground := Ground.textOnly Departure.lateStoresUnsure }, { on := 9, ground := Ground.phase }], guard := none }) rfl (fun K hK => ?_) AllReady.nil
    refine step_of rfl ?_
    refine wp_store_marks (.tmp 16) (.tmp 10) rfl l1 rfl (mcl ms) rfl 78 _ HM1.out.blk HSz.out HLn.out (mcl_cells ms) ?_
    obtain ⟨m2, g2⟩ := Lm.marks HM1.out H1.out.mks
    have HG2 := hide g2
    have HM2 := hide m2
    obtain ⟨-, d1, -, -⟩ := m2.c
    have f1 := m2.fz 256
    clear m2 g2
    generalize World.setRow w1.drew l1 _ = W2 at *
    refine hK _ _ ?_
    clear hK K
    try simp only [Act.put, List.setIfInBounds_toArray, List.set_cons_zero, List.set_cons_succ]
    refine wpAny_take (i := 13) (oi := { dst := some 17, op := Op.nilCheck (Operand.tmp 6), type := 0, pos := "free.go:60", after := #[{ on := 1, ground := Ground.data }, { on := 0, ground := Ground.phase }, { on := 1, ground := Ground.phase }, { on := 2, ground := Ground.phase }, { on := 3, ground := Ground.phase }, { on := 4, ground := Ground.phase }, { on := 5, ground := Ground.phase }, { on := 6, ground := Ground.phase }, { on := 7, ground := Ground.phase }, { on := 8, ground := Ground.phase }, { on := 9, ground := Ground.phase }, { on := 10, ground := Ground.phase }, { on := 11, ground := Ground.phase }, { on := 12, ground := Ground.phase }], guard := none }) (v := ?v13x105) rfl (by kernel_rfl) (by kernel_rfl) (by kernel_rfl) (fun _ _ _ h => h) (Or.inl ⟨by rfl, ?hy13x105⟩) ?rest13x105
    case hy13x105 => (intro w; (first | (go_simp; with_reducible rfl) | go_simp))
    try simp only [Act.put, List.setIfInBounds_toArray, List.set_cons_zero, List.set_cons_succ]
    refine wpAny_take (i := 14) (oi := { dst := some 18, op := Op.fieldAddr 78 (Operand.tmp 17) 1, type := 0, pos := "free.go:60", after := #[{ on := 13, ground := Ground.data }, { on := 0, ground := Ground.phase }, { on := 1, ground := Ground.phase }, { on := 2, ground := Ground.phase }, { on := 3, ground := Ground.phase }, { on := 4, ground := Ground.phase }, { on := 5, ground := Ground.phase }, { on := 6, ground := Ground.phase }, { on := 7, ground := Ground.phase }, { on := 8, ground := Ground.phase }, { on := 9, ground := Ground.phase }, { on := 10, ground := Ground.phase }, { on := 11, ground := Ground.phase }, { on := 12, ground := Ground.phase }], guard := none }) (v := ?v14x106) rfl (by kernel_rfl) (by kernel_rfl) (by kernel_rfl) (fun _ _ _ h => h) (Or.inl ⟨by rfl, ?hy14x106⟩) ?rest14x106
    case hy14x106 => (intro w; (first | (go_simp; with_reducible rfl) | go_simp))
    try simp only [Act.put, List.setIfInBounds_toArray, List.set_cons_zero, List.set_cons_succ]
    refine wpAny_ready (rs := [15]) (by kernel_rfl) (by simp) ?_
    refine AllReady.cons (o := { dst := none, op := Op.store 57 (Operand.tmp 18) (Operand.tmp 14), type := 0, pos := "free.go:60", after := #[{ on := 14, ground := Ground.data }, { on := 9, ground := Ground.data }, { on := 12, ground := Ground.chain }, { on := 0, ground := Ground.phase }, { on := 1, ground := Ground.phase }, { on := 2, ground := Ground.phase }, { on := 3, ground := Ground.phase }, { on := 4, ground := Ground.phase }, { on := 5, ground := Ground.phase }, { on := 6, ground := Ground.phase }, { on := 7, ground := Ground.phase }, { on := 8, ground := Ground.phase }, { on := 9, ground := Ground.phase }, { on := 10, ground := Ground.phase }, { on := 11, ground := Ground.phase }, { on := 12, ground := Ground.phase }], guard := none }) rfl (fun K hK => ?_) AllReady.nil
    go_simp
    refine hK _ _ ?_
    clear hK K
    try simp only [Act.put, List.setIfInBounds_toArray, List.set_cons_zero, List.set_cons_succ]
    refine wpAny_done (by kernel_rfl) ?_ _
    have ⟨m3, g3⟩ := HM2.out.struct 256 (.int .u64 R) H1.out.mks (lcl_reach H1.out.mks R1 pw1 pr1 R)
    have hv3 := HG2.out.trans' g3
    have hB3 := HBd.out.trans (hv3.below HBd.out.size (fun k hk => Q3.out k (.inl hk)))
    have HM3 := hide m3
    have HB3 := hide hB3
    clear m3 g3 hv3 hB3 d1 f1 HM2 HG2 e1 HCm
    generalize W2.setCell _ _ = W3 at *
    have HD3 : Hid (Below w.heap.size w W3.drew) := hide ⟨HB3.out.os, HB3.out.tape, HB3.out.output, HB3.out.size, HB3.out.block⟩
    have HL3 := hide (H1.out.below HD3.out)
    have HN3 : Hid (Lm W3.drew l1 pw1 pr1 vw1 vr1 ms R A1 B1) := hide (HM3.out.stays (fun _ _ => rfl))
    obtain ⟨-, -, a2, -⟩ := HL3.out.c
    have a4 := HL3.out.wt.c0
    obtain ⟨-, -, b2, -⟩ := HN3.out.c
    go_wp2
    refine wp_region_any (by kernel_rfl) ?_
    change wpAny _ _ _ _ _ _ _ (World.drew _)
    refine wpAny_take (i := 0) (oi := { dst := some 19, op := Op.move (Operand.tmp 3), type := 23, pos := "free.go:62", after := #[], guard := none }) (v := ?v0x107) rfl (by kernel_rfl) (by kernel_rfl) (by kernel_rfl) (fun _ _ _ h => h) (Or.inl ⟨by rfl, ?hy0x107⟩) ?rest0x107
    case hy0x107 => (intro w; (first | (go_simp; with_reducible rfl) | go_simp))
    try simp only [Act.put, List.setIfInBounds_toArray, List.set_cons_zero, List.set_cons_succ]
    refine wpAny_take (i := 1) (oi := { dst := some 20, op := Op.nilCheck (Operand.tmp 19), type := 0, pos := "free.go:62", after := #[{ on := 0, ground := Ground.data }], guard := none }) (v := ?v1x108) rfl (by kernel_rfl) (by kernel_rfl) (by kernel_rfl) (fun _ _ _ h => h) (Or.inl ⟨by rfl, ?hy1x108⟩) ?rest1x108
    case hy1x108 => (intro w; (first | (go_simp; with_reducible rfl) | go_simp))
    try simp only [Act.put, List.setIfInBounds_toArray, List.set_cons_zero, List.set_cons_succ]
    refine wpAny_take (i := 2) (oi := { dst := some 21, op := Op.fieldAddr 78 (Operand.tmp 20) 2, type := 0, pos := "free.go:62", after := #[{ on := 1, ground := Ground.data }], guard := none }) (v := ?v2x109) rfl (by kernel_rfl) (by kernel_rfl) (by kernel_rfl) (fun _ _ _ h => h) (Or.inl ⟨by rfl, ?hy2x109⟩) ?rest2x109
    case hy2x109 => (intro w; (first | (go_simp; with_reducible rfl) | go_simp))
    try simp only [Act.put, List.setIfInBounds_toArray, List.set_cons_zero, List.set_cons_succ]
    refine wpAny_take (i := 4) (oi := { dst := some 23, op := Op.move (Operand.tmp 0), type := 23, pos := "free.go:62", after := #[], guard := none }) (v := ?v4x110) rfl (by kernel_rfl) (by kernel_rfl) (by kernel_rfl) (fun _ _ _ h => h) (Or.inl ⟨by rfl, ?hy4x110⟩) ?rest4x110
    case hy4x110 => (intro w; (first | (go_simp; with_reducible rfl) | go_simp))
    try simp only [Act.put, List.setIfInBounds_toArray, List.set_cons_zero, List.set_cons_succ]
    refine wpAny_take (i := 5) (oi := { dst := some 24, op := Op.nilCheck (Operand.tmp 23), type := 0, pos := "free.go:62", after := #[{ on := 4, ground := Ground.data }], guard := none }) (v := ?v5x111) rfl (by kernel_rfl) (by kernel_rfl) (by kernel_rfl) (fun _ _ _ h => h) (Or.inl ⟨by rfl, ?hy5x111⟩) ?rest5x111
    case hy5x111 => (intro w; (first | (go_simp; with_reducible rfl) | go_simp))
    try simp only [Act.put, List.setIfInBounds_toArray, List.set_cons_zero, List.set_cons_succ]
    refine wpAny_take (i := 6) (oi := { dst := some 25, op := Op.fieldAddr 78 (Operand.tmp 24) 2, type := 0, pos := "free.go:62", after := #[{ on := 5, ground := Ground.data }], guard := none }) (v := ?v6x112) rfl (by kernel_rfl) (by kernel_rfl) (by kernel_rfl) (fun _ _ _ h => h) (Or.inl ⟨by rfl, ?hy6x112⟩) ?rest6x112
    case hy6x112 => (intro w; (first | (go_simp; with_reducible rfl) | go_simp))
    try simp only [Act.put, List.setIfInBounds_toArray, List.set_cons_zero, List.set_cons_succ]
    refine wpAny_ready (rs := [3, 7]) (by kernel_rfl) (by simp) ?_
    refine AllReady.cons (o := { dst := some 22, op := Op.load 73 (Operand.tmp 21), type := 73, pos := "free.go:62", after := #[{ on := 2, ground := Ground.data }], guard := none }) rfl (fun K hK => ?_) (AllReady.cons (o := { dst := some 26, op := Op.load 73 (Operand.tmp 25), type := 73, pos := "free.go:62", after := #[{ on := 6, ground := Ground.data }], guard := none }) rfl (fun K hK => ?_) AllReady.nil)
    · skip
      go_simp
      refine hK _ _ ?_
      clear hK K
      try simp only [Act.put, List.setIfInBounds_toArray, List.set_cons_zero, List.set_cons_succ]
      refine wpAny_ready (rs := [7]) (by kernel_rfl) (by simp) ?_
      refine AllReady.cons (o := { dst := some 26, op := Op.load 73 (Operand.tmp 25), type := 73, pos := "free.go:62", after := #[{ on := 6, ground := Ground.data }], guard := none }) rfl (fun K hK => ?_) AllReady.nil
      go_simp
      refine hK _ _ ?_
      clear hK K
      try simp only [Act.put, List.setIfInBounds_toArray, List.set_cons_zero, List.set_cons_succ]
      refine wpAny_take (i := 8) (oi := { dst := some 27, op := Op.nilCheck (Operand.tmp 26), type := 0, pos := "free.go:62", after := #[{ on := 7, ground := Ground.data }], guard := none }) (v := ?v8x113) rfl (by kernel_rfl) (by kernel_rfl) (by kernel_rfl) (fun _ _ _ h => h) (Or.inl ⟨by rfl, ?hy8x113⟩) ?rest8x113
      case hy8x113 => (intro w; (first | (go_simp; with_reducible rfl) | go_simp))
      try simp only [Act.put, List.setIfInBounds_toArray, List.set_cons_zero, List.set_cons_succ]
      refine wpAny_take (i := 9) (oi := { dst := some 28, op := Op.fieldAddr 97 (Operand.tmp 27) 0, type := 0, pos := "free.go:62", after := #[{ on := 8, ground := Ground.data }], guard := none }) (v := ?v9x114) rfl (by kernel_rfl) (by kernel_rfl) (by kernel_rfl) (fun _ _ _ h => h) (Or.inl ⟨by rfl, ?hy9x114⟩) ?rest9x114
      case hy9x114 => (intro w; (first | (go_simp; with_reducible rfl) | go_simp))
      try simp only [Act.put, List.setIfInBounds_toArray, List.set_cons_zero, List.set_cons_succ]
      refine wpAny_ready (rs := [10]) (by kernel_rfl) (by simp) ?_
      refine AllReady.cons (o := { dst := some 29, op := Op.load 93 (Operand.tmp 28), type := 93, pos := "free.go:62", after := #[{ on := 9, ground := Ground.data }], guard := none }) rfl (fun K hK => ?_) AllReady.nil
      go_simp
      refine hK _ _ ?_
      clear hK K
      try simp only [Act.put, List.setIfInBounds_toArray, List.set_cons_zero, List.set_cons_succ]
      refine wpAny_ready (rs := [11]) (by kernel_rfl) (by simp) ?_
      refine AllReady.cons (o := { dst := some 30, op := Op.call { callee := Callee.value (Operand.func 34), args := #[Operand.tmp 29], argTypes := #[93] }, type := 93, pos := "free.go:62", after := #[{ on := 10, ground := Ground.data }], guard := none }) rfl (fun K hK => ?_) AllReady.nil
      go_simp
      refine (sclone_any vw B HL3.out.wt.row hlb).mono ?_
      rintro e w4 ⟨v4, rfl, s1, s2, s3⟩
      obtain ⟨xa, xc, rfl⟩ := own_slice2 s1
      have m5 := HN3.out.newW s3 s1 s2 H1.out.hw
      have HM5 := hide m5.1
      have HG5 := hide m5.2
      have hM4 := HN3.out.below s3
      obtain ⟨-, -, b2', -⟩ := hM4.c
      have z0 := hM4.wt.fz 0
      have z1 := hM4.wt.c0
      clear s1 s2 s3 m5 hM4 a2 a4 b2
      go_simp
      refine hK _ _ ?_
      clear hK K
      try simp only [Act.put, List.setIfInBounds_toArray, List.set_cons_zero, List.set_cons_succ]
      refine wpAny_take (i := 12) (oi := { dst := some 31, op := Op.nilCheck (Operand.tmp 22), type := 0, pos := "free.go:62", after := #[{ on := 3, ground := Ground.data }, { on := 0, ground := Ground.phase }, { on := 1, ground := Ground.phase }, { on := 2, ground := Ground.phase }, { on := 3, ground := Ground.phase }, { on := 4, ground := Ground.phase }, { on := 5, ground := Ground.phase }, { on := 6, ground := Ground.phase }, { on := 7, ground := Ground.phase }, { on := 8, ground := Ground.phase }, { on := 9, ground := Ground.phase }, { on := 10, ground := Ground.phase }, { on := 11, ground := Ground.phase }], guard := none }) (v := ?v12x115) rfl (by kernel_rfl) (by kernel_rfl) (by kernel_rfl) (fun _ _ _ h => h) (Or.inl ⟨by rfl, ?hy12x115⟩) ?rest12x115
      case hy12x115 => (intro w; (first | (go_simp; with_reducible rfl) | go_simp))
      try simp only [Act.put, List.setIfInBounds_toArray, List.set_cons_zero, List.set_cons_succ]
      refine wpAny_take (i := 13) (oi := { dst := some 32, op := Op.fieldAddr 97 (Operand.tmp 31) 0, type := 0, pos := "free.go:62", after := #[{ on := 12, ground := Ground.data }, { on := 0, ground := Ground.phase }, { on := 1, ground := Ground.phase }, { on := 2, ground := Ground.phase }, { on := 3, ground := Ground.phase }, { on := 4, ground := Ground.phase }, { on := 5, ground := Ground.phase }, { on := 6, ground := Ground.phase }, { on := 7, ground := Ground.phase }, { on := 8, ground := Ground.phase }, { on := 9, ground := Ground.phase }, { on := 10, ground := Ground.phase }, { on := 11, ground := Ground.phase }], guard := none }) (v := ?v13x116) rfl (by kernel_rfl) (by kernel_rfl) (by kernel_rfl) (fun _ _ _ h => h) (Or.inl ⟨by rfl, ?hy13x116⟩) ?rest13x116
      case hy13x116 => (intro w; (first | (go_simp; with_reducible rfl) | go_simp))
      try simp only [Act.put, List.setIfInBounds_toArray, List.set_cons_zero, List.set_cons_succ]
      refine wpAny_ready (rs := [14]) (by kernel_rfl) (by simp) ?_
      refine AllReady.cons (o := { dst := none, op := Op.store 93 (Operand.tmp 32) (Operand.tmp 30), type := 0, pos := "free.go:62", after := #[{ on := 13, ground := Ground.data }, { on := 11, ground := Ground.data }, { on := 11, ground := Ground.chain }, { on := 0, ground := Ground.phase }, { on := 1, ground := Ground.phase }, { on := 2, ground := Ground.phase }, { on := 3, ground := Ground.phase }, { on := 4, ground := Ground.phase }, { on := 5, ground := Ground.phase }, { on := 6, ground := Ground.phase }, { on := 7, ground := Ground.phase }, { on := 8, ground := Ground.phase }, { on := 9, ground := Ground.phase }, { on := 10, ground := Ground.phase }, { on := 11, ground := Ground.phase }], guard := none }) rfl (fun K hK => ?_) AllReady.nil
      go_simp
      refine hK _ _ ?_
      clear hK K
      try simp only [Act.put, List.setIfInBounds_toArray, List.set_cons_zero, List.set_cons_succ]
      refine wpAny_done (by kernel_rfl) ?_ _
      have hB5 := HD3.out.trans (HG5.out.mv.below HD3.out.size (fun k hk => Q3.out k (by exact hk)))
      have HB5 := hide hB5
      clear hB5 z0 z1 b2'
      generalize w4.setCell _ _ = W5 at *
      have HD5 : Hid (Below w.heap.size w W5.drew) := hide ⟨HB5.out.os, HB5.out.tape, HB5.out.output, HB5.out.size, HB5.out.block⟩
      have HL5 := hide (H1.out.below HD5.out)
      have HN5 : Hid (Lm W5.drew l1 pw1 pr1 (.slice xa B.length xc) vr1 ms R A1 B) := hide (HM5.out.stays (fun _ _ => rfl))
      have HG6 : Hid (Go1 (OwL l1 pw1 pr1 vw1 vr1) W3.drew (OwL l1 pw1 pr1 (.slice xa B.length xc) vr1) W5.drew) := hide HG5.out.drew
      obtain ⟨-, -, -, a2⟩ := HL5.out.c
      have a4 := HL5.out.rd.c0
      obtain ⟨-, -, -, b2⟩ := HN5.out.c
      go_wp2
      refine wp_region_any (by kernel_rfl) ?_
      change wpAny _ _ _ _ _ _ _ (World.drew _)
      refine wpAny_take (i := 0) (oi := { dst := some 33, op := Op.move (Operand.tmp 3), type := 23, pos := "free.go:63", after := #[], guard := none }) (v := ?v0x117) rfl (by kernel_rfl) (by kernel_rfl) (by kernel_rfl) (fun _ _ _ h => h) (Or.inl ⟨by rfl, ?hy0x117⟩) ?rest0x117
      case hy0x117 => (intro w; (first | (go_simp; with_reducible rfl) | go_simp))
      try simp only [Act.put, List.setIfInBounds_toArray, List.set_cons_zero, List.set_cons_succ]
      refine wpAny_take (i := 1) (oi := { dst := some 34, op := Op.nilCheck (Operand.tmp 33), type := 0, pos := "free.go:63", after := #[{ on := 0, ground := Ground.data }], guard := none }) (v := ?v1x118) rfl (by kernel_rfl) (by kernel_rfl) (by kernel_rfl) (fun _ _ _ h => h) (Or.inl ⟨by rfl, ?hy1x118⟩) ?rest1x118
      case hy1x118 => (intro w; (first | (go_simp; with_reducible rfl) | go_simp))
      try simp only [Act.put, List.setIfInBounds_toArray, List.set_cons_zero, List.set_cons_succ]
      refine wpAny_take (i := 2) (oi := { dst := some 35, op := Op.fieldAddr 78 (Operand.tmp 34) 3, type := 0, pos := "free.go:63", after := #[{ on := 1, ground := Ground.data }], guard := none }) (v := ?v2x119) rfl (by kernel_rfl) (by kernel_rfl) (by kernel_rfl) (fun _ _ _ h => h) (Or.inl ⟨by rfl, ?hy2x119⟩) ?rest2x119
      case hy2x119 => (intro w; (first | (go_simp; with_reducible rfl) | go_simp))
      try simp only [Act.put, List.setIfInBounds_toArray, List.set_cons_zero, List.set_cons_succ]
      refine wpAny_take (i := 4) (oi := { dst := some 37, op := Op.move (Operand.tmp 0), type := 23, pos := "free.go:63", after := #[], guard := none }) (v := ?v4x120) rfl (by kernel_rfl) (by kernel_rfl) (by kernel_rfl) (fun _ _ _ h => h) (Or.inl ⟨by rfl, ?hy4x120⟩) ?rest4x120
      case hy4x120 => (intro w; (first | (go_simp; with_reducible rfl) | go_simp))
      try simp only [Act.put, List.setIfInBounds_toArray, List.set_cons_zero, List.set_cons_succ]
      refine wpAny_take (i := 5) (oi := { dst := some 38, op := Op.nilCheck (Operand.tmp 37), type := 0, pos := "free.go:63", after := #[{ on := 4, ground := Ground.data }], guard := none }) (v := ?v5x121) rfl (by kernel_rfl) (by kernel_rfl) (by kernel_rfl) (fun _ _ _ h => h) (Or.inl ⟨by rfl, ?hy5x121⟩) ?rest5x121
      case hy5x121 => (intro w; (first | (go_simp; with_reducible rfl) | go_simp))
      try simp only [Act.put, List.setIfInBounds_toArray, List.set_cons_zero, List.set_cons_succ]
      refine wpAny_take (i := 6) (oi := { dst := some 39, op := Op.fieldAddr 78 (Operand.tmp 38) 3, type := 0, pos := "free.go:63", after := #[{ on := 5, ground := Ground.data }], guard := none }) (v := ?v6x122) rfl (by kernel_rfl) (by kernel_rfl) (by kernel_rfl) (fun _ _ _ h => h) (Or.inl ⟨by rfl, ?hy6x122⟩) ?rest6x122
      case hy6x122 => (intro w; (first | (go_simp; with_reducible rfl) | go_simp))
      try simp only [Act.put, List.setIfInBounds_toArray, List.set_cons_zero, List.set_cons_succ]
      refine wpAny_ready (rs := [3, 7]) (by kernel_rfl) (by simp) ?_
      refine AllReady.cons (o := { dst := some 36, op := Op.load 73 (Operand.tmp 35), type := 73, pos := "free.go:63", after := #[{ on := 2, ground := Ground.data }], guard := none }) rfl (fun K hK => ?_) (AllReady.cons (o := { dst := some 40, op := Op.load 73 (Operand.tmp 39), type := 73, pos := "free.go:63", after := #[{ on := 6, ground := Ground.data }], guard := none }) rfl (fun K hK => ?_) AllReady.nil)
      · skip
        go_simp
        refine hK _ _ ?_
        clear hK K
        try simp only [Act.put, List.setIfInBounds_toArray, List.set_cons_zero, List.set_cons_succ]
        refine wpAny_ready (rs := [7]) (by kernel_rfl) (by simp) ?_
        refine AllReady.cons (o := { dst := some 40, op := Op.load 73 (Operand.tmp 39), type := 73, pos := "free.go:63", after := #[{ on := 6, ground := Ground.data }], guard := none }) rfl (fun K hK => ?_) AllReady.nil
        go_simp
        refine hK _ _ ?_
        clear hK K
        try simp only [Act.put, List.setIfInBounds_toArray, List.set_cons_zero, List.set_cons_succ]
        refine wpAny_take (i := 8) (oi := { dst := some 41, op := Op.nilCheck (Operand.tmp 40), type := 0, pos := "free.go:63", after := #[{ on := 7, ground := Ground.data }], guard := none }) (v := ?v8x123) rfl (by kernel_rfl) (by kernel_rfl) (by kernel_rfl) (fun _ _ _ h => h) (Or.inl ⟨by rfl, ?hy8x123⟩) ?rest8x123
        case hy8x123 => (intro w; (first | (go_simp; with_reducible rfl) | go_simp))
        try simp only [Act.put, List.setIfInBounds_toArray, List.set_cons_zero, List.set_cons_succ]
        refine wpAny_take (i := 9) (oi := { dst := some 42, op := Op.fieldAddr 97 (Operand.tmp 41) 0, type := 0, pos := "free.go:63", after := #[{ on := 8, ground := Ground.data }], guard := none }) (v := ?v9x124) rfl (by kernel_rfl) (by kernel_rfl) (by kernel_rfl) (fun _ _ _ h => h) (Or.inl ⟨by rfl, ?hy9x124⟩) ?rest9x124
        case hy9x124 => (intro w; (first | (go_simp; with_reducible rfl) | go_simp))
        try simp only [Act.put, List.setIfInBounds_toArray, List.set_cons_zero, List.set_cons_succ]
        refine wpAny_ready (rs := [10]) (by kernel_rfl) (by simp) ?_
        refine AllReady.cons (o := { dst := some 43, op := Op.load 93 (Operand.tmp 42), type := 93, pos := "free.go:63", after := #[{ on := 9, ground := Ground.data }], guard := none }) rfl (fun K hK => ?_) AllReady.nil
        go_simp
        refine hK _ _ ?_
        clear hK K
        try simp only [Act.put, List.setIfInBounds_toArray, List.set_cons_zero, List.set_cons_succ]
        refine wpAny_ready (rs := [11]) (by kernel_rfl) (by simp) ?_
        refine AllReady.cons (o := { dst := some 44, op := Op.call { callee := Callee.value (Operand.func 34), args := #[Operand.tmp 43], argTypes := #[93] }, type := 93, pos := "free.go:63", after := #[{ on := 10, ground := Ground.data }], guard := none }) rfl (fun K hK => ?_) AllReady.nil
        go_simp
        refine (sclone_any vr A HL5.out.rd.row hla).mono ?_
        rintro e w6 ⟨v6, rfl, s1, s2, s3⟩
        obtain ⟨ya, yc, rfl⟩ := own_slice2 s1
        have m7 := HN5.out.newR s3 s1 s2 H1.out.hr
        have HM7 := hide m7.1
        have HG7 := hide m7.2
        have hM6 := HN5.out.below s3
        obtain ⟨-, -, -, b2'⟩ := hM6.c
        have z0 := hM6.rd.fz 0
        have z1 := hM6.rd.c0
        clear s1 s2 s3 m7 hM6 a2 a4 b2
        go_simp
        refine hK _ _ ?_
        clear hK K
        try simp only [Act.put, List.setIfInBounds_toArray, List.set_cons_zero, List.set_cons_succ]
        refine wpAny_take (i := 12) (oi := { dst := some 45, op := Op.nilCheck (Operand.tmp 36), type := 0, pos := "free.go:63", after := #[{ on := 3, ground := Ground.data }, { on := 0, ground := Ground.phase }, { on := 1, ground := Ground.phase }, { on := 2, ground := Ground.phase }, { on := 3, ground := Ground.phase }, { on := 4, ground := Ground.phase }, { on := 5, ground := Ground.phase }, { on := 6, ground := Ground.phase }, { on := 7, ground := Ground.phase }, { on := 8, ground := Ground.phase }, { on := 9, ground := Ground.phase }, { on := 10, ground := Ground.phase }, { on := 11, ground := Ground.phase }], guard := none }) (v := ?v12x125) rfl (by kernel_rfl) (by kernel_rfl) (by kernel_rfl) (fun _ _ _ h => h) (Or.inl ⟨by rfl, ?hy12x125⟩) ?rest12x125
        case hy12x125 => (intro w; (first | (go_simp; with_reducible rfl) | go_simp))
        try simp only [Act.put, List.setIfInBounds_toArray, List.set_cons_zero, List.set_cons_succ]
        refine wpAny_take (i := 13) (oi := { dst := some 46, op := Op.fieldAddr 97 (Operand.tmp 45) 0, type := 0, pos := "free.go:63", after := #[{ on := 12, ground := Ground.data }, { on := 0, ground := Ground.phase }, { on := 1, ground := Ground.phase }, { on := 2, ground := Ground.phase }, { on := 3, ground := Ground.phase }, { on := 4, ground := Ground.phase }, { on := 5, ground := Ground.phase }, { on := 6, ground := Ground.phase }, { on := 7, ground := Ground.phase }, { on := 8, ground := Ground.phase }, { on := 9, ground := Ground.phase }, { on := 10, ground := Ground.phase }, { on := 11, ground := Ground.phase }], guard := none }) (v := ?v13x126) rfl (by kernel_rfl) (by kernel_rfl) (by kernel_rfl) (fun _ _ _ h => h) (Or.inl ⟨by rfl, ?hy13x126⟩) ?rest13x126
        case hy13x126 => (intro w; (first | (go_simp; with_reducible rfl) | go_simp))
        try simp only [Act.put, List.setIfInBounds_toArray, List.set_cons_zero, List.set_cons_succ]
        refine wpAny_ready (rs := [14]) (by kernel_rfl) (by simp) ?_
        refine AllReady.cons (o := { dst := none, op := Op.store 93 (Operand.tmp 46) (Operand.tmp 44), type := 0, pos := "free.go:63", after := #[{ on := 13, ground := Ground.data }, { on := 11, ground := Ground.data }, { on := 11, ground := Ground.chain }, { on := 0, ground := Ground.phase }, { on := 1, ground := Ground.phase }, { on := 2, ground := Ground.phase }, { on := 3, ground := Ground.phase }, { on := 4, ground := Ground.phase }, { on := 5, ground := Ground.phase }, { on := 6, ground := Ground.phase }, { on := 7, ground := Ground.phase }, { on := 8, ground := Ground.phase }, { on := 9, ground := Ground.phase }, { on := 10, ground := Ground.phase }, { on := 11, ground := Ground.phase }], guard := none }) rfl (fun K hK => ?_) AllReady.nil
        go_simp
        refine hK _ _ ?_
        clear hK K
        try simp only [Act.put, List.setIfInBounds_toArray, List.set_cons_zero, List.set_cons_succ]
        refine wpAny_done (by kernel_rfl) ?_ _
        go_wp2
        go_ret
        have hgo := HG6.out.trans HG7.out
        refine ⟨l1, OwL l1 pw1 pr1 _ _, rfl, ⟨pw1, pr1, _, _, ms, R, A, B, HM7.out, H2.out, H3.out, fun k => Iff.rfl⟩, fun k hk => ?_, HD3.out.trans (hgo.mv.below HD3.out.size (fun k hk => Q3.out k (by exact hk)))⟩
        rcases hgo.own k hk with h | h
        · exact Q3.out k h
        · exact Nat.le_trans HD3.out.size h
      · skip
        go_simp
        refine hK _ _ ?_
        clear hK K
        try simp only [Act.put, List.setIfInBounds_toArray, List.set_cons_zero, List.set_cons_succ]
        refine wpAny_take (i := 8) (oi := { dst := some 41, op := Op.nilCheck (Operand.tmp 40), type := 0, pos := "free.go:63", after := #[{ on := 7, ground := Ground.data }], guard := none }) (v := ?v8x127) rfl (by kernel_rfl) (by kernel_rfl) (by kernel_rfl) (fun _ _ _ h => h) (Or.inl ⟨by rfl, ?hy8x127⟩) ?rest8x127
        case hy8x127 => (intro w; (first | (go_simp; with_reducible rfl) | go_simp))
        try simp only [Act.put, List.setIfInBounds_toArray, List.set_cons_zero, List.set_cons_succ]
        refine wpAny_take (i := 9) (oi := { dst := some 42, op := Op.fieldAddr 97 (Operand.tmp 41) 0, type := 0, pos := "free.go:63", after := #[{ on := 8, ground := Ground.data }], guard := none }) (v := ?v9x128) rfl (by kernel_rfl) (by kernel_rfl) (by kernel_rfl) (fun _ _ _ h => h) (Or.inl ⟨by rfl, ?hy9x128⟩) ?rest9x128
        case hy9x128 => (intro w; (first | (go_simp; with_reducible rfl) | go_simp))
        try simp only [Act.put, List.setIfInBounds_toArray, List.set_cons_zero, List.set_cons_succ]
        refine wpAny_ready (rs := [3, 10]) (by kernel_rfl) (by simp) ?_
        refine AllReady.cons (o := { dst := some 36, op := Op.load 73 (Operand.tmp 35), type := 73, pos := "free.go:63", after := #[{ on := 2, ground := Ground.data }], guard := none }) rfl (fun K hK => ?_) (AllReady.cons (o := { dst := some 43, op := Op.load 93 (Operand.tmp 42), type := 93, pos := "free.go:63", after := #[{ on := 9, ground := Ground.data }], guard := none }) rfl (fun K hK => ?_) AllReady.nil)
        · skip
          go_simp
          refine hK _ _ ?_
          clear hK K
          try simp only [Act.put, List.setIfInBounds_toArray, List.set_cons_zero, List.set_cons_succ]
          refine wpAny_ready (rs := [10]) (by kernel_rfl) (by simp) ?_
          refine AllReady.cons (o := { dst := some 43, op := Op.load 93 (Operand.tmp 42), type := 93, pos := "free.go:63", after := #[{ on := 9, ground := Ground.data }], guard := none }) rfl (fun K hK => ?_) AllReady.nil
          go_simp
          refine hK _ _ ?_
          clear hK K
          try simp only [Act.put, List.setIfInBounds_toArray, List.set_cons_zero, List.set_cons_succ]
          refine wpAny_ready (rs := [11]) (by kernel_rfl) (by simp) ?_
          refine AllReady.cons (o := { dst := some 44, op := Op.call { callee := Callee.value (Operand.func 34), args := #[Operand.tmp 43], argTypes := #[93] }, type := 93, pos := "free.go:63", after := #[{ on := 10, ground := Ground.data }], guard := none }) rfl (fun K hK => ?_) AllReady.nil
          go_simp
          refine (sclone_any vr A HL5.out.rd.row hla).mono ?_
          rintro e w6 ⟨v6, rfl, s1, s2, s3⟩
          obtain ⟨ya, yc, rfl⟩ := own_slice2 s1
          have m7 := HN5.out.newR s3 s1 s2 H1.out.hr
          have HM7 := hide m7.1
          have HG7 := hide m7.2
          have hM6 := HN5.out.below s3
          obtain ⟨-, -, -, b2'⟩ := hM6.c
          have z0 := hM6.rd.fz 0
          have z1 := hM6.rd.c0
          clear s1 s2 s3 m7 hM6 a2 a4 b2
          go_simp
          refine hK _ _ ?_
          clear hK K
          try simp only [Act.put, List.setIfInBounds_toArray, List.set_cons_zero, List.set_cons_succ]
          refine wpAny_take (i := 12) (oi := { dst := some 45, op := Op.nilCheck (Operand.tmp 36), type := 0, pos := "free.go:63", after := #[{ on := 3, ground := Ground.data }, { on := 0, ground := Ground.phase }, { on := 1, ground := Ground.phase }, { on := 2, ground := Ground.phase }, { on := 3, ground := Ground.phase }, { on := 4, ground := Ground.phase }, { on := 5, ground := Ground.phase }, { on := 6, ground := Ground.phase }, { on := 7, ground := Ground.phase }, { on := 8, ground := Ground.phase }, { on := 9, ground := Ground.phase }, { on := 10, ground := Ground.phase }, { on := 11, ground := Ground.phase }], guard := none }) (v := ?v12x129) rfl (by kernel_rfl) (by kernel_rfl) (by kernel_rfl) (fun _ _ _ h => h) (Or.inl ⟨by rfl, ?hy12x129⟩) ?rest12x129
          case hy12x129 => (intro w; (first | (go_simp; with_reducible rfl) | go_simp))
          try simp only [Act.put, List.setIfInBounds_toArray, List.set_cons_zero, List.set_cons_succ]
          refine wpAny_take (i := 13) (oi := { dst := some 46, op := Op.fieldAddr 97 (Operand.tmp 45) 0, type := 0, pos := "free.go:63", after := #[{ on := 12, ground := Ground.data }, { on := 0, ground := Ground.phase }, { on := 1, ground := Ground.phase }, { on := 2, ground := Ground.phase }, { on := 3, ground := Ground.phase }, { on := 4, ground := Ground.phase }, { on := 5, ground := Ground.phase }, { on := 6, ground := Ground.phase }, { on := 7, ground := Ground.phase }, { on := 8, ground := Ground.phase }, { on := 9, ground := Ground.phase }, { on := 10, ground := Ground.phase }, { on := 11, ground := Ground.phase }], guard := none }) (v := ?v13x130) rfl (by kernel_rfl) (by kernel_rfl) (by kernel_rfl) (fun _ _ _ h => h) (Or.inl ⟨by rfl, ?hy13x130⟩) ?rest13x130
          case hy13x130 => (intro w; (first | (go_simp; with_reducible rfl) | go_simp))
          try simp only [Act.put, List.setIfInBounds_toArray, List.set_cons_zero, List.set_cons_succ]
          refine wpAny_ready (rs := [14]) (by kernel_rfl) (by simp) ?_
          refine AllReady.cons (o := { dst := none, op := Op.store 93 (Operand.tmp 46) (Operand.tmp 44), type := 0, pos := "free.go:63", after := #[{ on := 13, ground := Ground.data }, { on := 11, ground := Ground.data }, { on := 11, ground := Ground.chain }, { on := 0, ground := Ground.phase }, { on := 1, ground := Ground.phase }, { on := 2, ground := Ground.phase }, { on := 3, ground := Ground.phase }, { on := 4, ground := Ground.phase }, { on := 5, ground := Ground.phase }, { on := 6, ground := Ground.phase }, { on := 7, ground := Ground.phase }, { on := 8, ground := Ground.phase }, { on := 9, ground := Ground.phase }, { on := 10, ground := Ground.phase }, { on := 11, ground := Ground.phase }], guard := none }) rfl (fun K hK => ?_) AllReady.nil
          go_simp
          refine hK _ _ ?_
          clear hK K
          try simp only [Act.put, List.setIfInBounds_toArray, List.set_cons_zero, List.set_cons_succ]
          refine wpAny_done (by kernel_rfl) ?_ _
          go_wp2
          go_ret
          have hgo := HG6.out.trans HG7.out
          refine ⟨l1, OwL l1 pw1 pr1 _ _, rfl, ⟨pw1, pr1, _, _, ms, R, A, B, HM7.out, H2.out, H3.out, fun k => Iff.rfl⟩, fun k hk => ?_, HD3.out.trans (hgo.mv.below HD3.out.size (fun k hk => Q3.out k (by exact hk)))⟩
          rcases hgo.own k hk with h | h
          · exact Q3.out k h
          · exact Nat.le_trans HD3.out.size h
        · skip
          go_simp
          refine hK _ _ ?_
          clear hK K
          try simp only [Act.put, List.setIfInBounds_toArray, List.set_cons_zero, List.set_cons_succ]
          refine wpAny_ready (rs := [3, 11]) (by kernel_rfl) (by simp) ?_
          refine AllReady.cons (o := { dst := some 36, op := Op.load 73 (Operand.tmp 35), type := 73, pos := "free.go:63", after := #[{ on := 2, ground := Ground.data }], guard := none }) rfl (fun K hK => ?_) (AllReady.cons (o := { dst := some 44, op := Op.call { callee := Callee.value (Operand.func 34), args := #[Operand.tmp 43], argTypes := #[93] }, type := 93, pos := "free.go:63", after := #[{ on := 10, ground := Ground.data }], guard := none }) rfl (fun K hK => ?_) AllReady.nil)
          · skip
            go_simp
            refine hK _ _ ?_
            clear hK K
            try simp only [Act.put, List.setIfInBounds_toArray, List.set_cons_zero, List.set_cons_succ]
            refine wpAny_ready (rs := [11]) (by kernel_rfl) (by simp) ?_
            refine AllReady.cons (o := { dst := some 44, op := Op.call { callee := Callee.value (Operand.func 34), args := #[Operand.tmp 43], argTypes := #[93] }, type := 93, pos := "free.go:63", after := #[{ on := 10, ground := Ground.data }], guard := none }) rfl (fun K hK => ?_) AllReady.nil
            go_simp
            refine (sclone_any vr A HL5.out.rd.row hla).mono ?_
            rintro e w6 ⟨v6, rfl, s1, s2, s3⟩
            obtain ⟨ya, yc, rfl⟩ := own_slice2 s1
            have m7 := HN5.out.newR s3 s1 s2 H1.out.hr
            have HM7 := hide m7.1
            have HG7 := hide m7.2
            have hM6 := HN5.out.below s3
            obtain ⟨-, -, -, b2'⟩ := hM6.c
            have z0 := hM6.rd.fz 0
            have z1 := hM6.rd.c0
            clear s1 s2 s3 m7 hM6 a2 a4 b2
            go_simp
            refine hK _ _ ?_
            clear hK K
            try simp only [Act.put, List.setIfInBounds_toArray, List.set_cons_zero, List.set_cons_succ]
            refine wpAny_take (i := 12) (oi := { dst := some 45, op := Op.nilCheck (Operand.tmp 36), type := 0, pos := "free.go:63", after := #[{ on := 3, ground := Ground.data }, { on := 0, ground := Ground.phase }, { on := 1, ground := Ground.phase }, { on := 2, ground := Ground.phase }, { on := 3, ground := Ground.phase }, { on := 4, ground := Ground.phase }, { on := 5, ground := Ground.phase }, { on := 6, ground := Ground.phase }, { on := 7, ground := Ground.phase }, { on := 8, ground := Ground.phase }, { on := 9, ground := Ground.phase }, { on := 10, ground := Ground.phase }, { on := 11, ground := Ground.phase }], guard := none }) (v := ?v12x131) rfl (by kernel_rfl) (by kernel_rfl) (by kernel_rfl) (fun _ _ _ h => h) (Or.inl ⟨by rfl, ?hy12x131⟩) ?rest12x131
            case hy12x131 => (intro w; (first | (go_simp; with_reducible rfl) | go_simp))
            try simp only [Act.put, List.setIfInBounds_toArray, List.set_cons_zero, List.set_cons_succ]
            refine wpAny_take (i := 13) (oi := { dst := some 46, op := Op.fieldAddr 97 (Operand.tmp 45) 0, type := 0, pos := "free.go:63", after := #[{ on := 12, ground := Ground.data }, { on := 0, ground := Ground.phase }, { on := 1, ground := Ground.phase }, { on := 2, ground := Ground.phase }, { on := 3, ground := Ground.phase }, { on := 4, ground := Ground.phase }, { on := 5, ground := Ground.phase }, { on := 6, ground := Ground.phase }, { on := 7, ground := Ground.phase }, { on := 8, ground := Ground.phase }, { on := 9, ground := Ground.phase }, { on := 10, ground := Ground.phase }, { on := 11, ground := Ground.phase }], guard := none }) (v := ?v13x132) rfl (by kernel_rfl) (by kernel_rfl) (by kernel_rfl) (fun _ _ _ h => h) (Or.inl ⟨by rfl, ?hy13x132⟩) ?rest13x132
            case hy13x132 => (intro w; (first | (go_simp; with_reducible rfl) | go_simp))
            try simp only [Act.put, List.setIfInBounds_toArray, List.set_cons_zero, List.set_cons_succ]
            refine wpAny_ready (rs := [14]) (by kernel_rfl) (by simp) ?_
            refine AllReady.cons (o := { dst := none, op := Op.store 93 (Operand.tmp 46) (Operand.tmp 44), type := 0, pos := "free.go:63", after := #[{ on := 13, ground := Ground.data }, { on := 11, ground := Ground.data }, { on := 11, ground := Ground.chain }, { on := 0, ground := Ground.phase }, { on := 1, ground := Ground.phase }, { on := 2, ground := Ground.phase }, { on := 3, ground := Ground.phase }, { on := 4, ground := Ground.phase }, { on := 5, ground := Ground.phase }, { on := 6, ground := Ground.phase }, { on := 7, ground := Ground.phase }, { on := 8, ground := Ground.phase }, { on := 9, ground := Ground.phase }, { on := 10, ground := Ground.phase }, { on := 11, ground := Ground.phase }], guard := none }) rfl (fun K hK => ?_) AllReady.nil
            go_simp
            refine hK _ _ ?_
            clear hK K
            try simp only [Act.put, List.setIfInBounds_toArray, List.set_cons_zero, List.set_cons_succ]
            refine wpAny_done (by kernel_rfl) ?_ _
            go_wp2
            go_ret
            have hgo := HG6.out.trans HG7.out
            refine ⟨l1, OwL l1 pw1 pr1 _ _, rfl, ⟨pw1, pr1, _, _, ms, R, A, B, HM7.out, H2.out, H3.out, fun k => Iff.rfl⟩, fun k hk => ?_, HD3.out.trans (hgo.mv.below HD3.out.size (fun k hk => Q3.out k (by exact hk)))⟩
            rcases hgo.own k hk with h | h
            · exact Q3.out k h
            · exact Nat.le_trans HD3.out.size h
          · skip
            go_simp
            refine (sclone_any vr A HL5.out.rd.row hla).mono ?_
            rintro e w6 ⟨v6, rfl, s1, s2, s3⟩
            obtain ⟨ya, yc, rfl⟩ := own_slice2 s1
            have m7 := HN5.out.newR s3 s1 s2 H1.out.hr
            have HM7 := hide m7.1
            have HG7 := hide m7.2
            have hM6 := HN5.out.below s3
            obtain ⟨-, -, -, b2'⟩ := hM6.c
            have z0 := hM6.rd.fz 0
            have z1 := hM6.rd.c0
            clear s1 s2 s3 m7 hM6 a2 a4 b2
            go_simp
            refine hK _ _ ?_
            clear hK K
            try simp only [Act.put, List.setIfInBounds_toArray, List.set_cons_zero, List.set_cons_succ]
            refine wpAny_ready (rs := [3]) (by kernel_rfl) (by simp) ?_
            refine AllReady.cons (o := { dst := some 36, op := Op.load 73 (Operand.tmp 35), type := 73, pos := "free.go:63", after := #[{ on := 2, ground := Ground.data }], guard := none }) rfl (fun K hK => ?_) AllReady.nil
            go_simp
            refine hK _ _ ?_
            clear hK K
            try simp only [Act.put, List.setIfInBounds_toArray, List.set_cons_zero, List.set_cons_succ]
            refine wpAny_take (i := 12) (oi := { dst := some 45, op := Op.nilCheck (Operand.tmp 36), type := 0, pos := "free.go:63", after := #[{ on := 3, ground := Ground.data }, { on := 0, ground := Ground.phase }, { on := 1, ground := Ground.phase }, { on := 2, ground := Ground.phase }, { on := 3, ground := Ground.phase }, { on := 4, ground := Ground.phase }, { on := 5, ground := Ground.phase }, { on := 6, ground := Ground.phase }, { on := 7, ground := Ground.phase }, { on := 8, ground := Ground.phase }, { on := 9, ground := Ground.phase }, { on := 10, ground := Ground.phase }, { on := 11, ground := Ground.phase }], guard := none }) (v := ?v12x133) rfl (by kernel_rfl) (by kernel_rfl) (by kernel_rfl) (fun _ _ _ h => h) (Or.inl ⟨by rfl, ?hy12x133⟩) ?rest12x133
            case hy12x133 => (intro w; (first | (go_simp; with_reducible rfl) | go_simp))
            try simp only [Act.put, List.setIfInBounds_toArray, List.set_cons_zero, List.set_cons_succ]
            refine wpAny_take (i := 13) (oi := { dst := some 46, op := Op.fieldAddr 97 (Operand.tmp 45) 0, type := 0, pos := "free.go:63", after := #[{ on := 12, ground := Ground.data }, { on := 0, ground := Ground.phase }, { on := 1, ground := Ground.phase }, { on := 2, ground := Ground.phase }, { on := 3, ground := Ground.phase }, { on := 4, ground := Ground.phase }, { on := 5, ground := Ground.phase }, { on := 6, ground := Ground.phase }, { on := 7, ground := Ground.phase }, { on := 8, ground := Ground.phase }, { on := 9, ground := Ground.phase }, { on := 10, ground := Ground.phase }, { on := 11, ground := Ground.phase }], guard := none }) (v := ?v13x134) rfl (by kernel_rfl) (by kernel_rfl) (by kernel_rfl) (fun _ _ _ h => h) (Or.inl ⟨by rfl, ?hy13x134⟩) ?rest13x134
            case hy13x134 => (intro w; (first | (go_simp; with_reducible rfl) | go_simp))
            try simp only [Act.put, List.setIfInBounds_toArray, List.set_cons_zero, List.set_cons_succ]
            refine wpAny_ready (rs := [14]) (by kernel_rfl) (by simp) ?_
            refine AllReady.cons (o := { dst := none, op := Op.store 93 (Operand.tmp 46) (Operand.tmp 44), type := 0, pos := "free.go:63", after := #[{ on := 13, ground := Ground.data }, { on := 11, ground := Ground.data }, { on := 11, ground := Ground.chain }, { on := 0, ground := Ground.phase }, { on := 1, ground := Ground.phase }, { on := 2, ground := Ground.phase }, { on := 3, ground := Ground.phase }, { on := 4, ground := Ground.phase }, { on := 5, ground := Ground.phase }, { on := 6, ground := Ground.phase }, { on := 7, ground := Ground.phase }, { on := 8, ground := Ground.phase }, { on := 9, ground := Ground.phase }, { on := 10, ground := Ground.phase }, { on := 11, ground := Ground.phase }], guard := none }) rfl (fun K hK => ?_) AllReady.nil
            go_simp
            refine hK _ _ ?_
            clear hK K
            try simp only [Act.put, List.setIfInBounds_toArray, List.set_cons_zero, List.set_cons_succ]
            refine wpAny_done (by kernel_rfl) ?_ _
            go_wp2
            go_ret
            have hgo := HG6.out.trans HG7.out
            refine ⟨l1, OwL l1 pw1 pr1 _ _, rfl, ⟨pw1, pr1, _, _, ms, R, A, B, HM7.out, H2.out, H3.out, fun k => Iff.rfl⟩, fun k hk => ?_, HD3.out.trans (hgo.mv.below HD3.out.size (fun k hk => Q3.out k (by exact hk)))⟩
            rcases hgo.own k hk with h | h
            · exact Q3.out k h
            · exact Nat.le_trans HD3.out.size h
    · skip
      go_simp
      refine hK _ _ ?_
      clear hK K
      try simp only [Act.put, List.setIfInBounds_toArray, List.set_cons_zero, List.set_cons_succ]
      refine wpAny_take (i := 8) (oi := { dst := some 27, op := Op.nilCheck (Operand.tmp 26), type := 0, pos := "free.go:62", after := #[{ on := 7, ground := Ground.data }], guard := none }) (v := ?v8x135) rfl (by kernel_rfl) (by kernel_rfl) (by kernel_rfl) (fun _ _ _ h => h) (Or.inl ⟨by rfl, ?hy8x135⟩) ?rest8x135
      case hy8x135 => (intro w; (first | (go_simp; with_reducible rfl) | go_simp))
      try simp only [Act.put, List.setIfInBounds_toArray, List.set_cons_zero, List.set_cons_succ]
      refine wpAny_take (i := 9) (oi := { dst := some 28, op := Op.fieldAddr 97 (Operand.tmp 27) 0, type := 0, pos := "free.go:62", after := #[{ on := 8, ground := Ground.data }], guard := none }) (v := ?v9x136) rfl (by kernel_rfl) (by kernel_rfl) (by kernel_rfl) (fun _ _ _ h => h) (Or.inl ⟨by rfl, ?hy9x136⟩) ?rest9x136
      case hy9x136 => (intro w; (first | (go_simp; with_reducible rfl) | go_simp))
      try simp only [Act.put, List.setIfInBounds_toArray, List.set_cons_zero, List.set_cons_succ]
      refine wpAny_ready (rs := [3, 10]) (by kernel_rfl) (by simp) ?_
      refine AllReady.cons (o := { dst := some 22, op := Op.load 73 (Operand.tmp 21), type := 73, pos := "free.go:62", after := #[{ on := 2, ground := Ground.data }], guard := none }) rfl (fun K hK => ?_) (AllReady.cons (o := { dst := some 29, op := Op.load 93 (Operand.tmp 28), type := 93, pos := "free.go:62", after := #[{ on := 9, ground := Ground.data }], guard := none }) rfl (fun K hK => ?_) AllReady.nil)
      · skip
        go_simp
        refine hK _ _ ?_
        clear hK K
        try simp only [Act.put, List.setIfInBounds_toArray, List.set_cons_zero, List.set_cons_succ]
        refine wpAny_ready (rs := [10]) (by kernel_rfl) (by simp) ?_
        refine AllReady.cons (o := { dst := some 29, op := Op.load 93 (Operand.tmp 28), type := 93, pos := "free.go:62", after := #[{ on := 9, ground := Ground.data }], guard := none }) rfl (fun K hK => ?_) AllReady.nil
        go_simp
        refine hK _ _ ?_
        clear hK K
        try simp only [Act.put, List.setIfInBounds_toArray, List.set_cons_zero, List.set_cons_succ]
        refine wpAny_ready (rs := [11]) (by kernel_rfl) (by simp) ?_
        refine AllReady.cons (o := { dst := some 30, op := Op.call { callee := Callee.value (Operand.func 34), args := #[Operand.tmp 29], argTypes := #[93] }, type := 93, pos := "free.go:62", after := #[{ on := 10, ground := Ground.data }], guard := none }) rfl (fun K hK => ?_) AllReady.nil
        go_simp
        refine (sclone_any vw B HL3.out.wt.row hlb).mono ?_
        rintro e w4 ⟨v4, rfl, s1, s2, s3⟩
        obtain ⟨xa, xc, rfl⟩ := own_slice2 s1
        have m5 := HN3.out.newW s3 s1 s2 H1.out.hw
        have HM5 := hide m5.1
        have HG5 := hide m5.2
        have hM4 := HN3.out.below s3
        obtain ⟨-, -, b2', -⟩ := hM4.c
        have z0 := hM4.wt.fz 0
        have z1 := hM4.wt.c0
        clear s1 s2 s3 m5 hM4 a2 a4 b2
        go_simp
        refine hK _ _ ?_
        clear hK K
        try simp only [Act.put, List.setIfInBounds_toArray, List.set_cons_zero, List.set_cons_succ]
        refine wpAny_take (i := 12) (oi := { dst := some 31, op := Op.nilCheck (Operand.tmp 22), type := 0, pos := "free.go:62", after := #[{ on := 3, ground := Ground.data }, { on := 0, ground := Ground.phase }, { on := 1, ground := Ground.phase }, { on := 2, ground := Ground.phase }, { on := 3, ground := Ground.phase }, { on := 4, ground := Ground.phase }, { on := 5, ground := Ground.phase }, { on := 6, ground := Ground.phase }, { on := 7, ground := Ground.phase }, { on := 8, ground := Ground.phase }, { on := 9, ground := Ground.phase }, { on := 10, ground := Ground.phase }, { on := 11, ground := Ground.phase }], guard := none }) (v := ?v12x137) rfl (by kernel_rfl) (by kernel_rfl) (by kernel_rfl) (fun _ _ _ h => h) (Or.inl ⟨by rfl, ?hy12x137⟩) ?rest12x137
        case hy12x137 => (intro w; (first | (go_simp; with_reducible rfl) | go_simp))
        try simp only [Act.put, List.setIfInBounds_toArray, List.set_cons_zero, List.set_cons_succ]
        refine wpAny_take (i := 13) (oi := { dst := some 32, op := Op.fieldAddr 97 (Operand.tmp 31) 0, type := 0, pos := "free.go:62", after := #[{ on := 12, ground := Ground.data }, { on := 0, ground := Ground.phase }, { on := 1, ground := Ground.phase }, { on := 2, ground := Ground.phase }, { on := 3, ground := Ground.phase }, { on := 4, ground := Ground.phase }, { on := 5, ground := Ground.phase }, { on := 6, ground := Ground.phase }, { on := 7, ground := Ground.phase }, { on := 8, ground := Ground.phase }, { on := 9, ground := Ground.phase }, { on := 10, ground := Ground.phase }, { on := 11, ground := Ground.phase }], guard := none }) (v := ?v13x138) rfl (by kernel_rfl) (by kernel_rfl) (by kernel_rfl) (fun _ _ _ h => h) (Or.inl ⟨by rfl, ?hy13x138⟩) ?rest13x138
        case hy13x138 => (intro w; (first | (go_simp; with_reducible rfl) | go_simp))
        try simp only [Act.put, List.setIfInBounds_toArray, List.set_cons_zero, List.set_cons_succ]
        refine wpAny_ready (rs := [14]) (by kernel_rfl) (by simp) ?_
        refine AllReady.cons (o := { dst := none, op := Op.store 93 (Operand.tmp 32) (Operand.tmp 30), type := 0, pos := "free.go:62", after := #[{ on := 13, ground := Ground.data }, { on := 11, ground := Ground.data }, { on := 11, ground := Ground.chain }, { on := 0, ground := Ground.phase }, { on := 1, ground := Ground.phase }, { on := 2, ground := Ground.phase }, { on := 3, ground := Ground.phase }, { on := 4, ground := Ground.phase }, { on := 5, ground := Ground.phase }, { on := 6, ground := Ground.phase }, { on := 7, ground := Ground.phase }, { on := 8, ground := Ground.phase }, { on := 9, ground := Ground.phase }, { on := 10, ground := Ground.phase }, { on := 11, ground := Ground.phase }], guard := none }) rfl (fun K hK => ?_) AllReady.nil
        go_simp
        refine hK _ _ ?_
        clear hK K
        try simp only [Act.put, List.setIfInBounds_toArray, List.set_cons_zero, List.set_cons_succ]
        refine wpAny_done (by kernel_rfl) ?_ _
        have hB5 := HD3.out.trans (HG5.out.mv.below HD3.out.size (fun k hk => Q3.out k (by exact hk)))
        have HB5 := hide hB5
        clear hB5 z0 z1 b2'
        generalize w4.setCell _ _ = W5 at *
        have HD5 : Hid (Below w.heap.size w W5.drew) := hide ⟨HB5.out.os, HB5.out.tape, HB5.out.output, HB5.out.size, HB5.out.block⟩
        have HL5 := hide (H1.out.below HD5.out)
        have HN5 : Hid (Lm W5.drew l1 pw1 pr1 (.slice xa B.length xc) vr1 ms R A1 B) := hide (HM5.out.stays (fun _ _ => rfl))
        have HG6 : Hid (Go1 (OwL l1 pw1 pr1 vw1 vr1) W3.drew (OwL l1 pw1 pr1 (.slice xa B.length xc) vr1) W5.drew) := hide HG5.out.drew
        obtain ⟨-, -, -, a2⟩ := HL5.out.c
        have a4 := HL5.out.rd.c0
        obtain ⟨-, -, -, b2⟩ := HN5.out.c
        go_wp2
        refine wp_region_any (by kernel_rfl) ?_
        change wpAny _ _ _ _ _ _ _ (World.drew _)
        refine wpAny_take (i := 0) (oi := { dst := some 33, op := Op.move (Operand.tmp 3), type := 23, pos := "free.go:63", after := #[], guard := none }) (v := ?v0x139) rfl (by kernel_rfl) (by kernel_rfl) (by kernel_rfl) (fun _ _ _ h => h) (Or.inl ⟨by rfl, ?hy0x139⟩) ?rest0x139
        case hy0x139 => (intro w; (first | (go_simp; with_reducible rfl) | go_simp))
        try simp only [Act.put, List.setIfInBounds_toArray, List.set_cons_zero, List.set_cons_succ]
        refine wpAny_take (i := 1) (oi := { dst := some 34, op := Op.nilCheck (Operand.tmp 33), type := 0, pos := "free.go:63", after := #[{ on := 0, ground := Ground.data }], guard := none }) (v := ?v1x140) rfl (by kernel_rfl) (by kernel_rfl) (by kernel_rfl) (fun _ _ _ h => h) (Or.inl ⟨by rfl, ?hy1x140⟩) ?rest1x140
        case hy1x140 => (intro w; (first | (go_simp; with_reducible rfl) | go_simp))
        try simp only [Act.put, List.setIfInBounds_toArray, List.set_cons_zero, List.set_cons_succ]
        refine wpAny_take (i := 2) (oi := { dst := some 35, op := Op.fieldAddr 78 (Operand.tmp 34) 3, type := 0, pos := "free.go:63", after := #[{ on := 1, ground := Ground.data }], guard := none }) (v := ?v2x141) rfl (by kernel_rfl) (by kernel_rfl) (by kernel_rfl) (fun _ _ _ h => h) (Or.inl ⟨by rfl, ?hy2x141⟩) ?rest2x141
        case hy2x141 => (intro w; (first | (go_simp; with_reducible rfl) | go_simp))
        try simp only [Act.put, List.setIfInBounds_toArray, List.set_cons_zero, List.set_cons_succ]
        refine wpAny_take (i := 4) (oi := { dst := some 37, op := Op.move (Operand.tmp 0), type := 23, pos := "free.go:63", after := #[], guard := none }) (v := ?v4x142) rfl (by kernel_rfl) (by kernel_rfl) (by kernel_rfl) (fun _ _ _ h => h) (Or.inl ⟨by rfl, ?hy4x142⟩) ?rest4x142
        case hy4x142 => (intro w; (first | (go_simp; with_reducible rfl) | go_simp))
        try simp only [Act.put, List.setIfInBounds_toArray, List.set_cons_zero, List.set_cons_succ]
        refine wpAny_take (i := 5) (oi := { dst := some 38, op := Op.nilCheck (Operand.tmp 37), type := 0, pos := "free.go:63", after := #[{ on := 4, ground := Ground.data }], guard := none }) (v := ?v5x143) rfl (by kernel_rfl) (by kernel_rfl) (by kernel_rfl) (fun _ _ _ h => h) (Or.inl ⟨by rfl, ?hy5x143⟩) ?rest5x143
        case hy5x143 => (intro w; (first | (go_simp; with_reducible rfl) | go_simp))
        try simp only [Act.put, List.setIfInBounds_toArray, List.set_cons_zero, List.set_cons_succ]
        refine wpAny_take (i := 6) (oi := { dst := some 39, op := Op.fieldAddr 78 (Operand.tmp 38) 3, type := 0, pos := "free.go:63", after := #[{ on := 5, ground := Ground.data }], guard := none }) (v := ?v6x144) rfl (by kernel_rfl) (by kernel_rfl) (by kernel_rfl) (fun _ _ _ h => h) (Or.inl ⟨by rfl, ?hy6x144⟩) ?rest6x144
        case hy6x144 => (intro w; (first | (go_simp; with_reducible rfl) | go_simp))
        try simp only [Act.put, List.setIfInBounds_toArray, List.set_cons_zero, List.set_cons_succ]
        refine wpAny_ready (rs := [3, 7]) (by kernel_rfl) (by simp) ?_
        refine AllReady.cons (o := { dst := some 36, op := Op.load 73 (Operand.tmp 35), type := 73, pos := "free.go:63", after := #[{ on := 2, ground := Ground.data }], guard := none }) rfl (fun K hK => ?_) (AllReady.cons (o := { dst := some 40, op := Op.load 73 (Operand.tmp 39), type := 73, pos := "free.go:63", after := #[{ on := 6, ground := Ground.data }], guard := none }) rfl (fun K hK => ?_) AllReady.nil)
        · skip
          go_simp
          refine hK _ _ ?_
          clear hK K
          try simp only [Act.put, List.setIfInBounds_toArray, List.set_cons_zero, List.set_cons_succ]
          refine wpAny_ready (rs := [7]) (by kernel_rfl) (by simp) ?_
          refine AllReady.cons (o := { dst := some 40, op := Op.load 73 (Operand.tmp 39), type := 73, pos := "free.go:63", after := #[{ on := 6, ground := Ground.data }], guard := none }) rfl (fun K hK => ?_) AllReady.nil
          go_simp
          refine hK _ _ ?_
          clear hK K
          try simp only [Act.put, List.setIfInBounds_toArray, List.set_cons_zero, List.set_cons_succ]
          refine wpAny_take (i := 8) (oi := { dst := some 41, op := Op.nilCheck (Operand.tmp 40), type := 0, pos := "free.go:63", after := #[{ on := 7, ground := Ground.data }], guard := none }) (v := ?v8x145) rfl (by kernel_rfl) (by kernel_rfl) (by kernel_rfl) (fun _ _ _ h => h) (Or.inl ⟨by rfl, ?hy8x145⟩) ?rest8x145
          case hy8x145 => (intro w; (first | (go_simp; with_reducible rfl) | go_simp))
          try simp only [Act.put, List.setIfInBounds_toArray, List.set_cons_zero, List.set_cons_succ]
          refine wpAny_take (i := 9) (oi := { dst := some 42, op := Op.fieldAddr 97 (Operand.tmp 41) 0, type := 0, pos := "free.go:63", after := #[{ on := 8, ground := Ground.data }], guard := none }) (v := ?v9x146) rfl (by kernel_rfl) (by kernel_rfl) (by kernel_rfl) (fun _ _ _ h => h) (Or.inl ⟨by rfl, ?hy9x146⟩) ?rest9x146
          case hy9x146 => (intro w; (first | (go_simp; with_reducible rfl) | go_simp))
          try simp only [Act.put, List.setIfInBounds_toArray, List.set_cons_zero, List.set_cons_succ]
          refine wpAny_ready (rs := [10]) (by kernel_rfl) (by simp) ?_
          refine AllReady.cons (o := { dst := some 43, op := Op.load 93 (Operand.tmp 42), type := 93, pos := "free.go:63", after := #[{ on := 9, ground := Ground.data }], guard := none }) rfl (fun K hK => ?_) AllReady.nil
          go_simp
          refine hK _ _ ?_
          clear hK K
          try simp only [Act.put, List.setIfInBounds_toArray, List.set_cons_zero, List.set_cons_succ]
          refine wpAny_ready (rs := [11]) (by kernel_rfl) (by simp) ?_
          refine AllReady.cons (o := { dst := some 44, op := Op.call { callee := Callee.value (Operand.func 34), args := #[Operand.tmp 43], argTypes := #[93] }, type := 93, pos := "free.go:63", after := #[{ on := 10, ground := Ground.data }], guard := none }) rfl (fun K hK => ?_) AllReady.nil
          go_simp
          refine (sclone_any vr A HL5.out.rd.row hla).mono ?_
          rintro e w6 ⟨v6, rfl, s1, s2, s3⟩
          obtain ⟨ya, yc, rfl⟩ := own_slice2 s1
          have m7 := HN5.out.newR s3 s1 s2 H1.out.hr
          have HM7 := hide m7.1
          have HG7 := hide m7.2
          have hM6 := HN5.out.below s3
          obtain ⟨-, -, -, b2'⟩ := hM6.c
          have z0 := hM6.rd.fz 0
          have z1 := hM6.rd.c0
          clear s1 s2 s3 m7 hM6 a2 a4 b2
          go_simp
          refine hK _ _ ?_
          clear hK K
          try simp only [Act.put, List.setIfInBounds_toArray, List.set_cons_zero, List.set_cons_succ]
          refine wpAny_take (i := 12) (oi := { dst := some 45, op := Op.nilCheck (Operand.tmp 36), type := 0, pos := "free.go:63", after := #[{ on := 3, ground := Ground.data }, { on := 0, ground := Ground.phase }, { on := 1, ground := Ground.phase }, { on := 2, ground := Ground.phase }, { on := 3, ground := Ground.phase }, { on := 4, ground := Ground.phase }, { on := 5, ground := Ground.phase }, { on := 6, ground := Ground.phase }, { on := 7, ground := Ground.phase }, { on := 8, ground := Ground.phase }, { on := 9, ground := Ground.phase }, { on := 10, ground := Ground.phase }, { on := 11, ground := Ground.phase }], guard := none }) (v := ?v12x147) rfl (by kernel_rfl) (by kernel_rfl) (by kernel_rfl) (fun _ _ _ h => h) (Or.inl ⟨by rfl, ?hy12x147⟩) ?rest12x147
          case hy12x147 => (intro w; (first | (go_simp; with_reducible rfl) | go_simp))
          try simp only [Act.put, List.setIfInBounds_toArray, List.set_cons_zero, List.set_cons_succ]
          refine wpAny_take (i := 13) (oi := { dst := some 46, op := Op.fieldAddr 97 (Operand.tmp 45) 0, type := 0, pos := "free.go:63", after := #[{ on := 12, ground := Ground.data }, { on := 0, ground := Ground.phase }, { on := 1, ground := Ground.phase }, { on := 2, ground := Ground.phase }, { on := 3, ground := Ground.phase }, { on := 4, ground := Ground.phase }, { on := 5, ground := Ground.phase }, { on := 6, ground := Ground.phase }, { on := 7, ground := Ground.phase }, { on := 8, ground := Ground.phase }, { on := 9, ground := Ground.phase }, { on := 10, ground := Ground.phase }, { on := 11, ground := Ground.phase }], guard := none }) (v := ?v13x148) rfl (by kernel_rfl) (by kernel_rfl) (by kernel_rfl) (fun _ _ _ h => h) (Or.inl ⟨by rfl, ?hy13x148⟩) ?rest13x148
          case hy13x148 => (intro w; (first | (go_simp; with_reducible rfl) | go_simp))
          try simp only [Act.put, List.setIfInBounds_toArray, List.set_cons_zero, List.set_cons_succ]
          refine wpAny_ready (rs := [14]) (by kernel_rfl) (by simp) ?_
          refine AllReady.cons (o := { dst := none, op := Op.store 93 (Operand.tmp 46) (Operand.tmp 44), type := 0, pos := "free.go:63", after := #[{ on := 13, ground := Ground.data }, { on := 11, ground := Ground.data }, { on := 11, ground := Ground.chain }, { on := 0, ground := Ground.phase }, { on := 1, ground := Ground.phase }, { on := 2, ground := Ground.phase }, { on := 3, ground := Ground.phase }, { on := 4, ground := Ground.phase }, { on := 5, ground := Ground.phase }, { on := 6, ground := Ground.phase }, { on := 7, ground := Ground.phase }, { on := 8, ground := Ground.phase }, { on := 9, ground := Ground.phase }, { on := 10, ground := Ground.phase }, { on := 11, ground := Ground.phase }], guard := none }) rfl (fun K hK => ?_) AllReady.nil
          go_simp
          refine hK _ _ ?_
          clear hK K
          try simp only [Act.put, List.setIfInBounds_toArray, List.set_cons_zero, List.set_cons_succ]
          refine wpAny_done (by kernel_rfl) ?_ _
          go_wp2
          go_ret
          have hgo := HG6.out.trans HG7.out
          refine ⟨l1, OwL l1 pw1 pr1 _ _, rfl, ⟨pw1, pr1, _, _, ms, R, A, B, HM7.out, H2.out, H3.out, fun k => Iff.rfl⟩, fun k hk => ?_, HD3.out.trans (hgo.mv.below HD3.out.size (fun k hk => Q3.out k (by exact hk)))⟩
          rcases hgo.own k hk with h | h
          · exact Q3.out k h
          · exact Nat.le_trans HD3.out.size h
        · skip
          go_simp
          refine hK _ _ ?_
          clear hK K
          try simp only [Act.put, List.setIfInBounds_toArray, List.set_cons_zero, List.set_cons_succ]
          refine wpAny_take (i := 8) (oi := { dst := some 41, op := Op.nilCheck (Operand.tmp 40), type := 0, pos := "free.go:63", after := #[{ on := 7, ground := Ground.data }], guard := none }) (v := ?v8x149) rfl (by kernel_rfl) (by kernel_rfl) (by kernel_rfl) (fun _ _ _ h => h) (Or.inl ⟨by rfl, ?hy8x149⟩) ?rest8x149
          case hy8x149 => (intro w; (first | (go_simp; with_reducible rfl) | go_simp))
          try simp only [Act.put, List.setIfInBounds_toArray, List.set_cons_zero, List.set_cons_succ]
          refine wpAny_take (i := 9) (oi := { dst := some 42, op := Op.fieldAddr 97 (Operand.tmp 41) 0, type := 0, pos := "free.go:63", after := #[{ on := 8, ground := Ground.data }], guard := none }) (v := ?v9x150) rfl (by kernel_rfl) (by kernel_rfl) (by kernel_rfl) (fun _ _ _ h => h) (Or.inl ⟨by rfl, ?hy9x150⟩) ?rest9x150
          case hy9x150 => (intro w; (first | (go_simp; with_reducible rfl) | go_simp))
          try simp only [Act.put, List.setIfInBounds_toArray, List.set_cons_zero, List.set_cons_succ]
          refine wpAny_ready (rs := [3, 10]) (by kernel_rfl) (by simp) ?_
          refine AllReady.cons (o := { dst := some 36, op := Op.load 73 (Operand.tmp 35), type := 73, pos := "free.go:63", after := #[{ on := 2, ground := Ground.data }], guard := none }) rfl (fun K hK => ?_) (AllReady.cons (o := { dst := some 43, op := Op.load 93 (Operand.tmp 42), type := 93, pos := "free.go:63", after := #[{ on := 9, ground := Ground.data }], guard := none }) rfl (fun K hK => ?_) AllReady.nil)
          · skip
            go_simp
            refine hK _ _ ?_
            clear hK K
            try simp only [Act.put, List.setIfInBounds_toArray, List.set_cons_zero, List.set_cons_succ]
            refine wpAny_ready (rs := [10]) (by kernel_rfl) (by simp) ?_
            refine AllReady.cons (o := { dst := some 43, op := Op.load 93 (Operand.tmp 42), type := 93, pos := "free.go:63", after := #[{ on := 9, ground := Ground.data }], guard := none }) rfl (fun K hK => ?_) AllReady.nil
            go_simp
            refine hK _ _ ?_
            clear hK K
            try simp only [Act.put, List.setIfInBounds_toArray, List.set_cons_zero, List.set_cons_succ]
            refine wpAny_ready (rs := [11]) (by kernel_rfl) (by simp) ?_
            refine AllReady.cons (o := { dst := some 44, op := Op.call { callee := Callee.value (Operand.func 34), args := #[Operand.tmp 43], argTypes := #[93] }, type := 93, pos := "free.go:63", after := #[{ on := 10, ground := Ground.data }], guard := none }) rfl (fun K hK => ?_) AllReady.nil
            go_simp
            refine (sclone_any vr A HL5.out.rd.row hla).mono ?_
            rintro e w6 ⟨v6, rfl, s1, s2, s3⟩
            obtain ⟨ya, yc, rfl⟩ := own_slice2 s1
            have m7 := HN5.out.newR s3 s1 s2 H1.out.hr
            have HM7 := hide m7.1
            have HG7 := hide m7.2
            have hM6 := HN5.out.below s3
            obtain ⟨-, -, -, b2'⟩ := hM6.c
            have z0 := hM6.rd.fz 0
            have z1 := hM6.rd.c0
            clear s1 s2 s3 m7 hM6 a2 a4 b2
            go_simp
            refine hK _ _ ?_
            clear hK K
            try simp only [Act.put, List.setIfInBounds_toArray, List.set_cons_zero, List.set_cons_succ]
            refine wpAny_take (i := 12) (oi := { dst := some 45, op := Op.nilCheck (Operand.tmp 36), type := 0, pos := "free.go:63", after := #[{ on := 3, ground := Ground.data }, { on := 0, ground := Ground.phase }, { on := 1, ground := Ground.phase }, { on := 2, ground := Ground.phase }, { on := 3, ground := Ground.phase }, { on := 4, ground := Ground.phase }, { on := 5, ground := Ground.phase }, { on := 6, ground := Ground.phase }, { on := 7, ground := Ground.phase }, { on := 8, ground := Ground.phase }, { on := 9, ground := Ground.phase }, { on := 10, ground := Ground.phase }, { on := 11, ground := Ground.phase }], guard := none }) (v := ?v12x151) rfl (by kernel_rfl) (by kernel_rfl) (by kernel_rfl) (fun _ _ _ h => h) (Or.inl ⟨by rfl, ?hy12x151⟩) ?rest12x151
            case hy12x151 => (intro w; (first | (go_simp; with_reducible rfl) | go_simp))
            try simp only [Act.put, List.setIfInBounds_toArray, List.set_cons_zero, List.set_cons_succ]
            refine wpAny_take (i := 13) (oi := { dst := some 46, op := Op.fieldAddr 97 (Operand.tmp 45) 0, type := 0, pos := "free.go:63", after := #[{ on := 12, ground := Ground.data }, { on := 0, ground := Ground.phase }, { on := 1, ground := Ground.phase }, { on := 2, ground := Ground.phase }, { on := 3, ground := Ground.phase }, { on := 4, ground := Ground.phase }, { on := 5, ground := Ground.phase }, { on := 6, ground := Ground.phase }, { on := 7, ground := Ground.phase }, { on := 8, ground := Ground.phase }, { on := 9, ground := Ground.phase }, { on := 10, ground := Ground.phase }, { on := 11, ground := Ground.phase }], guard := none }) (v := ?v13x152) rfl (by kernel_rfl) (by kernel_rfl) (by kernel_rfl) (fun _ _ _ h => h) (Or.inl ⟨by rfl, ?hy13x152⟩) ?rest13x152
            case hy13x152 => (intro w; (first | (go_simp; with_reducible rfl) | go_simp))
            try simp only [Act.put, List.setIfInBounds_toArray, List.set_cons_zero, List.set_cons_succ]
            refine wpAny_ready (rs := [14]) (by kernel_rfl) (by simp) ?_
            refine AllReady.cons (o := { dst := none, op := Op.store 93 (Operand.tmp 46) (Operand.tmp 44), type := 0, pos := "free.go:63", after := #[{ on := 13, ground := Ground.data }, { on := 11, ground := Ground.data }, { on := 11, ground := Ground.chain }, { on := 0, ground := Ground.phase }, { on := 1, ground := Ground.phase }, { on := 2, ground := Ground.phase }, { on := 3, ground := Ground.phase }, { on := 4, ground := Ground.phase }, { on := 5, ground := Ground.phase }, { on := 6, ground := Ground.phase }, { on := 7, ground := Ground.phase }, { on := 8, ground := Ground.phase }, { on := 9, ground := Ground.phase }, { on := 10, ground := Ground.phase }, { on := 11, ground := Ground.phase }], guard := none }) rfl (fun K hK => ?_) AllReady.nil
            go_simp
            refine hK _ _ ?_
            clear hK K
            try simp only [Act.put, List.setIfInBounds_toArray, List.set_cons_zero, List.set_cons_succ]
            refine wpAny_done (by kernel_rfl) ?_ _
            go_wp2
            go_ret
            have hgo := HG6.out.trans HG7.out
            refine ⟨l1, OwL l1 pw1 pr1 _ _, rfl, ⟨pw1, pr1, _, _, ms, R, A, B, HM7.out, H2.out, H3.out, fun k => Iff.rfl⟩, fun k hk => ?_, HD3.out.trans (hgo.mv.below HD3.out.size (fun k hk => Q3.out k (by exact hk)))⟩
            rcases hgo.own k hk with h | h
            · exact Q3.out k h
            · exact Nat.le_trans HD3.out.size h
          · skip
            go_simp
            refine hK _ _ ?_
            clear hK K
            try simp only [Act.put, List.setIfInBounds_toArray, List.set_cons_zero, List.set_cons_succ]
            refine wpAny_ready (rs := [3, 11]) (by kernel_rfl) (by simp) ?_
            refine AllReady.cons (o := { dst := some 36, op := Op.load 73 (Operand.tmp 35), type := 73, pos := "free.go:63", after := #[{ on := 2, ground := Ground.data }], guard := none }) rfl (fun K hK => ?_) (AllReady.cons (o := { dst := some 44, op := Op.call { callee := Callee.value (Operand.func 34), args := #[Operand.tmp 43], argTypes := #[93] }, type := 93, pos := "free.go:63", after := #[{ on := 10, ground := Ground.data }], guard := none }) rfl (fun K hK => ?_) AllReady.nil)
            · skip
              go_simp
              refine hK _ _ ?_
              clear hK K
              try simp only [Act.put, List.setIfInBounds_toArray, List.set_cons_zero, List.set_cons_succ]
              refine wpAny_ready (rs := [11]) (by kernel_rfl) (by simp) ?_
              refine AllReady.cons (o := { dst := some 44, op := Op.call { callee := Callee.value (Operand.func 34), args := #[Operand.tmp 43], argTypes := #[93] }, type := 93, pos := "free.go:63", after := #[{ on := 10, ground := Ground.data }], guard := none }) rfl (fun K hK => ?_) AllReady.nil
              go_simp
              refine (sclone_any vr A HL5.out.rd.row hla).mono ?_
              rintro e w6 ⟨v6, rfl, s1, s2, s3⟩
              obtain ⟨ya, yc, rfl⟩ := own_slice2 s1
              have m7 := HN5.out.newR s3 s1 s2 H1.out.hr
              have HM7 := hide m7.1
              have HG7 := hide m7.2
              have hM6 := HN5.out.below s3
              obtain ⟨-, -, -, b2'⟩ := hM6.c
              have z0 := hM6.rd.fz 0
              have z1 := hM6.rd.c0
              clear s1 s2 s3 m7 hM6 a2 a4 b2
              go_simp
              refine hK _ _ ?_
              clear hK K
              try simp only [Act.put, List.setIfInBounds_toArray, List.set_cons_zero, List.set_cons_succ]
              refine wpAny_take (i := 12) (oi := { dst := some 45, op := Op.nilCheck (Operand.tmp 36), type := 0, pos := "free.go:63", after := #[{ on := 3, ground := Ground.data }, { on := 0, ground := Ground.phase }, { on := 1, ground := Ground.phase }, { on := 2, ground := Ground.phase }, { on := 3, ground := Ground.phase }, { on := 4, ground := Ground.phase }, { on := 5, ground := Ground.phase }, { on := 6, ground := Ground.phase }, { on := 7, ground := Ground.phase }, { on := 8, ground := Ground.phase }, { on := 9, ground := Ground.phase }, { on := 10, ground := Ground.phase }, { on := 11, ground := Ground.phase }], guard := none }) (v := ?v12x153) rfl (by kernel_rfl) (by kernel_rfl) (by kernel_rfl) (fun _ _ _ h => h) (Or.inl ⟨by rfl, ?hy12x153⟩) ?rest12x153
              case hy12x153 => (intro w; (first | (go_simp; with_reducible rfl) | go_simp))
              try simp only [Act.put, List.setIfInBounds_toArray, List.set_cons_zero, List.set_cons_succ]
              refine wpAny_take (i := 13) (oi := { dst := some 46, op := Op.fieldAddr 97 (Operand.tmp 45) 0, type := 0, pos := "free.go:63", after := #[{ on := 12, ground := Ground.data }, { on := 0, ground := Ground.phase }, { on := 1, ground := Ground.phase }, { on := 2, ground := Ground.phase }, { on := 3, ground := Ground.phase }, { on := 4, ground := Ground.phase }, { on := 5, ground := Ground.phase }, { on := 6, ground := Ground.phase }, { on := 7, ground := Ground.phase }, { on := 8, ground := Ground.phase }, { on := 9, ground := Ground.phase }, { on := 10, ground := Ground.phase }, { on := 11, ground := Ground.phase }], guard := none }) (v := ?v13x154) rfl (by kernel_rfl) (by kernel_rfl) (by kernel_rfl) (fun _ _ _ h => h) (Or.inl ⟨by rfl, ?hy13x154⟩) ?rest13x154
              case hy13x154 => (intro w; (first | (go_simp; with_reducible rfl) | go_simp))
              try simp only [Act.put, List.setIfInBounds_toArray, List.set_cons_zero, List.set_cons_succ]
              refine wpAny_ready (rs := [14]) (by kernel_rfl) (by simp) ?_
              refine AllReady.cons (o := { dst := none, op := Op.store 93 (Operand.tmp 46) (Operand.tmp 44), type := 0, pos := "free.go:63", after := #[{ on := 13, ground := Ground.data }, { on := 11, ground := Ground.data }, { on := 11, ground := Ground.chain }, { on := 0, ground := Ground.phase }, { on := 1, ground := Ground.phase }, { on := 2, ground := Ground.phase }, { on := 3, ground := Ground.phase }, { on := 4, ground := Ground.phase }, { on := 5, ground := Ground.phase }, { on := 6, ground := Ground.phase }, { on := 7, ground := Ground.phase }, { on := 8, ground := Ground.phase }, { on := 9, ground := Ground.phase }, { on := 10, ground := Ground.phase }, { on := 11, ground := Ground.phase }], guard := none }) rfl (fun K hK => ?_) AllReady.nil
              go_simp
              refine hK _ _ ?_
              clear hK K
              try simp only [Act.put, List.setIfInBounds_toArray, List.set_cons_zero, List.set_cons_succ]
              refine wpAny_done (by kernel_rfl) ?_ _
              go_wp2
              go_ret
              have hgo := HG6.out.trans HG7.out
              refine ⟨l1, OwL l1 pw1 pr1 _ _, rfl, ⟨pw1, pr1, _, _, ms, R, A, B, HM7.out, H2.out, H3.out, fun k => Iff.rfl⟩, fun k hk => ?_, HD3.out.trans (hgo.mv.below HD3.out.size (fun k hk => Q3.out k (by exact hk)))⟩
              rcases hgo.own k hk with h | h
              · exact Q3.out k h
              · exact Nat.le_trans HD3.out.size h
            · skip
              go_simp
              refine (sclone_any vr A HL5.out.rd.row hla).mono ?_
              rintro e w6 ⟨v6, rfl, s1, s2, s3⟩
              obtain ⟨ya, yc, rfl⟩ := own_slice2 s1
              have m7 := HN5.out.newR s3 s1 s2 H1.out.hr
              have HM7 := hide m7.1
              have HG7 := hide m7.2
              have hM6 := HN5.out.below s3
              obtain ⟨-, -, -, b2'⟩ := hM6.c
              have z0 := hM6.rd.fz 0
              have z1 := hM6.rd.c0
              clear s1 s2 s3 m7 hM6 a2 a4 b2
              go_simp
              refine hK _ _ ?_
              clear hK K
              try simp only [Act.put, List.setIfInBounds_toArray, List.set_cons_zero, List.set_cons_succ]
              refine wpAny_ready (rs := [3]) (by kernel_rfl) (by simp) ?_
              refine AllReady.cons (o := { dst := some 36, op := Op.load 73 (Operand.tmp 35), type := 73, pos := "free.go:63", after := #[{ on := 2, ground := Ground.data }], guard := none }) rfl (fun K hK => ?_) AllReady.nil
              go_simp
              refine hK _ _ ?_
              clear hK K
              try simp only [Act.put, List.setIfInBounds_toArray, List.set_cons_zero, List.set_cons_succ]
              refine wpAny_take (i := 12) (oi := { dst := some 45, op := Op.nilCheck (Operand.tmp 36), type := 0, pos := "free.go:63", after := #[{ on := 3, ground := Ground.data }, { on := 0, ground := Ground.phase }, { on := 1, ground := Ground.phase }, { on := 2, ground := Ground.phase }, { on := 3, ground := Ground.phase }, { on := 4, ground := Ground.phase }, { on := 5, ground := Ground.phase }, { on := 6, ground := Ground.phase }, { on := 7, ground := Ground.phase }, { on := 8, ground := Ground.phase }, { on := 9, ground := Ground.phase }, { on := 10, ground := Ground.phase }, { on := 11, ground := Ground.phase }], guard := none }) (v := ?v12x155) rfl (by kernel_rfl) (by kernel_rfl) (by kernel_rfl) (fun _ _ _ h => h) (Or.inl ⟨by rfl, ?hy12x155⟩) ?rest12x155
              case hy12x155 => (intro w; (first | (go_simp; with_reducible rfl) | go_simp))
              try simp only [Act.put, List.setIfInBounds_toArray, List.set_cons_zero, List.set_cons_succ]
              refine wpAny_take (i := 13) (oi := { dst := some 46, op := Op.fieldAddr 97 (Operand.tmp 45) 0, type := 0, pos := "free.go:63", after := #[{ on := 12, ground := Ground.data }, { on := 0, ground := Ground.phase }, { on := 1, ground := Ground.phase }, { on := 2, ground := Ground.phase }, { on := 3, ground := Ground.phase }, { on := 4, ground := Ground.phase }, { on := 5, ground := Ground.phase }, { on := 6, ground := Ground.phase }, { on := 7, ground := Ground.phase }, { on := 8, ground := Ground.phase }, { on := 9, ground := Ground.phase }, { on := 10, ground := Ground.phase }, { on := 11, ground := Ground.phase }], guard := none }) (v := ?v13x156) rfl (by kernel_rfl) (by kernel_rfl) (by kernel_rfl) (fun _ _ _ h => h) (Or.inl ⟨by rfl, ?hy13x156⟩) ?rest13x156
              case hy13x156 => (intro w; (first | (go_simp; with_reducible rfl) | go_simp))
              try simp only [Act.put, List.setIfInBounds_toArray, List.set_cons_zero, List.set_cons_succ]
              refine wpAny_ready (rs := [14]) (by kernel_rfl) (by simp) ?_
              refine AllReady.cons (o := { dst := none, op := Op.store 93 (Operand.tmp 46) (Operand.tmp 44), type := 0, pos := "free.go:63", after := #[{ on := 13, ground := Ground.data }, { on := 11, ground := Ground.data }, { on := 11, ground := Ground.chain }, { on := 0, ground := Ground.phase }, { on := 1, ground := Ground.phase }, { on := 2, ground := Ground.phase }, { on := 3, ground := Ground.phase }, { on := 4, ground := Ground.phase }, { on := 5, ground := Ground.phase }, { on := 6, ground := Ground.phase }, { on := 7, ground := Ground.phase }, { on := 8, ground := Ground.phase }, { on := 9, ground := Ground.phase }, { on := 10, ground := Ground.phase }, { on := 11, ground := Ground.phase }], guard := none }) rfl (fun K hK => ?_) AllReady.nil
              go_simp
              refine hK _ _ ?_
              clear hK K
              try simp only [Act.put, List.setIfInBounds_toArray, List.set_cons_zero, List.set_cons_succ]
              refine wpAny_done (by kernel_rfl) ?_ _
              go_wp2
              go_ret
              have hgo := HG6.out.trans HG7.out
              refine ⟨l1, OwL l1 pw1 pr1 _ _, rfl, ⟨pw1, pr1, _, _, ms, R, A, B, HM7.out, H2.out, H3.out, fun k => Iff.rfl⟩, fun k hk => ?_, HD3.out.trans (hgo.mv.below HD3.out.size (fun k hk => Q3.out k (by exact hk)))⟩
              rcases hgo.own k hk with h | h
              · exact Q3.out k h
              · exact Nat.le_trans HD3.out.size h
      · skip
        go_simp
        refine hK _ _ ?_
        clear hK K
        try simp only [Act.put, List.setIfInBounds_toArray, List.set_cons_zero, List.set_cons_succ]
        refine wpAny_ready (rs := [3, 11]) (by kernel_rfl) (by simp) ?_
        refine AllReady.cons (o := { dst := some 22, op := Op.load 73 (Operand.tmp 21), type := 73, pos := "free.go:62", after := #[{ on := 2, ground := Ground.data }], guard := none }) rfl (fun K hK => ?_) (AllReady.cons (o := { dst := some 30, op := Op.call { callee := Callee.value (Operand.func 34), args := #[Operand.tmp 29], argTypes := #[93] }, type := 93, pos := "free.go:62", after := #[{ on := 10, ground := Ground.data }], guard := none }) rfl (fun K hK => ?_) AllReady.nil)
        · skip
          go_simp
          refine hK _ _ ?_
          clear hK K
          try simp only [Act.put, List.setIfInBounds_toArray, List.set_cons_zero, List.set_cons_succ]
          refine wpAny_ready (rs := [11]) (by kernel_rfl) (by simp) ?_
          refine AllReady.cons (o := { dst := some 30, op := Op.call { callee := Callee.value (Operand.func 34), args := #[Operand.tmp 29], argTypes := #[93] }, type := 93, pos := "free.go:62", after := #[{ on := 10, ground := Ground.data }], guard := none }) rfl (fun K hK => ?_) AllReady.nil
          go_simp
          refine (sclone_any vw B HL3.out.wt.row hlb).mono ?_
          rintro e w4 ⟨v4, rfl, s1, s2, s3⟩
          obtain ⟨xa, xc, rfl⟩ := own_slice2 s1
          have m5 := HN3.out.newW s3 s1 s2 H1.out.hw
          have HM5 := hide m5.1
          have HG5 := hide m5.2
          have hM4 := HN3.out.below s3
          obtain ⟨-, -, b2', -⟩ := hM4.c
          have z0 := hM4.wt.fz 0
          have z1 := hM4.wt.c0
          clear s1 s2 s3 m5 hM4 a2 a4 b2
          go_simp
          refine hK _ _ ?_
          clear hK K
          try simp only [Act.put, List.setIfInBounds_toArray, List.set_cons_zero, List.set_cons_succ]
          refine wpAny_take (i := 12) (oi := { dst := some 31, op := Op.nilCheck (Operand.tmp 22), type := 0, pos := "free.go:62", after := #[{ on := 3, ground := Ground.data }, { on := 0, ground := Ground.phase }, { on := 1, ground := Ground.phase }, { on := 2, ground := Ground.phase }, { on := 3, ground := Ground.phase }, { on := 4, ground := Ground.phase }, { on := 5, ground := Ground.phase }, { on := 6, ground := Ground.phase }, { on := 7, ground := Ground.phase }, { on := 8, ground := Ground.phase }, { on := 9, ground := Ground.phase }, { on := 10, ground := Ground.phase }, { on := 11, ground := Ground.phase }], guard := none }) (v := ?v12x157) rfl (by kernel_rfl) (by kernel_rfl) (by kernel_rfl) (fun _ _ _ h => h) (Or.inl ⟨by rfl, ?hy12x157⟩) ?rest12x157
          case hy12x157 => (intro w; (first | (go_simp; with_reducible rfl) | go_simp))
          try simp only [Act.put, List.setIfInBounds_toArray, List.set_cons_zero, List.set_cons_succ]
          refine wpAny_take (i := 13) (oi := { dst := some 32, op := Op.fieldAddr 97 (Operand.tmp 31) 0, type := 0, pos := "free.go:62", after := #[{ on := 12, ground := Ground.data }, { on := 0, ground := Ground.phase }, { on := 1, ground := Ground.phase }, { on := 2, ground := Ground.phase }, { on := 3, ground := Ground.phase }, { on := 4, ground := Ground.phase }, { on := 5, ground := Ground.phase }, { on := 6, ground := Ground.phase }, { on := 7, ground := Ground.phase }, { on := 8, ground := Ground.phase }, { on := 9, ground := Ground.phase }, { on := 10, ground := Ground.phase }, { on := 11, ground := Ground.phase }], guard := none }) (v := ?v13x158) rfl (by kernel_rfl) (by kernel_rfl) (by kernel_rfl) (fun _ _ _ h => h) (Or.inl ⟨by rfl, ?hy13x158⟩) ?rest13x158
          case hy13x158 => (intro w; (first | (go_simp; with_reducible rfl) | go_simp))
          try simp only [Act.put, List.setIfInBounds_toArray, List.set_cons_zero, List.set_cons_succ]
          refine wpAny_ready (rs := [14]) (by kernel_rfl) (by simp) ?_
          refine AllReady.cons (o := { dst := none, op := Op.store 93 (Operand.tmp 32) (Operand.tmp 30), type := 0, pos := "free.go:62", after := #[{ on := 13, ground := Ground.data }, { on := 11, ground := Ground.data }, { on := 11, ground := Ground.chain }, { on := 0, ground := Ground.phase }, { on := 1, ground := Ground.phase }, { on := 2, ground := Ground.phase }, { on := 3, ground := Ground.phase }, { on := 4, ground := Ground.phase }, { on := 5, ground := Ground.phase }, { on := 6, ground := Ground.phase }, { on := 7, ground := Ground.phase }, { on := 8, ground := Ground.phase }, { on := 9, ground := Ground.phase }, { on := 10, ground := Ground.phase }, { on := 11, ground := Ground.phase }], guard := none }) rfl (fun K hK => ?_) AllReady.nil
          go_simp
          refine hK _ _ ?_
          clear hK K
          try simp only [Act.put, List.setIfInBounds_toArray, List.set_cons_zero, List.set_cons_succ]
          refine wpAny_done (by kernel_rfl) ?_ _
          have hB5 := HD3.out.trans (HG5.out.mv.below HD3.out.size (fun k hk => Q3.out k (by exact hk)))
          have HB5 := hide hB5
          clear hB5 z0 z1 b2'
          generalize w4.setCell _ _ = W5 at *
          have HD5 : Hid (Below w.heap.size w W5.drew) := hide ⟨HB5.out.os, HB5.out.tape, HB5.out.output, HB5.out.size, HB5.out.block⟩
          have HL5 := hide (H1.out.below HD5.out)
          have HN5 : Hid (Lm W5.drew l1 pw1 pr1 (.slice xa B.length xc) vr1 ms R A1 B) := hide (HM5.out.stays (fun _ _ => rfl))
          have HG6 : Hid (Go1 (OwL l1 pw1 pr1 vw1 vr1) W3.drew (OwL l1 pw1 pr1 (.slice xa B.length xc) vr1) W5.drew) := hide HG5.out.drew
          obtain ⟨-, -, -, a2⟩ := HL5.out.c
          have a4 := HL5.out.rd.c0
          obtain ⟨-, -, -, b2⟩ := HN5.out.c
          go_wp2
          refine wp_region_any (by kernel_rfl) ?_
          change wpAny _ _ _ _ _ _ _ (World.drew _)
          refine wpAny_take (i := 0) (oi := { dst := some 33, op := Op.move (Operand.tmp 3), type := 23, pos := "free.go:63", after := #[], guard := none }) (v := ?v0x159) rfl (by kernel_rfl) (by kernel_rfl) (by kernel_rfl) (fun _ _ _ h => h) (Or.inl ⟨by rfl, ?hy0x159⟩) ?rest0x159
          case hy0x159 => (intro w; (first | (go_simp; with_reducible rfl) | go_simp))
          try simp only [Act.put, List.setIfInBounds_toArray, List.set_cons_zero, List.set_cons_succ]
          refine wpAny_take (i := 1) (oi := { dst := some 34, op := Op.nilCheck (Operand.tmp 33), type := 0, pos := "free.go:63", after := #[{ on := 0, ground := Ground.data }], guard := none }) (v := ?v1x160) rfl (by kernel_rfl) (by kernel_rfl) (by kernel_rfl) (fun _ _ _ h => h) (Or.inl ⟨by rfl, ?hy1x160⟩) ?rest1x160
          case hy1x160 => (intro w; (first | (go_simp; with_reducible rfl) | go_simp))
          try simp only [Act.put, List.setIfInBounds_toArray, List.set_cons_zero, List.set_cons_succ]
          refine wpAny_take (i := 2) (oi := { dst := some 35, op := Op.fieldAddr 78 (Operand.tmp 34) 3, type := 0, pos := "free.go:63", after := #[{ on := 1, ground := Ground.data }], guard := none }) (v := ?v2x161) rfl (by kernel_rfl) (by kernel_rfl) (by kernel_rfl) (fun _ _ _ h => h) (Or.inl ⟨by rfl, ?hy2x161⟩) ?rest2x161
          case hy2x161 => (intro w; (first | (go_simp; with_reducible rfl) | go_simp))
          try simp only [Act.put, List.setIfInBounds_toArray, List.set_cons_zero, List.set_cons_succ]
          refine wpAny_take (i := 4) (oi := { dst := some 37, op := Op.move (Operand.tmp 0), type := 23, pos := "free.go:63", after := #[], guard := none }) (v := ?v4x162) rfl (by kernel_rfl) (by kernel_rfl) (by kernel_rfl) (fun _ _ _ h => h) (Or.inl ⟨by rfl, ?hy4x162⟩) ?rest4x162
          case hy4x162 => (intro w; (first | (go_simp; with_reducible rfl) | go_simp))
          try simp only [Act.put, List.setIfInBounds_toArray, List.set_cons_zero, List.set_cons_succ]
          refine wpAny_take (i := 5) (oi := { dst := some 38, op := Op.nilCheck (Operand.tmp 37), type := 0, pos := "free.go:63", after := #[{ on := 4, ground := Ground.data }], guard := none }) (v := ?v5x163) rfl (by kernel_rfl) (by kernel_rfl) (by kernel_rfl) (fun _ _ _ h => h) (Or.inl ⟨by rfl, ?hy5x163⟩) ?rest5x163
          case hy5x163 => (intro w; (first | (go_simp; with_reducible rfl) | go_simp))
          try simp only [Act.put, List.setIfInBounds_toArray, List.set_cons_zero, List.set_cons_succ]
          refine wpAny_take (i := 6) (oi := { dst := some 39, op := Op.fieldAddr 78 (Operand.tmp 38) 3, type := 0, pos := "free.go:63", after := #[{ on := 5, ground := Ground.data }], guard := none }) (v := ?v6x164) rfl (by kernel_rfl) (by kernel_rfl) (by kernel_rfl) (fun _ _ _ h => h) (Or.inl ⟨by rfl, ?hy6x164⟩) ?rest6x164
          case hy6x164 => (intro w; (first | (go_simp; with_reducible rfl) | go_simp))
          try simp only [Act.put, List.setIfInBounds_toArray, List.set_cons_zero, List.set_cons_succ]
          refine wpAny_ready (rs := [3, 7]) (by kernel_rfl) (by simp) ?_
          refine AllReady.cons (o := { dst := some 36, op := Op.load 73 (Operand.tmp 35), type := 73, pos := "free.go:63", after := #[{ on := 2, ground := Ground.data }], guard := none }) rfl (fun K hK => ?_) (AllReady.cons (o := { dst := some 40, op := Op.load 73 (Operand.tmp 39), type := 73, pos := "free.go:63", after := #[{ on := 6, ground := Ground.data }], guard := none }) rfl (fun K hK => ?_) AllReady.nil)
          · skip
            go_simp
            refine hK _ _ ?_
            clear hK K
            try simp only [Act.put, List.setIfInBounds_toArray, List.set_cons_zero, List.set_cons_succ]
            refine wpAny_ready (rs := [7]) (by kernel_rfl) (by simp) ?_
            refine AllReady.cons (o := { dst := some 40, op := Op.load 73 (Operand.tmp 39), type := 73, pos := "free.go:63", after := #[{ on := 6, ground := Ground.data }], guard := none }) rfl (fun K hK => ?_) AllReady.nil
            go_simp
            refine hK _ _ ?_
            clear hK K
            try simp only [Act.put, List.setIfInBounds_toArray, List.set_cons_zero, List.set_cons_succ]
            refine wpAny_take (i := 8) (oi := { dst := some 41, op := Op.nilCheck (Operand.tmp 40), type := 0, pos := "free.go:63", after := #[{ on := 7, ground := Ground.data }], guard := none }) (v := ?v8x165) rfl (by kernel_rfl) (by kernel_rfl) (by kernel_rfl) (fun _ _ _ h => h) (Or.inl ⟨by rfl, ?hy8x165⟩) ?rest8x165
            case hy8x165 => (intro w; (first | (go_simp; with_reducible rfl) | go_simp))
            try simp only [Act.put, List.setIfInBounds_toArray, List.set_cons_zero, List.set_cons_succ]
            refine wpAny_take (i := 9) (oi := { dst := some 42, op := Op.fieldAddr 97 (Operand.tmp 41) 0, type := 0, pos := "free.go:63", after := #[{ on := 8, ground := Ground.data }], guard := none }) (v := ?v9x166) rfl (by kernel_rfl) (by kernel_rfl) (by kernel_rfl) (fun _ _ _ h => h) (Or.inl ⟨by rfl, ?hy9x166⟩) ?rest9x166
            case hy9x166 => (intro w; (first | (go_simp; with_reducible rfl) | go_simp))
            try simp only [Act.put, List.setIfInBounds_toArray, List.set_cons_zero, List.set_cons_succ]
            refine wpAny_ready (rs := [10]) (by kernel_rfl) (by simp) ?_
            refine AllReady.cons (o := { dst := some 43, op := Op.load 93 (Operand.tmp 42), type := 93, pos := "free.go:63", after := #[{ on := 9, ground := Ground.data }], guard := none }) rfl (fun K hK => ?_) AllReady.nil
            go_simp
            refine hK _ _ ?_
            clear hK K
            try simp only [Act.put, List.setIfInBounds_toArray, List.set_cons_zero, List.set_cons_succ]
            refine wpAny_ready (rs := [11]) (by kernel_rfl) (by simp) ?_
            refine AllReady.cons (o := { dst := some 44, op := Op.call { callee := Callee.value (Operand.func 34), args := #[Operand.tmp 43], argTypes := #[93] }, type := 93, pos := "free.go:63", after := #[{ on := 10, ground := Ground.data }], guard := none }) rfl (fun K hK => ?_) AllReady.nil
            go_simp
            refine (sclone_any vr A HL5.out.rd.row hla).mono ?_
            rintro e w6 ⟨v6, rfl, s1, s2, s3⟩
            obtain ⟨ya, yc, rfl⟩ := own_slice2 s1
            have m7 := HN5.out.newR s3 s1 s2 H1.out.hr
            have HM7 := hide m7.1
            have HG7 := hide m7.2
            have hM6 := HN5.out.below s3
            obtain ⟨-, -, -, b2'⟩ := hM6.c
            have z0 := hM6.rd.fz 0
            have z1 := hM6.rd.c0
            clear s1 s2 s3 m7 hM6 a2 a4 b2
            go_simp
            refine hK _ _ ?_
            clear hK K
            try simp only [Act.put, List.setIfInBounds_toArray, List.set_cons_zero, List.set_cons_succ]
            refine wpAny_take (i := 12) (oi := { dst := some 45, op := Op.nilCheck (Operand.tmp 36), type := 0, pos := "free.go:63", after := #[{ on := 3, ground := Ground.data }, { on := 0, ground := Ground.phase }, { on := 1, ground := Ground.phase }, { on := 2, ground := Ground.phase }, { on := 3, ground := Ground.phase }, { on := 4, ground := Ground.phase }, { on := 5, ground := Ground.phase }, { on := 6, ground := Ground.phase }, { on := 7, ground := Ground.phase }, { on := 8, ground := Ground.phase }, { on := 9, ground := Ground.phase }, { on := 10, ground := Ground.phase }, { on := 11, ground := Ground.phase }], guard := none }) (v := ?v12x167) rfl (by kernel_rfl) (by kernel_rfl) (by kernel_rfl) (fun _ _ _ h => h) (Or.inl ⟨by rfl, ?hy12x167⟩) ?rest12x167
            case hy12x167 => (intro w; (first | (go_simp; with_reducible rfl) | go_simp))
            try simp only [Act.put, List.setIfInBounds_toArray, List.set_cons_zero, List.set_cons_succ]
            refine wpAny_take (i := 13) (oi := { dst := some 46, op := Op.fieldAddr 97 (Operand.tmp 45) 0, type := 0, pos := "free.go:63", after := #[{ on := 12, ground := Ground.data }, { on := 0, ground := Ground.phase }, { on := 1, ground := Ground.phase }, { on := 2, ground := Ground.phase }, { on := 3, ground := Ground.phase }, { on := 4, ground := Ground.phase }, { on := 5, ground := Ground.phase }, { on := 6, ground := Ground.phase }, { on := 7, ground := Ground.phase }, { on := 8, ground := Ground.phase }, { on := 9, ground := Ground.phase }, { on := 10, ground := Ground.phase }, { on := 11, ground := Ground.phase }], guard := none }) (v := ?v13x168) rfl (by kernel_rfl) (by kernel_rfl) (by kernel_rfl) (fun _ _ _ h => h) (Or.inl ⟨by rfl, ?hy13x168⟩) ?rest13x168
            case hy13x168 => (intro w; (first | (go_simp; with_reducible rfl) | go_simp))
            try simp only [Act.put, List.setIfInBounds_toArray, List.set_cons_zero, List.set_cons_succ]
            refine wpAny_ready (rs := [14]) (by kernel_rfl) (by simp) ?_
            refine AllReady.cons (o := { dst := none, op := Op.store 93 (Operand.tmp 46) (Operand.tmp 44), type := 0, pos := "free.go:63", after := #[{ on := 13, ground := Ground.data }, { on := 11, ground := Ground.data }, { on := 11, ground := Ground.chain }, { on := 0, ground := Ground.phase }, { on := 1, ground := Ground.phase }, { on := 2, ground := Ground.phase }, { on := 3, ground := Ground.phase }, { on := 4, ground := Ground.phase }, { on := 5, ground := Ground.phase }, { on := 6, ground := Ground.phase }, { on := 7, ground := Ground.phase }, { on := 8, ground := Ground.phase }, { on := 9, ground := Ground.phase }, { on := 10, ground := Ground.phase }, { on := 11, ground := Ground.phase }], guard := none }) rfl (fun K hK => ?_) AllReady.nil
            go_simp
            refine hK _ _ ?_
            clear hK K
            try simp only [Act.put, List.setIfInBounds_toArray, List.set_cons_zero, List.set_cons_succ]
            refine wpAny_done (by kernel_rfl) ?_ _
            go_wp2
            go_ret
            have hgo := HG6.out.trans HG7.out
            refine ⟨l1, OwL l1 pw1 pr1 _ _, rfl, ⟨pw1, pr1, _, _, ms, R, A, B, HM7.out, H2.out, H3.out, fun k => Iff.rfl⟩, fun k hk => ?_, HD3.out.trans (hgo.mv.below HD3.out.size (fun k hk => Q3.out k (by exact hk)))⟩
            rcases hgo.own k hk with h | h
            · exact Q3.out k h
            · exact Nat.le_trans HD3.out.size h
          · skip
            go_simp
            refine hK _ _ ?_
            clear hK K
            try simp only [Act.put, List.setIfInBounds_toArray, List.set_cons_zero, List.set_cons_succ]
            refine wpAny_take (i := 8) (oi := { dst := some 41, op := Op.nilCheck (Operand.tmp 40), type := 0, pos := "free.go:63", after := #[{ on := 7, ground := Ground.data }], guard := none }) (v := ?v8x169) rfl (by kernel_rfl) (by kernel_rfl) (by kernel_rfl) (fun _ _ _ h => h) (Or.inl ⟨by rfl, ?hy8x169⟩) ?rest8x169
            case hy8x169 => (intro w; (first | (go_simp; with_reducible rfl) | go_simp))
            try simp only [Act.put, List.setIfInBounds_toArray, List.set_cons_zero, List.set_cons_succ]
            refine wpAny_take (i := 9) (oi := { dst := some 42, op := Op.fieldAddr 97 (Operand.tmp 41) 0, type := 0, pos := "free.go:63", after := #[{ on := 8, ground := Ground.data }], guard := none }) (v := ?v9x170) rfl (by kernel_rfl) (by kernel_rfl) (by kernel_rfl) (fun _ _ _ h => h) (Or.inl ⟨by rfl, ?hy9x170⟩) ?rest9x170
            case hy9x170 => (intro w; (first | (go_simp; with_reducible rfl) | go_simp))
            try simp only [Act.put, List.setIfInBounds_toArray, List.set_cons_zero, List.set_cons_succ]
            refine wpAny_ready (rs := [3, 10]) (by kernel_rfl) (by simp) ?_
            refine AllReady.cons (o := { dst := some 36, op := Op.load 73 (Operand.tmp 35), type := 73, pos := "free.go:63", after := #[{ on := 2, ground := Ground.data }], guard := none }) rfl (fun K hK => ?_) (AllReady.cons (o := { dst := some 43, op := Op.load 93 (Operand.tmp 42), type := 93, pos := "free.go:63", after := #[{ on := 9, ground := Ground.data }], guard := none }) rfl (fun K hK => ?_) AllReady.nil)
            · skip
              go_simp
              refine hK _ _ ?_
              clear hK K
              try simp only [Act.put, List.setIfInBounds_toArray, List.set_cons_zero, List.set_cons_succ]
              refine wpAny_ready (rs := [10]) (by kernel_rfl) (by simp) ?_
              refine AllReady.cons (o := { dst := some 43, op := Op.load 93 (Operand.tmp 42), type := 93, pos := "free.go:63", after := #[{ on := 9, ground := Ground.data }], guard := none }) rfl (fun K hK => ?_) AllReady.nil
              go_simp
              refine hK _ _ ?_
              clear hK K
              try simp only [Act.put, List.setIfInBounds_toArray, List.set_cons_zero, List.set_cons_succ]
              refine wpAny_ready (rs := [11]) (by kernel_rfl) (by simp) ?_
              refine AllReady.cons (o := { dst := some 44, op := Op.call { callee := Callee.value (Operand.func 34), args := #[Operand.tmp 43], argTypes := #[93] }, type := 93, pos := "free.go:63", after := #[{ on := 10, ground := Ground.data }], guard := none }) rfl (fun K hK => ?_) AllReady.nil
              go_simp
              refine (sclone_any vr A HL5.out.rd.row hla).mono ?_
              rintro e w6 ⟨v6, rfl, s1, s2, s3⟩
              obtain ⟨ya, yc, rfl⟩ := own_slice2 s1
              have m7 := HN5.out.newR s3 s1 s2 H1.out.hr
              have HM7 := hide m7.1
              have HG7 := hide m7.2
              have hM6 := HN5.out.below s3
              obtain ⟨-, -, -, b2'⟩ := hM6.c
              have z0 := hM6.rd.fz 0
              have z1 := hM6.rd.c0
              clear s1 s2 s3 m7 hM6 a2 a4 b2
              go_simp
              refine hK _ _ ?_
              clear hK K
              try simp only [Act.put, List.setIfInBounds_toArray, List.set_cons_zero, List.set_cons_succ]
              refine wpAny_take (i := 12) (oi := { dst := some 45, op := Op.nilCheck (Operand.tmp 36), type := 0, pos := "free.go:63", after := #[{ on := 3, ground := Ground.data }, { on := 0, ground := Ground.phase }, { on := 1, ground := Ground.phase }, { on := 2, ground := Ground.phase }, { on := 3, ground := Ground.phase }, { on := 4, ground := Ground.phase }, { on := 5, ground := Ground.phase }, { on := 6, ground := Ground.phase }, { on := 7, ground := Ground.phase }, { on := 8, ground := Ground.phase }, { on := 9, ground := Ground.phase }, { on := 10, ground := Ground.phase }, { on := 11, ground := Ground.phase }], guard := none }) (v := ?v12x171) rfl (by kernel_rfl) (by kernel_rfl) (by kernel_rfl) (fun _ _ _ h => h) (Or.inl ⟨by rfl, ?hy12x171⟩) ?rest12x171
              case hy12x171 => (intro w; (first | (go_simp; with_reducible rfl) | go_simp))
              try simp only [Act.put, List.setIfInBounds_toArray, List.set_cons_zero, List.set_cons_succ]
              refine wpAny_take (i := 13) (oi := { dst := some 46, op := Op.fieldAddr 97 (Operand.tmp 45) 0, type := 0, pos := "free.go:63", after := #[{ on := 12, ground := Ground.data }, { on := 0, ground := Ground.phase }, { on := 1, ground := Ground.phase }, { on := 2, ground := Ground.phase }, { on := 3, ground := Ground.phase }, { on := 4, ground := Ground.phase }, { on := 5, ground := Ground.phase }, { on := 6, ground := Ground.phase }, { on := 7, ground := Ground.phase }, { on := 8, ground := Ground.phase }, { on := 9, ground := Ground.phase }, { on := 10, ground := Ground.phase }, { on := 11, ground := Ground.phase }], guard := none }) (v := ?v13x172) rfl (by kernel_rfl) (by kernel_rfl) (by kernel_rfl) (fun _ _ _ h => h) (Or.inl ⟨by rfl, ?hy13x172⟩) ?rest13x172
              case hy13x172 => (intro w; (first | (go_simp; with_reducible rfl) | go_simp))
              try simp only [Act.put, List.setIfInBounds_toArray, List.set_cons_zero, List.set_cons_succ]
              refine wpAny_ready (rs := [14]) (by kernel_rfl) (by simp) ?_
              refine AllReady.cons (o := { dst := none, op := Op.store 93 (Operand.tmp 46) (Operand.tmp 44), type := 0, pos := "free.go:63", after := #[{ on := 13, ground := Ground.data }, { on := 11, ground := Ground.data }, { on := 11, ground := Ground.chain }, { on := 0, ground := Ground.phase }, { on := 1, ground := Ground.phase }, { on := 2, ground := Ground.phase }, { on := 3, ground := Ground.phase }, { on := 4, ground := Ground.phase }, { on := 5, ground := Ground.phase }, { on := 6, ground := Ground.phase }, { on := 7, ground := Ground.phase }, { on := 8, ground := Ground.phase }, { on := 9, ground := Ground.phase }, { on := 10, ground := Ground.phase }, { on := 11, ground := Ground.phase }], guard := none }) rfl (fun K hK => ?_) AllReady.nil
              go_simp
              refine hK _ _ ?_
              clear hK K
              try simp only [Act.put, List.setIfInBounds_toArray, List.set_cons_zero, List.set_cons_succ]
              refine wpAny_done (by kernel_rfl) ?_ _
              go_wp2
              go_ret
              have hgo := HG6.out.trans HG7.out
              refine ⟨l1, OwL l1 pw1 pr1 _ _, rfl, ⟨pw1, pr1, _, _, ms, R, A, B, HM7.out, H2.out, H3.out, fun k => Iff.rfl⟩, fun k hk => ?_, HD3.out.trans (hgo.mv.below HD3.out.size (fun k hk => Q3.out k (by exact hk)))⟩
              rcases hgo.own k hk with h | h
              · exact Q3.out k h
              · exact Nat.le_trans HD3.out.size h
            · skip
              go_simp
              refine hK _ _ ?_
              clear hK K
              try simp only [Act.put, List.setIfInBounds_toArray, List.set_cons_zero, List.set_cons_succ]
              refine wpAny_ready (rs := [3, 11]) (by kernel_rfl) (by simp) ?_
              refine AllReady.cons (o := { dst := some 36, op := Op.load 73 (Operand.tmp 35), type := 73, pos := "free.go:63", after := #[{ on := 2, ground := Ground.data }], guard := none }) rfl (fun K hK => ?_) (AllReady.cons (o := { dst := some 44, op := Op.call { callee := Callee.value (Operand.func 34), args := #[Operand.tmp 43], argTypes := #[93] }, type := 93, pos := "free.go:63", after := #[{ on := 10, ground := Ground.data }], guard := none }) rfl (fun K hK => ?_) AllReady.nil)
              · skip
                go_simp
                refine hK _ _ ?_
                clear hK K
                try simp only [Act.put, List.setIfInBounds_toArray, List.set_cons_zero, List.set_cons_succ]
                refine wpAny_ready (rs := [11]) (by kernel_rfl) (by simp) ?_
                refine AllReady.cons (o := { dst := some 44, op := Op.call { callee := Callee.value (Operand.func 34), args := #[Operand.tmp 43], argTypes := #[93] }, type := 93, pos := "free.go:63", after := #[{ on := 10, ground := Ground.data }], guard := none }) rfl (fun K hK => ?_) AllReady.nil
                go_simp
                refine (sclone_any vr A HL5.out.rd.row hla).mono ?_
                rintro e w6 ⟨v6, rfl, s1, s2, s3⟩
                obtain ⟨ya, yc, rfl⟩ := own_slice2 s1
                have m7 := HN5.out.newR s3 s1 s2 H1.out.hr
                have HM7 := hide m7.1
                have HG7 := hide m7.2
                have hM6 := HN5.out.below s3
                obtain ⟨-, -, -, b2'⟩ := hM6.c
                have z0 := hM6.rd.fz 0
                have z1 := hM6.rd.c0
                clear s1 s2 s3 m7 hM6 a2 a4 b2
                go_simp
                refine hK _ _ ?_
                clear hK K
                try simp only [Act.put, List.setIfInBounds_toArray, List.set_cons_zero, List.set_cons_succ]
                refine wpAny_take (i := 12) (oi := { dst := some 45, op := Op.nilCheck (Operand.tmp 36), type := 0, pos := "free.go:63", after := #[{ on := 3, ground := Ground.data }, { on := 0, ground := Ground.phase }, { on := 1, ground := Ground.phase }, { on := 2, ground := Ground.phase }, { on := 3, ground := Ground.phase }, { on := 4, ground := Ground.phase }, { on := 5, ground := Ground.phase }, { on := 6, ground := Ground.phase }, { on := 7, ground := Ground.phase }, { on := 8, ground := Ground.phase }, { on := 9, ground := Ground.phase }, { on := 10, ground := Ground.phase }, { on := 11, ground := Ground.phase }], guard := none }) (v := ?v12x173) rfl (by kernel_rfl) (by kernel_rfl) (by kernel_rfl) (fun _ _ _ h => h) (Or.inl ⟨by rfl, ?hy12x173⟩) ?rest12x173
                case hy12x173 => (intro w; (first | (go_simp; with_reducible rfl) | go_simp))
                try simp only [Act.put, List.setIfInBounds_toArray, List.set_cons_zero, List.set_cons_succ]
                refine wpAny_take (i := 13) (oi := { dst := some 46, op := Op.fieldAddr 97 (Operand.tmp 45) 0, type := 0, pos := "free.go:63", after := #[{ on := 12, ground := Ground.data }, { on := 0, ground := Ground.phase }, { on := 1, ground := Ground.phase }, { on := 2, ground := Ground.phase }, { on := 3, ground := Ground.phase }, { on := 4, ground := Ground.phase }, { on := 5, ground := Ground.phase }, { on := 6, ground := Ground.phase }, { on := 7, ground := Ground.phase }, { on := 8, ground := Ground.phase }, { on := 9, ground := Ground.phase }, { on := 10, ground := Ground.phase }, { on := 11, ground := Ground.phase }], guard := none }) (v := ?v13x174) rfl (by kernel_rfl) (by kernel_rfl) (by kernel_rfl) (fun _ _ _ h => h) (Or.inl ⟨by rfl, ?hy13x174⟩) ?rest13x174
                case hy13x174 => (intro w; (first | (go_simp; with_reducible rfl) | go_simp))
                try simp only [Act.put, List.setIfInBounds_toArray, List.set_cons_zero, List.set_cons_succ]
                refine wpAny_ready (rs := [14]) (by kernel_rfl) (by simp) ?_
                refine AllReady.cons (o := { dst := none, op := Op.store 93 (Operand.tmp 46) (Operand.tmp 44), type := 0, pos := "free.go:63", after := #[{ on := 13, ground := Ground.data }, { on := 11, ground := Ground.data }, { on := 11, ground := Ground.chain }, { on := 0, ground := Ground.phase }, { on := 1, ground := Ground.phase }, { on := 2, ground := Ground.phase }, { on := 3, ground := Ground.phase }, { on := 4, ground := Ground.phase }, { on := 5, ground := Ground.phase }, { on := 6, ground := Ground.phase }, { on := 7, ground := Ground.phase }, { on := 8, ground := Ground.phase }, { on := 9, ground := Ground.phase }, { on := 10, ground := Ground.phase }, { on := 11, ground := Ground.phase }], guard := none }) rfl (fun K hK => ?_) AllReady.nil
                go_simp
                refine hK _ _ ?_
                clear hK K
                try simp only [Act.put, List.setIfInBounds_toArray, List.set_cons_zero, List.set_cons_succ]
                refine wpAny_done (by kernel_rfl) ?_ _
                go_wp2
                go_ret
                have hgo := HG6.out.trans HG7.out
                refine ⟨l1, OwL l1 pw1 pr1 _ _, rfl, ⟨pw1, pr1, _, _, ms, R, A, B, HM7.out, H2.out, H3.out, fun k => Iff.rfl⟩, fun k hk => ?_, HD3.out.trans (hgo.mv.below HD3.out.size (fun k hk => Q3.out k (by exact hk)))⟩
                rcases hgo.own k hk with h | h
                · exact Q3.out k h
                · exact Nat.le_trans HD3.out.size h
              · skip
                go_simp
                refine (sclone_any vr A HL5.out.rd.row hla).mono ?_
                rintro e w6 ⟨v6, rfl, s1, s2, s3⟩
                obtain ⟨ya, yc, rfl⟩ := own_slice2 s1
                have m7 := HN5.out.newR s3 s1 s2 H1.out.hr
                have HM7 := hide m7.1
                have HG7 := hide m7.2
                have hM6 := HN5.out.below s3
                obtain ⟨-, -, -, b2'⟩ := hM6.c
                have z0 := hM6.rd.fz 0
                have z1 := hM6.rd.c0
                clear s1 s2 s3 m7 hM6 a2 a4 b2
                go_simp
                refine hK _ _ ?_
                clear hK K
                try simp only [Act.put, List.setIfInBounds_toArray, List.set_cons_zero, List.set_cons_succ]
                refine wpAny_ready (rs := [3]) (by kernel_rfl) (by simp) ?_
                refine AllReady.cons (o := { dst := some 36, op := Op.load 73 (Operand.tmp 35), type := 73, pos := "free.go:63", after := #[{ on := 2, ground := Ground.data }], guard := none }) rfl (fun K hK => ?_) AllReady.nil
                go_simp
                refine hK _ _ ?_
                clear hK K
                try simp only [Act.put, List.setIfInBounds_toArray, List.set_cons_zero, List.set_cons_succ]
                refine wpAny_take (i := 12) (oi := { dst := some 45, op := Op.nilCheck (Operand.tmp 36), type := 0, pos := "free.go:63", after := #[{ on := 3, ground := Ground.data }, { on := 0, ground := Ground.phase }, { on := 1, ground := Ground.phase }, { on := 2, ground := Ground.phase }, { on := 3, ground := Ground.phase }, { on := 4, ground := Ground.phase }, { on := 5, ground := Ground.phase }, { on := 6, ground := Ground.phase }, { on := 7, ground := Ground.phase }, { on := 8, ground := Ground.phase }, { on := 9, ground := Ground.phase }, { on := 10, ground := Ground.phase }, { on := 11, ground := Ground.phase }], guard := none }) (v := ?v12x175) rfl (by kernel_rfl) (by kernel_rfl) (by kernel_rfl) (fun _ _ _ h => h) (Or.inl ⟨by rfl, ?hy12x175⟩) ?rest12x175
                case hy12x175 => (intro w; (first | (go_simp; with_reducible rfl) | go_simp))
                try simp only [Act.put, List.setIfInBounds_toArray, List.set_cons_zero, List.set_cons_succ]
                refine wpAny_take (i := 13) (oi := { dst := some 46, op := Op.fieldAddr 97 (Operand.tmp 45) 0, type := 0, pos := "free.go:63", after := #[{ on := 12, ground := Ground.data }, { on := 0, ground := Ground.phase }, { on := 1, ground := Ground.phase }, { on := 2, ground := Ground.phase }, { on := 3, ground := Ground.phase }, { on := 4, ground := Ground.phase }, { on := 5, ground := Ground.phase }, { on := 6, ground := Ground.phase }, { on := 7, ground := Ground.phase }, { on := 8, ground := Ground.phase }, { on := 9, ground := Ground.phase }, { on := 10, ground := Ground.phase }, { on := 11, ground := Ground.phase }], guard := none }) (v := ?v13x176) rfl (by kernel_rfl) (by kernel_rfl) (by kernel_rfl) (fun _ _ _ h => h) (Or.inl ⟨by rfl, ?hy13x176⟩) ?rest13x176
                case hy13x176 => (intro w; (first | (go_simp; with_reducible rfl) | go_simp))
                try simp only [Act.put, List.setIfInBounds_toArray, List.set_cons_zero, List.set_cons_succ]
                refine wpAny_ready (rs := [14]) (by kernel_rfl) (by simp) ?_
                refine AllReady.cons (o := { dst := none, op := Op.store 93 (Operand.tmp 46) (Operand.tmp 44), type := 0, pos := "free.go:63", after := #[{ on := 13, ground := Ground.data }, { on := 11, ground := Ground.data }, { on := 11, ground := Ground.chain }, { on := 0, ground := Ground.phase }, { on := 1, ground := Ground.phase }, { on := 2, ground := Ground.phase }, { on := 3, ground := Ground.phase }, { on := 4, ground := Ground.phase }, { on := 5, ground := Ground.phase }, { on := 6, ground := Ground.phase }, { on := 7, ground := Ground.phase }, { on := 8, ground := Ground.phase }, { on := 9, ground := Ground.phase }, { on := 10, ground := Ground.phase }, { on := 11, ground := Ground.phase }], guard := none }) rfl (fun K hK => ?_) AllReady.nil
                go_simp
                refine hK _ _ ?_
                clear hK K
                try simp only [Act.put, List.setIfInBounds_toArray, List.set_cons_zero, List.set_cons_succ]
                refine wpAny_done (by kernel_rfl) ?_ _
                go_wp2
                go_ret
                have hgo := HG6.out.trans HG7.out
                refine ⟨l1, OwL l1 pw1 pr1 _ _, rfl, ⟨pw1, pr1, _, _, ms, R, A, B, HM7.out, H2.out, H3.out, fun k => Iff.rfl⟩, fun k hk => ?_, HD3.out.trans (hgo.mv.below HD3.out.size (fun k hk => Q3.out k (by exact hk)))⟩
                rcases hgo.own k hk with h | h
                · exact Q3.out k h
                · exact Nat.le_trans HD3.out.size h
        · skip
          go_simp
          refine (sclone_any vw B HL3.out.wt.row hlb).mono ?_
          rintro e w4 ⟨v4, rfl, s1, s2, s3⟩
          obtain ⟨xa, xc, rfl⟩ := own_slice2 s1
          have m5 := HN3.out.newW s3 s1 s2 H1.out.hw
          have HM5 := hide m5.1
          have HG5 := hide m5.2
          have hM4 := HN3.out.below s3
          obtain ⟨-, -, b2', -⟩ := hM4.c
          have z0 := hM4.wt.fz 0
          have z1 := hM4.wt.c0
          clear s1 s2 s3 m5 hM4 a2 a4 b2
          go_simp
          refine hK _ _ ?_
          clear hK K
          try simp only [Act.put, List.setIfInBounds_toArray, List.set_cons_zero, List.set_cons_succ]
          refine wpAny_ready (rs := [3]) (by kernel_rfl) (by simp) ?_
          refine AllReady.cons (o := { dst := some 22, op := Op.load 73 (Operand.tmp 21), type := 73, pos := "free.go:62", after := #[{ on := 2, ground := Ground.data }], guard := none }) rfl (fun K hK => ?_) AllReady.nil
          go_simp
          refine hK _ _ ?_
          clear hK K
          try simp only [Act.put, List.setIfInBounds_toArray, List.set_cons_zero, List.set_cons_succ]
          refine wpAny_take (i := 12) (oi := { dst := some 31, op := Op.nilCheck (Operand.tmp 22), type := 0, pos := "free.go:62", after := #[{ on := 3, ground := Ground.data }, { on := 0, ground := Ground.phase }, { on := 1, ground := Ground.phase }, { on := 2, ground := Ground.phase }, { on := 3, ground := Ground.phase }, { on := 4, ground := Ground.phase }, { on := 5, ground := Ground.phase }, { on := 6, ground := Ground.phase }, { on := 7, ground := Ground.phase }, { on := 8, ground := Ground.phase }, { on := 9, ground := Ground.phase }, { on := 10, ground := Ground.phase }, { on := 11, ground := Ground.phase }], guard := none }) (v := ?v12x177) rfl (by kernel_rfl) (by kernel_rfl) (by kernel_rfl) (fun _ _ _ h => h) (Or.inl ⟨by rfl, ?hy12x177⟩) ?rest12x177
          case hy12x177 => (intro w; (first | (go_simp; with_reducible rfl) | go_simp))
          try simp only [Act.put, List.setIfInBounds_toArray, List.set_cons_zero, List.set_cons_succ]
          refine wpAny_take (i := 13) (oi := { dst := some 32, op := Op.fieldAddr 97 (Operand.tmp 31) 0, type := 0, pos := "free.go:62", after := #[{ on := 12, ground := Ground.data }, { on := 0, ground := Ground.phase }, { on := 1, ground := Ground.phase }, { on := 2, ground := Ground.phase }, { on := 3, ground := Ground.phase }, { on := 4, ground := Ground.phase }, { on := 5, ground := Ground.phase }, { on := 6, ground := Ground.phase }, { on := 7, ground := Ground.phase }, { on := 8, ground := Ground.phase }, { on := 9, ground := Ground.phase }, { on := 10, ground := Ground.phase }, { on := 11, ground := Ground.phase }], guard := none }) (v := ?v13x178) rfl (by kernel_rfl) (by kernel_rfl) (by kernel_rfl) (fun _ _ _ h => h) (Or.inl ⟨by rfl, ?hy13x178⟩) ?rest13x178
          case hy13x178 => (intro w; (first | (go_simp; with_reducible rfl) | go_simp))
          try simp only [Act.put, List.setIfInBounds_toArray, List.set_cons_zero, List.set_cons_succ]
          refine wpAny_ready (rs := [14]) (by kernel_rfl) (by simp) ?_
          refine AllReady.cons (o := { dst := none, op := Op.store 93 (Operand.tmp 32) (Operand.tmp 30), type := 0, pos := "free.go:62", after := #[{ on := 13, ground := Ground.data }, { on := 11, ground := Ground.data }, { on := 11, ground := Ground.chain }, { on := 0, ground := Ground.phase }, { on := 1, ground := Ground.phase }, { on := 2, ground := Ground.phase }, { on := 3, ground := Ground.phase }, { on := 4, ground := Ground.phase }, { on := 5, ground := Ground.phase }, { on := 6, ground := Ground.phase }, { on := 7, ground := Ground.phase }, { on := 8, ground := Ground.phase }, { on := 9, ground := Ground.phase }, { on := 10, ground := Ground.phase }, { on := 11, ground := Ground.phase }], guard := none }) rfl (fun K hK => ?_) AllReady.nil
          go_simp
          refine hK _ _ ?_
          clear hK K
          try simp only [Act.put, List.setIfInBounds_toArray, List.set_cons_zero, List.set_cons_succ]
          refine wpAny_done (by kernel_rfl) ?_ _
          have hB5 := HD3.out.trans (HG5.out.mv.below HD3.out.size (fun k hk => Q3.out k (by exact hk)))
          have HB5 := hide hB5
          clear hB5 z0 z1 b2'
          generalize w4.setCell _ _ = W5 at *
          have HD5 : Hid (Below w.heap.size w W5.drew) := hide ⟨HB5.out.os, HB5.out.tape, HB5.out.output, HB5.out.size, HB5.out.block⟩
          have HL5 := hide (H1.out.below HD5.out)
          have HN5 : Hid (Lm W5.drew l1 pw1 pr1 (.slice xa B.length xc) vr1 ms R A1 B) := hide (HM5.out.stays (fun _ _ => rfl))
          have HG6 : Hid (Go1 (OwL l1 pw1 pr1 vw1 vr1) W3.drew (OwL l1 pw1 pr1 (.slice xa B.length xc) vr1) W5.drew) := hide HG5.out.drew
          obtain ⟨-, -, -, a2⟩ := HL5.out.c
          have a4 := HL5.out.rd.c0
          obtain ⟨-, -, -, b2⟩ := HN5.out.c
          go_wp2
          refine wp_region_any (by kernel_rfl) ?_
          change wpAny _ _ _ _ _ _ _ (World.drew _)
          refine wpAny_take (i := 0) (oi := { dst := some 33, op := Op.move (Operand.tmp 3), type := 23, pos := "free.go:63", after := #[], guard := none }) (v := ?v0x179) rfl (by kernel_rfl) (by kernel_rfl) (by kernel_rfl) (fun _ _ _ h => h) (Or.inl ⟨by rfl, ?hy0x179⟩) ?rest0x179
          case hy0x179 => (intro w; (first | (go_simp; with_reducible rfl) | go_simp))
          try simp only [Act.put, List.setIfInBounds_toArray, List.set_cons_zero, List.set_cons_succ]
          refine wpAny_take (i := 1) (oi := { dst := some 34, op := Op.nilCheck (Operand.tmp 33), type := 0, pos := "free.go:63", after := #[{ on := 0, ground := Ground.data }], guard := none }) (v := ?v1x180) rfl (by kernel_rfl) (by kernel_rfl) (by kernel_rfl) (fun _ _ _ h => h) (Or.inl ⟨by rfl, ?hy1x180⟩) ?rest1x180
          case hy1x180 => (intro w; (first | (go_simp; with_reducible rfl) | go_simp))
          try simp only [Act.put, List.setIfInBounds_toArray, List.set_cons_zero, List.set_cons_succ]
          refine wpAny_take (i := 2) (oi := { dst := some 35, op := Op.fieldAddr 78 (Operand.tmp 34) 3, type := 0, pos := "free.go:63", after := #[{ on := 1, ground := Ground.data }], guard := none }) (v := ?v2x181) rfl (by kernel_rfl) (by kernel_rfl) (by kernel_rfl) (fun _ _ _ h => h) (Or.inl ⟨by rfl, ?hy2x181⟩) ?rest2x181
          case hy2x181 => (intro w; (first | (go_simp; with_reducible rfl) | go_simp))
          try simp only [Act.put, List.setIfInBounds_toArray, List.set_cons_zero, List.set_cons_succ]
          refine wpAny_take (i := 4) (oi := { dst := some 37, op := Op.move (Operand.tmp 0), type := 23, pos := "free.go:63", after := #[], guard := none }) (v := ?v4x182) rfl (by kernel_rfl) (by kernel_rfl) (by kernel_rfl) (fun _ _ _ h => h) (Or.inl ⟨by rfl, ?hy4x182⟩) ?rest4x182
          case hy4x182 => (intro w; (first | (go_simp; with_reducible rfl) | go_simp))
          try simp only [Act.put, List.setIfInBounds_toArray, List.set_cons_zero, List.set_cons_succ]
          refine wpAny_take (i := 5) (oi := { dst := some 38, op := Op.nilCheck (Operand.tmp 37), type := 0, pos := "free.go:63", after := #[{ on := 4, ground := Ground.data }], guard := none }) (v := ?v5x183) rfl (by kernel_rfl) (by kernel_rfl) (by kernel_rfl) (fun _ _ _ h => h) (Or.inl ⟨by rfl, ?hy5x183⟩) ?rest5x183
          case hy5x183 => (intro w; (first | (go_simp; with_reducible rfl) | go_simp))
          try simp only [Act.put, List.setIfInBounds_toArray, List.set_cons_zero, List.set_cons_succ]
          refine wpAny_take (i := 6) (oi := { dst := some 39, op := Op.fieldAddr 78 (Operand.tmp 38) 3, type := 0, pos := "free.go:63", after := #[{ on := 5, ground := Ground.data }], guard := none }) (v := ?v6x184) rfl (by kernel_rfl) (by kernel_rfl) (by kernel_rfl) (fun _ _ _ h => h) (Or.inl ⟨by rfl, ?hy6x184⟩) ?rest6x184
          case hy6x184 => (intro w; (first | (go_simp; with_reducible rfl) | go_simp))
          try simp only [Act.put, List.setIfInBounds_toArray, List.set_cons_zero, List.set_cons_succ]
          refine wpAny_ready (rs := [3, 7]) (by kernel_rfl) (by simp) ?_
          refine AllReady.cons (o := { dst := some 36, op := Op.load 73 (Operand.tmp 35), type := 73, pos := "free.go:63", after := #[{ on := 2, ground := Ground.data }], guard := none }) rfl (fun K hK => ?_) (AllReady.cons (o := { dst := some 40, op := Op.load 73 (Operand.tmp 39), type := 73, pos := "free.go:63", after := #[{ on := 6, ground := Ground.data }], guard := none }) rfl (fun K hK => ?_) AllReady.nil)
          · skip
            go_simp
            refine hK _ _ ?_
            clear hK K
            try simp only [Act.put, List.setIfInBounds_toArray, List.set_cons_zero, List.set_cons_succ]
            refine wpAny_ready (rs := [7]) (by kernel_rfl) (by simp) ?_
            refine AllReady.cons (o := { dst := some 40, op := Op.load 73 (Operand.tmp 39), type := 73, pos := "free.go:63", after := #[{ on := 6, ground := Ground.data }], guard := none }) rfl (fun K hK => ?_) AllReady.nil
            go_simp
            refine hK _ _ ?_
            clear hK K
            try simp only [Act.put, List.setIfInBounds_toArray, List.set_cons_zero, List.set_cons_succ]
            refine wpAny_take (i := 8) (oi := { dst := some 41, op := Op.nilCheck (Operand.tmp 40), type := 0, pos := "free.go:63", after := #[{ on := 7, ground := Ground.data }], guard := none }) (v := ?v8x185) rfl (by kernel_rfl) (by kernel_rfl) (by kernel_rfl) (fun _ _ _ h => h) (Or.inl ⟨by rfl, ?hy8x185⟩) ?rest8x185
            case hy8x185 => (intro w; (first | (go_simp; with_reducible rfl) | go_simp))
            try simp only [Act.put, List.setIfInBounds_toArray, List.set_cons_zero, List.set_cons_succ]
            refine wpAny_take (i := 9) (oi := { dst := some 42, op := Op.fieldAddr 97 (Operand.tmp 41) 0, type := 0, pos := "free.go:63", after := #[{ on := 8, ground := Ground.data }], guard := none }) (v := ?v9x186) rfl (by kernel_rfl) (by kernel_rfl) (by kernel_rfl) (fun _ _ _ h => h) (Or.inl ⟨by rfl, ?hy9x186⟩) ?rest9x186
            case hy9x186 => (intro w; (first | (go_simp; with_reducible rfl) | go_simp))
            try simp only [Act.put, List.setIfInBounds_toArray, List.set_cons_zero, List.set_cons_succ]
            refine wpAny_ready (rs := [10]) (by kernel_rfl) (by simp) ?_
            refine AllReady.cons (o := { dst := some 43, op := Op.load 93 (Operand.tmp 42), type := 93, pos := "free.go:63", after := #[{ on := 9, ground := Ground.data }], guard := none }) rfl (fun K hK => ?_) AllReady.nil
            go_simp
            refine hK _ _ ?_
            clear hK K
            try simp only [Act.put, List.setIfInBounds_toArray, List.set_cons_zero, List.set_cons_succ]
            refine wpAny_ready (rs := [11]) (by kernel_rfl) (by simp) ?_
            refine AllReady.cons (o := { dst := some 44, op := Op.call { callee := Callee.value (Operand.func 34), args := #[Operand.tmp 43], argTypes := #[93] }, type := 93, pos := "free.go:63", after := #[{ on := 10, ground := Ground.data }], guard := none }) rfl (fun K hK => ?_) AllReady.nil
            go_simp
            refine (sclone_any vr A HL5.out.rd.row hla).mono ?_
            rintro e w6 ⟨v6, rfl, s1, s2, s3⟩
            obtain ⟨ya, yc, rfl⟩ := own_slice2 s1
            have m7 := HN5.out.newR s3 s1 s2 H1.out.hr
            have HM7 := hide m7.1
            have HG7 := hide m7.2
            have hM6 := HN5.out.below s3
            obtain ⟨-, -, -, b2'⟩ := hM6.c
            have z0 := hM6.rd.fz 0
            have z1 := hM6.rd.c0
            clear s1 s2 s3 m7 hM6 a2 a4 b2
            go_simp
            refine hK _ _ ?_
            clear hK K
            try simp only [Act.put, List.setIfInBounds_toArray, List.set_cons_zero, List.set_cons_succ]
            refine wpAny_take (i := 12) (oi := { dst := some 45, op := Op.nilCheck (Operand.tmp 36), type := 0, pos := "free.go:63", after := #[{ on := 3, ground := Ground.data }, { on := 0, ground := Ground.phase }, { on := 1, ground := Ground.phase }, { on := 2, ground := Ground.phase }, { on := 3, ground := Ground.phase }, { on := 4, ground := Ground.phase }, { on := 5, ground := Ground.phase }, { on := 6, ground := Ground.phase }, { on := 7, ground := Ground.phase }, { on := 8, ground := Ground.phase }, { on := 9, ground := Ground.phase }, { on := 10, ground := Ground.phase }, { on := 11, ground := Ground.phase }], guard := none }) (v := ?v12x187) rfl (by kernel_rfl) (by kernel_rfl) (by kernel_rfl) (fun _ _ _ h => h) (Or.inl ⟨by rfl, ?hy12x187⟩) ?rest12x187
            case hy12x187 => (intro w; (first | (go_simp; with_reducible rfl) | go_simp))
            try simp only [Act.put, List.setIfInBounds_toArray, List.set_cons_zero, List.set_cons_succ]
            refine wpAny_take (i := 13) (oi := { dst := some 46, op := Op.fieldAddr 97 (Operand.tmp 45) 0, type := 0, pos := "free.go:63", after := #[{ on := 12, ground := Ground.data }, { on := 0, ground := Ground.phase }, { on := 1, ground := Ground.phase }, { on := 2, ground := Ground.phase }, { on := 3, ground := Ground.phase }, { on := 4, ground := Ground.phase }, { on := 5, ground := Ground.phase }, { on := 6, ground := Ground.phase }, { on := 7, ground := Ground.phase }, { on := 8, ground := Ground.phase }, { on := 9, ground := Ground.phase }, { on := 10, ground := Ground.phase }, { on := 11, ground := Ground.phase }], guard := none }) (v := ?v13x188) rfl (by kernel_rfl) (by kernel_rfl) (by kernel_rfl) (fun _ _ _ h => h) (Or.inl ⟨by rfl, ?hy13x188⟩) ?rest13x188
            case hy13x188 => (intro w; (first | (go_simp; with_reducible rfl) | go_simp))
            try simp only [Act.put, List.setIfInBounds_toArray, List.set_cons_zero, List.set_cons_succ]
            refine wpAny_ready (rs := [14]) (by kernel_rfl) (by simp) ?_
            refine AllReady.cons (o := { dst := none, op := Op.store 93 (Operand.tmp 46) (Operand.tmp 44), type := 0, pos := "free.go:63", after := #[{ on := 13, ground := Ground.data }, { on := 11, ground := Ground.data }, { on := 11, ground := Ground.chain }, { on := 0, ground := Ground.phase }, { on := 1, ground := Ground.phase }, { on := 2, ground := Ground.phase }, { on := 3, ground := Ground.phase }, { on := 4, ground := Ground.phase }, { on := 5, ground := Ground.phase }, { on := 6, ground := Ground.phase }, { on := 7, ground := Ground.phase }, { on := 8, ground := Ground.phase }, { on := 9, ground := Ground.phase }, { on := 10, ground := Ground.phase }, { on := 11, ground := Ground.phase }], guard := none }) rfl (fun K hK => ?_) AllReady.nil
            go_simp
            refine hK _ _ ?_
            clear hK K
            try simp only [Act.put, List.setIfInBounds_toArray, List.set_cons_zero, List.set_cons_succ]
            refine wpAny_done (by kernel_rfl) ?_ _
            go_wp2
            go_ret
            have hgo := HG6.out.trans HG7.out
            refine ⟨l1, OwL l1 pw1 pr1 _ _, rfl, ⟨pw1, pr1, _, _, ms, R, A, B, HM7.out, H2.out, H3.out, fun k => Iff.rfl⟩, fun k hk => ?_, HD3.out.trans (hgo.mv.below HD3.out.size (fun k hk => Q3.out k (by exact hk)))⟩
            rcases hgo.own k hk with h | h
            · exact Q3.out k h
            · exact Nat.le_trans HD3.out.size h
          · skip
            go_simp
            refine hK _ _ ?_
            clear hK K
            try simp only [Act.put, List.setIfInBounds_toArray, List.set_cons_zero, List.set_cons_succ]
            refine wpAny_take (i := 8) (oi := { dst := some 41, op := Op.nilCheck (Operand.tmp 40), type := 0, pos := "free.go:63", after := #[{ on := 7, ground := Ground.data }], guard := none }) (v := ?v8x189) rfl (by kernel_rfl) (by kernel_rfl) (by kernel_rfl) (fun _ _ _ h => h) (Or.inl ⟨by rfl, ?hy8x189⟩) ?rest8x189
            case hy8x189 => (intro w; (first | (go_simp; with_reducible rfl) | go_simp))
            try simp only [Act.put, List.setIfInBounds_toArray, List.set_cons_zero, List.set_cons_succ]
            refine wpAny_take (i := 9) (oi := { dst := some 42, op := Op.fieldAddr 97 (Operand.tmp 41) 0, type := 0, pos := "free.go:63", after := #[{ on := 8, ground := Ground.data }], guard := none }) (v := ?v9x190) rfl (by kernel_rfl) (by kernel_rfl) (by kernel_rfl) (fun _ _ _ h => h) (Or.inl ⟨by rfl, ?hy9x190⟩) ?rest9x190
            case hy9x190 => (intro w; (first | (go_simp; with_reducible rfl) | go_simp))
            try simp only [Act.put, List.setIfInBounds_toArray, List.set_cons_zero, List.set_cons_succ]
            refine wpAny_ready (rs := [3, 10]) (by kernel_rfl) (by simp) ?_
            refine AllReady.cons (o := { dst := some 36, op := Op.load 73 (Operand.tmp 35), type := 73, pos := "free.go:63", after := #[{ on := 2, ground := Ground.data }], guard := none }) rfl (fun K hK => ?_) (AllReady.cons (o := { dst := some 43, op := Op.load 93 (Operand.tmp 42), type := 93, pos := "free.go:63", after := #[{ on := 9, ground := Ground.data }], guard := none }) rfl (fun K hK => ?_) AllReady.nil)
            · skip
              go_simp
              refine hK _ _ ?_
              clear hK K
              try simp only [Act.put, List.setIfInBounds_toArray, List.set_cons_zero, List.set_cons_succ]
              refine wpAny_ready (rs := [10]) (by kernel_rfl) (by simp) ?_
              refine AllReady.cons (o := { dst := some 43, op := Op.load 93 (Operand.tmp 42), type := 93, pos := "free.go:63", after := #[{ on := 9, ground := Ground.data }], guard := none }) rfl (fun K hK => ?_) AllReady.nil
              go_simp
              refine hK _ _ ?_
              clear hK K
              try simp only [Act.put, List.setIfInBounds_toArray, List.set_cons_zero, List.set_cons_succ]
              refine wpAny_ready (rs := [11]) (by kernel_rfl) (by simp) ?_
              refine AllReady.cons (o := { dst := some 44, op := Op.call { callee := Callee.value (Operand.func 34), args := #[Operand.tmp 43], argTypes := #[93] }, type := 93, pos := "free.go:63", after := #[{ on := 10, ground := Ground.data }], guard := none }) rfl (fun K hK => ?_) AllReady.nil
              go_simp
              refine (sclone_any vr A HL5.out.rd.row hla).mono ?_
              rintro e w6 ⟨v6, rfl, s1, s2, s3⟩
              obtain ⟨ya, yc, rfl⟩ := own_slice2 s1
              have m7 := HN5.out.newR s3 s1 s2 H1.out.hr
              have HM7 := hide m7.1
              have HG7 := hide m7.2
              have hM6 := HN5.out.below s3
              obtain ⟨-, -, -, b2'⟩ := hM6.c
              have z0 := hM6.rd.fz 0
              have z1 := hM6.rd.c0
              clear s1 s2 s3 m7 hM6 a2 a4 b2
              go_simp
              refine hK _ _ ?_
              clear hK K
              try simp only [Act.put, List.setIfInBounds_toArray, List.set_cons_zero, List.set_cons_succ]
              refine wpAny_take (i := 12) (oi := { dst := some 45, op := Op.nilCheck (Operand.tmp 36), type := 0, pos := "free.go:63", after := #[{ on := 3, ground := Ground.data }, { on := 0, ground := Ground.phase }, { on := 1, ground := Ground.phase }, { on := 2, ground := Ground.phase }, { on := 3, ground := Ground.phase }, { on := 4, ground := Ground.phase }, { on := 5, ground := Ground.phase }, { on := 6, ground := Ground.phase }, { on := 7, ground := Ground.phase }, { on := 8, ground := Ground.phase }, { on := 9, ground := Ground.phase }, { on := 10, ground := Ground.phase }, { on := 11, ground := Ground.phase }], guard := none }) (v := ?v12x191) rfl (by kernel_rfl) (by kernel_rfl) (by kernel_rfl) (fun _ _ _ h => h) (Or.inl ⟨by rfl, ?hy12x191⟩) ?rest12x191
              case hy12x191 => (intro w; (first | (go_simp; with_reducible rfl) | go_simp))
              try simp only [Act.put, List.setIfInBounds_toArray, List.set_cons_zero, List.set_cons_succ]
              refine wpAny_take (i := 13) (oi := { dst := some 46, op := Op.fieldAddr 97 (Operand.tmp 45) 0, type := 0, pos := "free.go:63", after := #[{ on := 12, ground := Ground.data }, { on := 0, ground := Ground.phase }, { on := 1, ground := Ground.phase }, { on := 2, ground := Ground.phase }, { on := 3, ground := Ground.phase }, { on := 4, ground := Ground.phase }, { on := 5, ground := Ground.phase }, { on := 6, ground := Ground.phase }, { on := 7, ground := Ground.phase }, { on := 8, ground := Ground.phase }, { on := 9, ground := Ground.phase }, { on := 10, ground := Ground.phase }, { on := 11, ground := Ground.phase }], guard := none }) (v := ?v13x192) rfl (by kernel_rfl) (by kernel_rfl) (by kernel_rfl) (fun _ _ _ h => h) (Or.inl ⟨by rfl, ?hy13x192⟩) ?rest13x192
              case hy13x192 => (intro w; (first | (go_simp; with_reducible rfl) | go_simp))
              try simp only [Act.put, List.setIfInBounds_toArray, List.set_cons_zero, List.set_cons_succ]
              refine wpAny_ready (rs := [14]) (by kernel_rfl) (by simp) ?_
              refine AllReady.cons (o := { dst := none, op := Op.store 93 (Operand.tmp 46) (Operand.tmp 44), type := 0, pos := "free.go:63", after := #[{ on := 13, ground := Ground.data }, { on := 11, ground := Ground.data }, { on := 11, ground := Ground.chain }, { on := 0, ground := Ground.phase }, { on := 1, ground := Ground.phase }, { on := 2, ground := Ground.phase }, { on := 3, ground := Ground.phase }, { on := 4, ground := Ground.phase }, { on := 5, ground := Ground.phase }, { on := 6, ground := Ground.phase }, { on := 7, ground := Ground.phase }, { on := 8, ground := Ground.phase }, { on := 9, ground := Ground.phase }, { on := 10, ground := Ground.phase }, { on := 11, ground := Ground.phase }], guard := none }) rfl (fun K hK => ?_) AllReady.nil
              go_simp
              refine hK _ _ ?_
              clear hK K
              try simp only [Act.put, List.setIfInBounds_toArray, List.set_cons_zero, List.set_cons_succ]
              refine wpAny_done (by kernel_rfl) ?_ _
              go_wp2
              go_ret
              have hgo := HG6.out.trans HG7.out
              refine ⟨l1, OwL l1 pw1 pr1 _ _, rfl, ⟨pw1, pr1, _, _, ms, R, A, B, HM7.out, H2.out, H3.out, fun k => Iff.rfl⟩, fun k hk => ?_, HD3.out.trans (hgo.mv.below HD3.out.size (fun k hk => Q3.out k (by exact hk)))⟩
              rcases hgo.own k hk with h | h
              · exact Q3.out k h
              · exact Nat.le_trans HD3.out.size h
            · skip
              go_simp
              refine hK _ _ ?_
              clear hK K
              try simp only [Act.put, List.setIfInBounds_toArray, List.set_cons_zero, List.set_cons_succ]
              refine wpAny_ready (rs := [3, 11]) (by kernel_rfl) (by simp) ?_
              refine AllReady.cons (o := { dst := some 36, op := Op.load 73 (Operand.tmp 35), type := 73, pos := "free.go:63", after := #[{ on := 2, ground := Ground.data }], guard := none }) rfl (fun K hK => ?_) (AllReady.cons (o := { dst := some 44, op := Op.call { callee := Callee.value (Operand.func 34), args := #[Operand.tmp 43], argTypes := #[93] }, type := 93, pos := "free.go:63", after := #[{ on := 10, ground := Ground.data }], guard := none }) rfl (fun K hK => ?_) AllReady.nil)
              · skip
                go_simp
                refine hK _ _ ?_
                clear hK K
                try simp only [Act.put, List.setIfInBounds_toArray, List.set_cons_zero, List.set_cons_succ]
                refine wpAny_ready (rs := [11]) (by kernel_rfl) (by simp) ?_
                refine AllReady.cons (o := { dst := some 44, op := Op.call { callee := Callee.value (Operand.func 34), args := #[Operand.tmp 43], argTypes := #[93] }, type := 93, pos := "free.go:63", after := #[{ on := 10, ground := Ground.data }], guard := none }) rfl (fun K hK => ?_) AllReady.nil
                go_simp
                refine (sclone_any vr A HL5.out.rd.row hla).mono ?_
                rintro e w6 ⟨v6, rfl, s1, s2, s3⟩
                obtain ⟨ya, yc, rfl⟩ := own_slice2 s1
                have m7 := HN5.out.newR s3 s1 s2 H1.out.hr
                have HM7 := hide m7.1
                have HG7 := hide m7.2
                have hM6 := HN5.out.below s3
                obtain ⟨-, -, -, b2'⟩ := hM6.c
                have z0 := hM6.rd.fz 0
                have z1 := hM6.rd.c0
                clear s1 s2 s3 m7 hM6 a2 a4 b2
                go_simp
                refine hK _ _ ?_
                clear hK K
                try simp only [Act.put, List.setIfInBounds_toArray, List.set_cons_zero, List.set_cons_succ]
                refine wpAny_take (i := 12) (oi := { dst := some 45, op := Op.nilCheck (Operand.tmp 36), type := 0, pos := "free.go:63", after := #[{ on := 3, ground := Ground.data }, { on := 0, ground := Ground.phase }, { on := 1, ground := Ground.phase }, { on := 2, ground := Ground.phase }, { on := 3, ground := Ground.phase }, { on := 4, ground := Ground.phase }, { on := 5, ground := Ground.phase }, { on := 6, ground := Ground.phase }, { on := 7, ground := Ground.phase }, { on := 8, ground := Ground.phase }, { on := 9, ground := Ground.phase }, { on := 10, ground := Ground.phase }, { on := 11, ground := Ground.phase }], guard := none }) (v := ?v12x193) rfl (by kernel_rfl) (by kernel_rfl) (by kernel_rfl) (fun _ _ _ h => h) (Or.inl ⟨by rfl, ?hy12x193⟩) ?rest12x193
                case hy12x193 => (intro w; (first | (go_simp; with_reducible rfl) | go_simp))
                try simp only [Act.put, List.setIfInBounds_toArray, List.set_cons_zero, List.set_cons_succ]
                refine wpAny_take (i := 13) (oi := { dst := some 46, op := Op.fieldAddr 97 (Operand.tmp 45) 0, type := 0, pos := "free.go:63", after := #[{ on := 12, ground := Ground.data }, { on := 0, ground := Ground.phase }, { on := 1, ground := Ground.phase }, { on := 2, ground := Ground.phase }, { on := 3, ground := Ground.phase }, { on := 4, ground := Ground.phase }, { on := 5, ground := Ground.phase }, { on := 6, ground := Ground.phase }, { on := 7, ground := Ground.phase }, { on := 8, ground := Ground.phase }, { on := 9, ground := Ground.phase }, { on := 10, ground := Ground.phase }, { on := 11, ground := Ground.phase }], guard := none }) (v := ?v13x194) rfl (by kernel_rfl) (by kernel_rfl) (by kernel_rfl) (fun _ _ _ h => h) (Or.inl ⟨by rfl, ?hy13x194⟩) ?rest13x194
                case hy13x194 => (intro w; (first | (go_simp; with_reducible rfl) | go_simp))
                try simp only [Act.put, List.setIfInBounds_toArray, List.set_cons_zero, List.set_cons_succ]
                refine wpAny_ready (rs := [14]) (by kernel_rfl) (by simp) ?_
                refine AllReady.cons (o := { dst := none, op := Op.store 93 (Operand.tmp 46) (Operand.tmp 44), type := 0, pos := "free.go:63", after := #[{ on := 13, ground := Ground.data }, { on := 11, ground := Ground.data }, { on := 11, ground := Ground.chain }, { on := 0, ground := Ground.phase }, { on := 1, ground := Ground.phase }, { on := 2, ground := Ground.phase }, { on := 3, ground := Ground.phase }, { on := 4, ground := Ground.phase }, { on := 5, ground := Ground.phase }, { on := 6, ground := Ground.phase }, { on := 7, ground := Ground.phase }, { on := 8, ground := Ground.phase }, { on := 9, ground := Ground.phase }, { on := 10, ground := Ground.phase }, { on := 11, ground := Ground.phase }], guard := none }) rfl (fun K hK => ?_) AllReady.nil
                go_simp
                refine hK _ _ ?_
                clear hK K
                try simp only [Act.put, List.setIfInBounds_toArray, List.set_cons_zero, List.set_cons_succ]
                refine wpAny_done (by kernel_rfl) ?_ _
                go_wp2
                go_ret
                have hgo := HG6.out.trans HG7.out
                refine ⟨l1, OwL l1 pw1 pr1 _ _, rfl, ⟨pw1, pr1, _, _, ms, R, A, B, HM7.out, H2.out, H3.out, fun k => Iff.rfl⟩, fun k hk => ?_, HD3.out.trans (hgo.mv.below HD3.out.size (fun k hk => Q3.out k (by exact hk)))⟩
                rcases hgo.own k hk with h | h
                · exact Q3.out k h
                · exact Nat.le_trans HD3.out.size h
              · skip
                go_simp
                refine (sclone_any vr A HL5.out.rd.row hla).mono ?_
                rintro e w6 ⟨v6, rfl, s1, s2, s3⟩
                obtain ⟨ya, yc, rfl⟩ := own_slice2 s1
                have m7 := HN5.out.newR s3 s1 s2 H1.out.hr
                have HM7 := hide m7.1
                have HG7 := hide m7.2
                have hM6 := HN5.out.below s3
                obtain ⟨-, -, -, b2'⟩ := hM6.c
                have z0 := hM6.rd.fz 0
                have z1 := hM6.rd.c0
                clear s1 s2 s3 m7 hM6 a2 a4 b2
                go_simp
                refine hK _ _ ?_
                clear hK K
                try simp only [Act.put, List.setIfInBounds_toArray, List.set_cons_zero, List.set_cons_succ]
                refine wpAny_ready (rs := [3]) (by kernel_rfl) (by simp) ?_
                refine AllReady.cons (o := { dst := some 36, op := Op.load 73 (Operand.tmp 35), type := 73, pos := "free.go:63", after := #[{ on := 2, ground := Ground.data }], guard := none }) rfl (fun K hK => ?_) AllReady.nil
                go_simp
                refine hK _ _ ?_
                clear hK K
                try simp only [Act.put, List.setIfInBounds_toArray, List.set_cons_zero, List.set_cons_succ]
                refine wpAny_take (i := 12) (oi := { dst := some 45, op := Op.nilCheck (Operand.tmp 36), type := 0, pos := "free.go:63", after := #[{ on := 3, ground := Ground.data }, { on := 0, ground := Ground.phase }, { on := 1, ground := Ground.phase }, { on := 2, ground := Ground.phase }, { on := 3, ground := Ground.phase }, { on := 4, ground := Ground.phase }, { on := 5, ground := Ground.phase }, { on := 6, ground := Ground.phase }, { on := 7, ground := Ground.phase }, { on := 8, ground := Ground.phase }, { on := 9, ground := Ground.phase }, { on := 10, ground := Ground.phase }, { on := 11, ground := Ground.phase }], guard := none }) (v := ?v12x195) rfl (by kernel_rfl) (by kernel_rfl) (by kernel_rfl) (fun _ _ _ h => h) (Or.inl ⟨by rfl, ?hy12x195⟩) ?rest12x195
                case hy12x195 => (intro w; (first | (go_simp; with_reducible rfl) | go_simp))
                try simp only [Act.put, List.setIfInBounds_toArray, List.set_cons_zero, List.set_cons_succ]
                refine wpAny_take (i := 13) (oi := { dst := some 46, op := Op.fieldAddr 97 (Operand.tmp 45) 0, type := 0, pos := "free.go:63", after := #[{ on := 12, ground := Ground.data }, { on := 0, ground := Ground.phase }, { on := 1, ground := Ground.phase }, { on := 2, ground := Ground.phase }, { on := 3, ground := Ground.phase }, { on := 4, ground := Ground.phase }, { on := 5, ground := Ground.phase }, { on := 6, ground := Ground.phase }, { on := 7, ground := Ground.phase }, { on := 8, ground := Ground.phase }, { on := 9, ground := Ground.phase }, { on := 10, ground := Ground.phase }, { on := 11, ground := Ground.phase }], guard := none }) (v := ?v13x196) rfl (by kernel_rfl) (by kernel_rfl) (by kernel_rfl) (fun _ _ _ h => h) (Or.inl ⟨by rfl, ?hy13x196⟩) ?rest13x196
                case hy13x196 => (intro w; (first | (go_simp; with_reducible rfl) | go_simp))
                try simp only [Act.put, List.setIfInBounds_toArray, List.set_cons_zero, List.set_cons_succ]
                refine wpAny_ready (rs := [14]) (by kernel_rfl) (by simp) ?_
                refine AllReady.cons (o := { dst := none, op := Op.store 93 (Operand.tmp 46) (Operand.tmp 44), type := 0, pos := "free.go:63", after := #[{ on := 13, ground := Ground.data }, { on := 11, ground := Ground.data }, { on := 11, ground := Ground.chain }, { on := 0, ground := Ground.phase }, { on := 1, ground := Ground.phase }, { on := 2, ground := Ground.phase }, { on := 3, ground := Ground.phase }, { on := 4, ground := Ground.phase }, { on := 5, ground := Ground.phase }, { on := 6, ground := Ground.phase }, { on := 7, ground := Ground.phase }, { on := 8, ground := Ground.phase }, { on := 9, ground := Ground.phase }, { on := 10, ground := Ground.phase }, { on := 11, ground := Ground.phase }], guard := none }) rfl (fun K hK => ?_) AllReady.nil
                go_simp
                refine hK _ _ ?_
                clear hK K
                try simp only [Act.put, List.setIfInBounds_toArray, List.set_cons_zero, List.set_cons_succ]
                refine wpAny_done (by kernel_rfl) ?_ _
                go_wp2
                go_ret
                have hgo := HG6.out.trans HG7.out
                refine ⟨l1, OwL l1 pw1 pr1 _ _, rfl, ⟨pw1, pr1, _, _, ms, R, A, B, HM7.out, H2.out, H3.out, fun k => Iff.rfl⟩, fun k hk => ?_, HD3.out.trans (hgo.mv.below HD3.out.size (fun k hk => Q3.out k (by exact hk)))⟩
                rcases hgo.own k hk with h | h
                · exact Q3.out k h
                · exact Nat.le_trans HD3.out.size h
end Go.Proofs.YtlahkeapfcfbbaaDoor
