/- The Go function CodeOne answers true for all bytes and all two numbers that are handed in, and leaves them as they were: bytes that are read as a varint are what that number is written as, and of two numbers the greater one is never shorter. No condition. -/
import Derived.Test.YtobkmjkcbihfbaaG
import Derived.RegionTactic
namespace Go.Proofs.Ytobkmjkcbihfbaa.One
open Go.ChangeShapes Go.WideShapes Go.ChangeAt Go.RowKit
set_option linter.unusedVariables false

set_option maxHeartbeats 3200000 in
set_option maxRecDepth 1000000 in
theorem walk (a0 : Option Addr) (len0 cap0 : Nat) (z0 : List Int) (a1 : Int) (a2 : Int) (w : World) (w0 : IsRow .u8 w a0 len0 cap0 z0) (w1 : (Lit.int .u64 a1).wf = true) (w2 : (Lit.int .u64 a2).wf = true) :
    Calls Try.prog 6 #[.slice a0 len0 cap0, .int .u64 a1, .int .u64 a2] w fun e w' => e = .returned (.bool true) ∧ Below w.heap.size w w' := by
  have hb1 := bounds_u64 w1
  have hb2 := bounds_u64 w2
  obtain ⟨v, rfl⟩ := Int.eq_ofNat_of_zero_le hb1.1
  obtain ⟨u, rfl⟩ := Int.eq_ofNat_of_zero_le hb2.1
  obtain ⟨hrow, hbyt, hlen, hlc, hcm, hnil⟩ := isrow_row w0
  generalize z0.take len0 = bs at *
  clear w0 w1 w2
  unfold maxLen at hcm
  have HR := hide hrow
  have HB := hide hbyt
  have HL := hide hlen
  have HN := hide hnil
  clear hrow hbyt hlen hnil
  by_cases hbig : len0 ≤ 20000
  · go_enter Try.func6, Try.ntmps6
    go_wp2_with fail
    refine (read_any a0 len0 cap0 bs w HL.out HR.out HB.out (by omega)).mono ?_
    rintro e W1 ⟨q, ar, rfl, hrd, hq, har, hb⟩
    have D1 := hide hrd
    have Q1 := hide hq
    have A1 := hide har
    have B1 := hide hb
    have R1 := hide (HR.out.below hb)
    clear hrd hq har hb
    go_wp2_with fail
    refine (new_any _).mono ?_
    rintro e w1 ⟨rfl, rfl⟩
    go_wp2_with fail
    refine (new_any _).mono ?_
    rintro e w1 ⟨rfl, rfl⟩
    go_wp2_with fail
    refine (new_any _).mono ?_
    rintro e w1 ⟨rfl, rfl⟩
    have T1 := hide (Three.start w.heap.size w W1 B1.out B1.out.size)
    have D2 := hide (((D1.out.below (below_alloc _ (.cells #[.slice none 0 0] 88))).below (below_alloc _ (.cells #[.slice none 0 0] 88))).below (below_alloc _ (.cells #[.slice none 0 0] 88)))
    have R2 := hide (((R1.out.below (below_alloc _ (.cells #[.slice none 0 0] 88))).below (below_alloc _ (.cells #[.slice none 0 0] 88))).below (below_alloc _ (.cells #[.slice none 0 0] 88)))
    have HQ := hide D1.out.lt
    have HA := hide D1.out.inn
    generalize ((W1.alloc (.cells #[.slice none 0 0] 88)).alloc (.cells #[.slice none 0 0] 88)).alloc (.cells #[.slice none 0 0] 88) = W2 at *
    generalize ((W1.alloc (.cells #[.slice none 0 0] 88)).alloc (.cells #[.slice none 0 0] 88)).heap.size = pz at *
    have hpy : (W1.alloc (.cells #[.slice none 0 0] 88)).heap.size = W1.heap.size + 1 := by simp
    rw [hpy] at T1
    clear hpy
    generalize W1.heap.size + 1 = py at *
    generalize hpx : W1.heap.size = px at *
    clear hpx D1 R1 B1 A1
    generalize hB : w.heap.size = B at *
    have HBB := hide hB
    clear hB
    go_wp2_with fail
    refine (known_any _).mono ?_
    rintro e W3 ⟨rfl, hb⟩
    have T3 := hide (T1.out.on hb)
    have D3 := hide (D2.out.below hb)
    have R3 := hide (R2.out.below hb)
    clear hb T1 D2 R2
    go_wp2_with fail
    refine (rvarint_any q ar bs 0 0 W3 D3.out).mono ?_
    rintro e W4 ⟨rfl, hrd, hg⟩
    have T4 := hide (T3.out.grown hg Q1.out HQ.out)
    have HNm := hide (nm_ok bs 0)
    have HVl := hide (nm_lt bs 0 0 HB.out)
    rw [List.drop_zero] at HNm
    have HO := hide (vint_form bs HB.out)
    have HE := hide (vint_none bs HB.out)
    have HX := hide (vgo_err 0 0 bs)
    have D4 := hide hrd
    clear hrd hg T3 D3
    have hxe : (vgo 0 0 bs) = vint bs := rfl
    rw [hxe] at HX
    clear hxe
    rw [HNm.out] at D4 HVl ⊢
    clear HNm
    generalize (vint bs).1 = V at *
    generalize (vint bs).2.1 = M at *
    generalize (vint bs).2.2 = X at *
    by_cases hx : X = 0
    · obtain ⟨hM1, hM2, hM3⟩ := HO.out hx
      subst hx
      have HM3 := hide hM3
      have hV := HVl.out
      rw [HL.out] at hM2
      rw [tk_ok bs 0 M (by rw [HL.out]; omega)] at D4
      have D5 : Hid (Rd W4 q ar bs M 0) := by have := D4.out; rw [Nat.zero_add] at this; exact this
      clear hM3 HO HE HX HVl D4
      go_wp2_with fail
      refine (err_any q ar bs M 0 W4 D5.out).mono ?_
      rintro e W5 ⟨rfl, hb⟩
      have T5 := hide (T4.out.on hb)
      have D6 := hide (D5.out.below hb)
      clear hb T4 D5
      rw [show erAt 0 M = 0 from rfl]
      go_wp2_with fail
      refine (wvarint_any px V [] W5 T5.out.wx hV (by simp)).mono ?_
      rintro e W6 ⟨rfl, hw, ho⟩
      have D7 := hide (D6.out.high ho T5.out.nx HQ.out HA.out)
      have T6 := hide (T5.out.onX hw ho)
      rw [List.nil_append] at T6
      clear hw ho T5 D6
      go_wp2_with fail
      refine (left_any q ar bs M 0 W6 D7.out).mono ?_
      rintro e W7 ⟨rfl, hb⟩
      have T7 := hide (T6.out.on hb)
      clear hb T6 D7
      rw [HL.out]
      have hsub : (len0 : Int) - ((len0 - M : Nat) : Int) = (M : Int) := by omega
      go_wp2_with fail
      have h63 : M ≤ 9223372036854775807 := by omega
      have hs0 : (0 : Int) ≤ (M : Int) := by omega
      have hs1 : (M : Int) ≤ (cap0 : Int) := by omega
      have hM0 : ¬ ((M : Int) < 1) := by omega
      have hM9 : ¬ ((len0 : Int) < (M : Int)) := by omega
      have RT : Hid (Row W7 a0 (vb V)) := by
        have h := HR.out.below (HBB.out ▸ T7.out.below)
        have h2 := h.first M
        rw [HM3.out] at h2
        exact h2
      have LV : Hid ((vb V).length = M) := by rw [Hid, ← HM3.out, List.length_take, HL.out]; omega
      have hwx := hide T7.out.wx
      refine wp_region_any (by kernel_rfl) ?_
      change wpAny _ _ _ _ _ _ _ (World.drew _)
      refine wpAny_take (i := 0) (oi := { dst := some 56, op := Op.move (Operand.tmp 12), type := 71, pos := "law.go:214", after := #[], guard := none }) (v := ?v0) rfl (by kernel_rfl) (by kernel_rfl) (by kernel_rfl) (fun _ _ _ h => h) (Or.inl ⟨by rfl, ?hy0⟩) ?rest0
      case hy0 => (intro w; (first | (go_simp; with_reducible rfl) | go_simp))
      try simp only [Act.put, List.setIfInBounds_toArray, List.set_cons_zero, List.set_cons_succ]
      refine wpAny_take (i := 1) (oi := { dst := some 57, op := Op.binOp BinOp.eql 71 (Operand.tmp 56) (Operand.const (Value.int IntKind.u16 0)) 71, type := 4, pos := "law.go:214", after := #[{ on := 0, ground := Ground.data }], guard := none }) (v := ?v1) rfl (by kernel_rfl) (by kernel_rfl) (by kernel_rfl) (fun _ _ _ h => h) (Or.inl ⟨by rfl, ?hy1⟩) ?rest1
      case hy1 => (intro w; (first | (go_simp; with_reducible rfl) | go_simp))
      try simp only [Act.put, List.setIfInBounds_toArray, List.set_cons_zero, List.set_cons_succ]
      refine wpAny_take (i := 2) (oi := { dst := some 58, op := Op.move (Operand.tmp 57), type := 4, pos := "law.go:214", after := #[{ on := 1, ground := Ground.data }], guard := none }) (v := ?v2) rfl (by kernel_rfl) (by kernel_rfl) (by kernel_rfl) (fun _ _ _ h => h) (Or.inl ⟨by rfl, ?hy2⟩) ?rest2
      case hy2 => (intro w; (first | (go_simp; with_reducible rfl) | go_simp))
      try simp only [Act.put, List.setIfInBounds_toArray, List.set_cons_zero, List.set_cons_succ]
      refine wpAny_take (i := 3) (oi := { dst := some 59, op := Op.move (Operand.tmp 14), type := 3, pos := "law.go:214", after := #[{ on := 2, ground := Ground.guard }], guard := some (2, true) }) (v := ?v3) rfl (by kernel_rfl) (by kernel_rfl) (by kernel_rfl) (fun _ _ _ h => h) (Or.inl ⟨by rfl, ?hy3⟩) ?rest3
      case hy3 => (intro w; (first | (go_simp; with_reducible rfl) | go_simp))
      try simp only [Act.put, List.setIfInBounds_toArray, List.set_cons_zero, List.set_cons_succ]
      refine wpAny_take (i := 4) (oi := { dst := some 60, op := Op.binOp BinOp.lss 3 (Operand.tmp 59) (Operand.const (Value.int IntKind.i64 1)) 3, type := 4, pos := "law.go:214", after := #[{ on := 3, ground := Ground.data }, { on := 2, ground := Ground.guard }], guard := some (2, true) }) (v := ?v4) rfl (by kernel_rfl) (by kernel_rfl) (by kernel_rfl) (fun _ _ _ h => h) (Or.inl ⟨by rfl, ?hy4⟩) ?rest4
      case hy4 => (intro w; (first | (go_simp; with_reducible rfl) | go_simp))
      try simp only [Act.put, List.setIfInBounds_toArray, List.set_cons_zero, List.set_cons_succ]
      refine wpAny_take (i := 5) (oi := { dst := some 61, op := Op.move (Operand.tmp 60), type := 4, pos := "law.go:214", after := #[{ on := 4, ground := Ground.data }, { on := 2, ground := Ground.chain }, { on := 2, ground := Ground.guard }], guard := some (2, true) }) (v := ?v5) rfl (by kernel_rfl) (by kernel_rfl) (by kernel_rfl) (fun _ _ _ h => h) (Or.inl ⟨by rfl, ?hy5⟩) ?rest5
      case hy5 => (intro w; (first | (go_simp; with_reducible rfl) | go_simp))
      try simp only [Act.put, List.setIfInBounds_toArray, List.set_cons_zero, List.set_cons_succ]
      refine wpAny_take (i := 6) (oi := { dst := some 62, op := Op.move (Operand.tmp 14), type := 3, pos := "law.go:214", after := #[{ on := 5, ground := Ground.guard }], guard := some (5, false) }) (v := ?v6) rfl (by kernel_rfl) (by kernel_rfl) (by kernel_rfl) (fun _ _ _ h => h) (Or.inl ⟨by rfl, ?hy6⟩) ?rest6
      case hy6 => (intro w; (first | (go_simp; with_reducible rfl) | go_simp))
      try simp only [Act.put, List.setIfInBounds_toArray, List.set_cons_zero, List.set_cons_succ]
      refine wpAny_take (i := 7) (oi := { dst := some 63, op := Op.move (Operand.tmp 0), type := 27, pos := "law.go:214", after := #[{ on := 5, ground := Ground.guard }], guard := some (5, false) }) (v := ?v7) rfl (by kernel_rfl) (by kernel_rfl) (by kernel_rfl) (fun _ _ _ h => h) (Or.inl ⟨by rfl, ?hy7⟩) ?rest7
      case hy7 => (intro w; (first | (go_simp; with_reducible rfl) | go_simp))
      try simp only [Act.put, List.setIfInBounds_toArray, List.set_cons_zero, List.set_cons_succ]
      refine wpAny_take (i := 8) (oi := { dst := some 64, op := Op.call { callee := Callee.builtin Builtin.len, args := #[Operand.tmp 63], argTypes := #[27] }, type := 3, pos := "law.go:214", after := #[{ on := 7, ground := Ground.data }, { on := 5, ground := Ground.guard }], guard := some (5, false) }) (v := ?v8) rfl (by kernel_rfl) (by kernel_rfl) (by kernel_rfl) (fun _ _ _ h => h) (Or.inl ⟨by rfl, ?hy8⟩) ?rest8
      case hy8 => (intro w; (first | (go_simp; with_reducible rfl) | go_simp))
      try simp only [Act.put, List.setIfInBounds_toArray, List.set_cons_zero, List.set_cons_succ]
      refine wpAny_take (i := 9) (oi := { dst := some 65, op := Op.binOp BinOp.gtr 3 (Operand.tmp 62) (Operand.tmp 64) 3, type := 4, pos := "law.go:214", after := #[{ on := 6, ground := Ground.data }, { on := 8, ground := Ground.data }, { on := 5, ground := Ground.guard }], guard := some (5, false) }) (v := ?v9) rfl (by kernel_rfl) (by kernel_rfl) (by kernel_rfl) (fun _ _ _ h => h) (Or.inl ⟨by rfl, ?hy9⟩) ?rest9
      case hy9 => (intro w; (first | (go_simp; with_reducible rfl) | go_simp))
      try simp only [Act.put, List.setIfInBounds_toArray, List.set_cons_zero, List.set_cons_succ]
      refine wpAny_take (i := 10) (oi := { dst := some 66, op := Op.pick (Operand.tmp 61) (Operand.const (Value.bool true)) (Operand.tmp 65), type := 4, pos := "law.go:214", after := #[{ on := 5, ground := Ground.data }, { on := 9, ground := Ground.data }, { on := 2, ground := Ground.guard }], guard := some (2, true) }) (v := ?v10) rfl (by kernel_rfl) (by kernel_rfl) (by kernel_rfl) (fun _ _ _ h => h) (Or.inl ⟨by rfl, ?hy10⟩) ?rest10
      case hy10 => (intro w; (first | (go_simp; with_reducible rfl) | go_simp))
      try simp only [Act.put, List.setIfInBounds_toArray, List.set_cons_zero, List.set_cons_succ]
      refine wpAny_take (i := 11) (oi := { dst := some 67, op := Op.move (Operand.tmp 66), type := 4, pos := "law.go:214", after := #[{ on := 10, ground := Ground.data }, { on := 5, ground := Ground.chain }, { on := 2, ground := Ground.guard }], guard := some (2, true) }) (v := ?v11) rfl (by kernel_rfl) (by kernel_rfl) (by kernel_rfl) (fun _ _ _ h => h) (Or.inl ⟨by rfl, ?hy11⟩) ?rest11
      case hy11 => (intro w; (first | (go_simp; with_reducible rfl) | go_simp))
      try simp only [Act.put, List.setIfInBounds_toArray, List.set_cons_zero, List.set_cons_succ]
      refine wpAny_take (i := 12) (oi := { dst := some 68, op := Op.move (Operand.tmp 8), type := 24, pos := "law.go:214", after := #[{ on := 11, ground := Ground.guard }], guard := some (11, false) }) (v := ?v12) rfl (by kernel_rfl) (by kernel_rfl) (by kernel_rfl) (fun _ _ _ h => h) (Or.inl ⟨by rfl, ?hy12⟩) ?rest12
      case hy12 => (intro w; (first | (go_simp; with_reducible rfl) | go_simp))
      try simp only [Act.put, List.setIfInBounds_toArray, List.set_cons_zero, List.set_cons_succ]
      refine wpAny_take (i := 14) (oi := { dst := some 70, op := Op.move (Operand.tmp 0), type := 27, pos := "law.go:214", after := #[{ on := 11, ground := Ground.guard }], guard := some (11, false) }) (v := ?v14) rfl (by kernel_rfl) (by kernel_rfl) (by kernel_rfl) (fun _ _ _ h => h) (Or.inl ⟨by rfl, ?hy14⟩) ?rest14
      case hy14 => (intro w; (first | (go_simp; with_reducible rfl) | go_simp))
      try simp only [Act.put, List.setIfInBounds_toArray, List.set_cons_zero, List.set_cons_succ]
      refine wpAny_take (i := 15) (oi := { dst := some 71, op := Op.move (Operand.tmp 14), type := 3, pos := "law.go:214", after := #[{ on := 11, ground := Ground.guard }], guard := some (11, false) }) (v := ?v15) rfl (by kernel_rfl) (by kernel_rfl) (by kernel_rfl) (fun _ _ _ h => h) (Or.inl ⟨by rfl, ?hy15⟩) ?rest15
      case hy15 => (intro w; (first | (go_simp; with_reducible rfl) | go_simp))
      try simp only [Act.put, List.setIfInBounds_toArray, List.set_cons_zero, List.set_cons_succ]
      refine wpAny_take (i := 16) (oi := { dst := some 72, op := Op.slice 27 (Operand.tmp 70) none (some (Operand.tmp 71)) none, type := 27, pos := "law.go:214", after := #[{ on := 14, ground := Ground.data }, { on := 15, ground := Ground.data }, { on := 11, ground := Ground.guard }], guard := some (11, false) }) (v := ?v16) rfl (by kernel_rfl) (by kernel_rfl) (by kernel_rfl) (fun _ _ _ h => h) (Or.inl ⟨by rfl, ?hy16⟩) ?rest16
      case hy16 => (intro w; (first | (go_simp; with_reducible rfl) | go_simp))
      try simp only [Act.put, List.setIfInBounds_toArray, List.set_cons_zero, List.set_cons_succ]
      refine wpAny_ready (rs := [13]) (by kernel_rfl) (by simp) ?_
      refine AllReady.cons (o := { dst := some 69, op := Op.call { callee := Callee.value (Operand.func 17), args := #[Operand.tmp 68], argTypes := #[24] }, type := 27, pos := "law.go:214", after := #[{ on := 12, ground := Ground.data }, { on := 11, ground := Ground.chain }, { on := 11, ground := Ground.guard }], guard := some (11, false) }) rfl (fun K hK => ?_) AllReady.nil
      go_simp
      refine (wbytes_any px (vb V) _ hwx.out.drew (by rw [LV.out]; omega)).mono ?_
      rintro e wA ⟨a', rfl, hbo, -, hbb⟩
      rw [LV.out] at hbo
      rw [LV.out]
      go_simp
      refine hK _ _ ?_
      clear hK K
      try simp only [Act.put, List.setIfInBounds_toArray, List.set_cons_zero, List.set_cons_succ]
      refine wpAny_ready (rs := [17]) (by kernel_rfl) (by simp) ?_
      refine AllReady.cons (o := { dst := some 73, op := Op.call { callee := Callee.value (Operand.func 18), args := #[Operand.tmp 69, Operand.tmp 72], argTypes := #[27, 27] }, type := 4, pos := "law.go:214", after := #[{ on := 13, ground := Ground.data }, { on := 16, ground := Ground.data }, { on := 13, ground := Ground.chain }, { on := 11, ground := Ground.guard }], guard := some (11, false) }) rfl (fun K hK => ?_) AllReady.nil
      go_simp
      refine (same_any _ a0 M M cap0 (vb V) _ LV.out h63 hbo.row (RT.out.drew.below hbb)).mono ?_
      rintro e wB ⟨rfl, hbc⟩
      go_simp
      refine hK _ _ ?_
      clear hK K
      try simp only [Act.put, List.setIfInBounds_toArray, List.set_cons_zero, List.set_cons_succ]
      refine wpAny_take (i := 18) (oi := { dst := some 74, op := Op.unOp UnOp.not 4 (Operand.tmp 73), type := 4, pos := "law.go:214", after := #[{ on := 17, ground := Ground.data }, { on := 11, ground := Ground.guard }], guard := some (11, false) }) (v := ?v18) rfl (by kernel_rfl) (by kernel_rfl) (by kernel_rfl) (fun _ _ _ h => h) (Or.inl ⟨by rfl, ?hy18⟩) ?rest18
      case hy18 => (intro w; (first | (go_simp; with_reducible rfl) | go_simp))
      try simp only [Act.put, List.setIfInBounds_toArray, List.set_cons_zero, List.set_cons_succ]
      refine wpAny_take (i := 19) (oi := { dst := some 75, op := Op.pick (Operand.tmp 67) (Operand.const (Value.bool true)) (Operand.tmp 74), type := 4, pos := "law.go:214", after := #[{ on := 11, ground := Ground.data }, { on := 18, ground := Ground.data }, { on := 2, ground := Ground.guard }], guard := some (2, true) }) (v := ?v19) rfl (by kernel_rfl) (by kernel_rfl) (by kernel_rfl) (fun _ _ _ h => h) (Or.inl ⟨by rfl, ?hy19⟩) ?rest19
      case hy19 => (intro w; (first | (go_simp; with_reducible rfl) | go_simp))
      try simp only [Act.put, List.setIfInBounds_toArray, List.set_cons_zero, List.set_cons_succ]
      refine wpAny_take (i := 20) (oi := { dst := some 76, op := Op.pick (Operand.tmp 58) (Operand.tmp 75) (Operand.const (Value.bool false)), type := 4, pos := "law.go:214", after := #[{ on := 2, ground := Ground.data }, { on := 19, ground := Ground.data }], guard := none }) (v := ?v20) rfl (by kernel_rfl) (by kernel_rfl) (by kernel_rfl) (fun _ _ _ h => h) (Or.inl ⟨by rfl, ?hy20⟩) ?rest20
      case hy20 => (intro w; (first | (go_simp; with_reducible rfl) | go_simp))
      try simp only [Act.put, List.setIfInBounds_toArray, List.set_cons_zero, List.set_cons_succ]
      refine wpAny_take (i := 21) (oi := { dst := some 77, op := Op.move (Operand.tmp 76), type := 4, pos := "law.go:214", after := #[{ on := 20, ground := Ground.data }, { on := 17, ground := Ground.chain }], guard := none }) (v := ?v21) rfl (by kernel_rfl) (by kernel_rfl) (by kernel_rfl) (fun _ _ _ h => h) (Or.inl ⟨by rfl, ?hy21⟩) ?rest21
      case hy21 => (intro w; (first | (go_simp; with_reducible rfl) | go_simp))
      try simp only [Act.put, List.setIfInBounds_toArray, List.set_cons_zero, List.set_cons_succ]
      refine wpAny_take (i := 22) (oi := { dst := some 78, op := Op.move (Operand.tmp 12), type := 71, pos := "law.go:214", after := #[{ on := 21, ground := Ground.guard }], guard := some (21, false) }) (v := ?v22) rfl (by kernel_rfl) (by kernel_rfl) (by kernel_rfl) (fun _ _ _ h => h) (Or.inl ⟨by rfl, ?hy22⟩) ?rest22
      case hy22 => (intro w; (first | (go_simp; with_reducible rfl) | go_simp))
      try simp only [Act.put, List.setIfInBounds_toArray, List.set_cons_zero, List.set_cons_succ]
      refine wpAny_take (i := 23) (oi := { dst := some 79, op := Op.binOp BinOp.neq 71 (Operand.tmp 78) (Operand.const (Value.int IntKind.u16 0)) 71, type := 4, pos := "law.go:214", after := #[{ on := 22, ground := Ground.data }, { on := 21, ground := Ground.guard }], guard := some (21, false) }) (v := ?v23) rfl (by kernel_rfl) (by kernel_rfl) (by kernel_rfl) (fun _ _ _ h => h) (Or.inl ⟨by rfl, ?hy23⟩) ?rest23
      case hy23 => (intro w; (first | (go_simp; with_reducible rfl) | go_simp))
      try simp only [Act.put, List.setIfInBounds_toArray, List.set_cons_zero, List.set_cons_succ]
      refine wpAny_take (i := 24) (oi := { dst := some 80, op := Op.move (Operand.tmp 79), type := 4, pos := "law.go:214", after := #[{ on := 23, ground := Ground.data }, { on := 21, ground := Ground.chain }, { on := 21, ground := Ground.guard }], guard := some (21, false) }) (v := ?v24) rfl (by kernel_rfl) (by kernel_rfl) (by kernel_rfl) (fun _ _ _ h => h) (Or.inl ⟨by rfl, ?hy24⟩) ?rest24
      case hy24 => (intro w; (first | (go_simp; with_reducible rfl) | go_simp))
      try simp only [Act.put, List.setIfInBounds_toArray, List.set_cons_zero, List.set_cons_succ]
      refine wpAny_take (i := 25) (oi := { dst := some 81, op := Op.move (Operand.tmp 11), type := 55, pos := "law.go:214", after := #[{ on := 24, ground := Ground.guard }], guard := some (24, true) }) (v := undef) rfl (by kernel_rfl) (by kernel_rfl) (by kernel_rfl) (fun _ _ _ h => h) (Or.inr ⟨by rfl, rfl⟩) ?_
      try simp only [Act.put, List.setIfInBounds_toArray, List.set_cons_zero, List.set_cons_succ]
      refine wpAny_take (i := 26) (oi := { dst := some 82, op := Op.binOp BinOp.neq 55 (Operand.tmp 81) (Operand.const (Value.int IntKind.u64 0)) 55, type := 4, pos := "law.go:214", after := #[{ on := 25, ground := Ground.data }, { on := 24, ground := Ground.guard }], guard := some (24, true) }) (v := undef) rfl (by kernel_rfl) (by kernel_rfl) (by kernel_rfl) (fun _ _ _ h => h) (Or.inr ⟨by rfl, rfl⟩) ?_
      try simp only [Act.put, List.setIfInBounds_toArray, List.set_cons_zero, List.set_cons_succ]
      refine wpAny_take (i := 27) (oi := { dst := some 83, op := Op.move (Operand.tmp 82), type := 4, pos := "law.go:214", after := #[{ on := 26, ground := Ground.data }, { on := 24, ground := Ground.chain }, { on := 24, ground := Ground.guard }], guard := some (24, true) }) (v := undef) rfl (by kernel_rfl) (by kernel_rfl) (by kernel_rfl) (fun _ _ _ h => h) (Or.inr ⟨by rfl, rfl⟩) ?_
      try simp only [Act.put, List.setIfInBounds_toArray, List.set_cons_zero, List.set_cons_succ]
      refine wpAny_take (i := 28) (oi := { dst := some 84, op := Op.move (Operand.tmp 14), type := 3, pos := "law.go:214", after := #[{ on := 27, ground := Ground.guard }], guard := some (27, false) }) (v := undef) rfl (by kernel_rfl) (by kernel_rfl) (by kernel_rfl) (fun _ _ _ h => h) (Or.inr ⟨by rfl, rfl⟩) ?_
      try simp only [Act.put, List.setIfInBounds_toArray, List.set_cons_zero, List.set_cons_succ]
      refine wpAny_take (i := 29) (oi := { dst := some 85, op := Op.binOp BinOp.neq 3 (Operand.tmp 84) (Operand.const (Value.int IntKind.i64 0)) 3, type := 4, pos := "law.go:214", after := #[{ on := 28, ground := Ground.data }, { on := 27, ground := Ground.guard }], guard := some (27, false) }) (v := undef) rfl (by kernel_rfl) (by kernel_rfl) (by kernel_rfl) (fun _ _ _ h => h) (Or.inr ⟨by rfl, rfl⟩) ?_
      try simp only [Act.put, List.setIfInBounds_toArray, List.set_cons_zero, List.set_cons_succ]
      refine wpAny_take (i := 30) (oi := { dst := some 86, op := Op.pick (Operand.tmp 83) (Operand.const (Value.bool true)) (Operand.tmp 85), type := 4, pos := "law.go:214", after := #[{ on := 27, ground := Ground.data }, { on := 29, ground := Ground.data }, { on := 24, ground := Ground.guard }], guard := some (24, true) }) (v := undef) rfl (by kernel_rfl) (by kernel_rfl) (by kernel_rfl) (fun _ _ _ h => h) (Or.inr ⟨by rfl, rfl⟩) ?_
      try simp only [Act.put, List.setIfInBounds_toArray, List.set_cons_zero, List.set_cons_succ]
      refine wpAny_take (i := 31) (oi := { dst := some 87, op := Op.pick (Operand.tmp 80) (Operand.tmp 86) (Operand.const (Value.bool false)), type := 4, pos := "law.go:214", after := #[{ on := 24, ground := Ground.data }, { on := 30, ground := Ground.data }, { on := 21, ground := Ground.guard }], guard := some (21, false) }) (v := ?v31) rfl (by kernel_rfl) (by kernel_rfl) (by kernel_rfl) (fun _ _ _ h => h) (Or.inl ⟨by rfl, ?hy31⟩) ?rest31
      case hy31 => (intro w; (first | (go_simp; with_reducible rfl) | go_simp))
      try simp only [Act.put, List.setIfInBounds_toArray, List.set_cons_zero, List.set_cons_succ]
      refine wpAny_take (i := 32) (oi := { dst := some 88, op := Op.pick (Operand.tmp 77) (Operand.const (Value.bool true)) (Operand.tmp 87), type := 4, pos := "law.go:214", after := #[{ on := 21, ground := Ground.data }, { on := 31, ground := Ground.data }], guard := none }) (v := ?v32) rfl (by kernel_rfl) (by kernel_rfl) (by kernel_rfl) (fun _ _ _ h => h) (Or.inl ⟨by rfl, ?hy32⟩) ?rest32
      case hy32 => (intro w; (first | (go_simp; with_reducible rfl) | go_simp))
      try simp only [Act.put, List.setIfInBounds_toArray, List.set_cons_zero, List.set_cons_succ]
      refine wpAny_done (by kernel_rfl) ?_ _
      all_goals
        have T8 := hide ((T7.out.on ((Below.refl _ _).drew.trans hbb)).on hbc)
        clear T7 hbb hbc hbo
        rcases Nat.lt_trichotomy v u with hvu | rfl | hvu
        · go_wp2_with fail
          refine (wvarint_any py v [] _ T8.out.wy (by omega) (by simp)).mono ?_
          rintro e W9 ⟨rfl, hw, ho⟩
          have T9 := hide (T8.out.onY hw ho)
          rw [List.nil_append] at T9
          clear hw ho T8
          go_wp2_with fail
          refine (wvarint_any pz u [] _ T9.out.wz (by omega) (by simp)).mono ?_
          rintro e W10 ⟨rfl, hw, ho⟩
          have T10 := hide (T9.out.onZ hw ho)
          rw [List.nil_append] at T10
          clear hw ho T9
          have t2 : decide (((vb u).length : Int) ≤ 10) = true := by have := vb_ten u (by omega); simp; omega
          have hm := vb_mono v u (by omega)
          go_wp2_with fail
          refine (wlen_any py _ _ T10.out.wy).mono ?_
          rintro e W11 ⟨rfl, rfl⟩
          go_wp2_with fail
          refine (wlen_any pz _ _ T10.out.wz).mono ?_
          rintro e W11 ⟨rfl, rfl⟩
          go_wp2_with fail
          refine (wlen_any pz _ _ T10.out.wz).mono ?_
          rintro e W11 ⟨rfl, rfl⟩
          go_wp2
          go_ret
          exact ⟨rfl, by rw [HBB.out]; exact T10.out.below⟩
        · go_wp2_with fail
          refine (wvarint_any py v [] _ T8.out.wy (by omega) (by simp)).mono ?_
          rintro e W9 ⟨rfl, hw, ho⟩
          have T9 := hide (T8.out.onY hw ho)
          rw [List.nil_append] at T9
          clear hw ho T8
          go_wp2_with fail
          refine (wvarint_any pz v [] _ T9.out.wz (by omega) (by simp)).mono ?_
          rintro e W10 ⟨rfl, hw, ho⟩
          have T10 := hide (T9.out.onZ hw ho)
          rw [List.nil_append] at T10
          clear hw ho T9
          have t2 : decide (((vb v).length : Int) ≤ 10) = true := by have := vb_ten v (by omega); simp; omega
          have hm := vb_mono v v (by omega)
          go_wp2_with fail
          refine (wlen_any py _ _ T10.out.wy).mono ?_
          rintro e W11 ⟨rfl, rfl⟩
          go_wp2_with fail
          refine (wlen_any pz _ _ T10.out.wz).mono ?_
          rintro e W11 ⟨rfl, rfl⟩
          go_wp2_with fail
          refine (wlen_any pz _ _ T10.out.wz).mono ?_
          rintro e W11 ⟨rfl, rfl⟩
          go_wp2
          go_ret
          exact ⟨rfl, by rw [HBB.out]; exact T10.out.below⟩
        · go_wp2_with fail
          refine (wvarint_any py u [] _ T8.out.wy (by omega) (by simp)).mono ?_
          rintro e W9 ⟨rfl, hw, ho⟩
          have T9 := hide (T8.out.onY hw ho)
          rw [List.nil_append] at T9
          clear hw ho T8
          go_wp2_with fail
          refine (wvarint_any pz v [] _ T9.out.wz (by omega) (by simp)).mono ?_
          rintro e W10 ⟨rfl, hw, ho⟩
          have T10 := hide (T9.out.onZ hw ho)
          rw [List.nil_append] at T10
          clear hw ho T9
          have t2 : decide (((vb v).length : Int) ≤ 10) = true := by have := vb_ten v (by omega); simp; omega
          have hm := vb_mono u v (by omega)
          go_wp2_with fail
          refine (wlen_any py _ _ T10.out.wy).mono ?_
          rintro e W11 ⟨rfl, rfl⟩
          go_wp2_with fail
          refine (wlen_any pz _ _ T10.out.wz).mono ?_
          rintro e W11 ⟨rfl, rfl⟩
          go_wp2_with fail
          refine (wlen_any pz _ _ T10.out.wz).mono ?_
          rintro e W11 ⟨rfl, rfl⟩
          go_wp2
          go_ret
          exact ⟨rfl, by rw [HBB.out]; exact T10.out.below⟩
    · obtain ⟨hV0, hM0⟩ := HE.out hx
      subst hV0
      subst hM0
      have hX := HX.out
      have D5 : Hid (Rd W4 q ar bs 0 X) := by have := D4.out; rw [tk_err bs 0 X _ hx] at this; exact this
      have hne1 : ((X : Int) == 0) = false := by simp; omega
      have hne2 : ((X : Int) != 0) = true := by simp; omega
      clear HO HE HX HVl D4
      go_wp2_with fail
      refine (err_any q ar bs 0 X W4 D5.out).mono ?_
      rintro e W5 ⟨rfl, hb⟩
      have T5 := hide (T4.out.on hb)
      have D6 := hide (D5.out.below hb)
      clear hb T4 D5
      rw [show erAt X 0 = 0 from by unfold erAt; split <;> rfl]
      go_wp2_with fail
      refine (wvarint_any px 0 [] W5 T5.out.wx (by omega) (by simp)).mono ?_
      rintro e W6 ⟨rfl, hw, ho⟩
      have D7 := hide (D6.out.high ho T5.out.nx HQ.out HA.out)
      have T6 := hide (T5.out.onX hw ho)
      rw [List.nil_append] at T6
      clear hw ho T5 D6
      go_wp2_with fail
      refine (left_any q ar bs 0 X W6 D7.out).mono ?_
      rintro e W7 ⟨rfl, hb⟩
      have T7 := hide (T6.out.on hb)
      clear hb T6 D7
      rw [HL.out]
      have hsub : (len0 : Int) - ((len0 - 0 : Nat) : Int) = 0 := by omega
      go_wp2_with fail
      go_quiet (fail)
      have T8 := hide (T7.out.on (below_drewN (Below.refl _ _) nq))
      clear T7
      rcases Nat.lt_trichotomy v u with hvu | rfl | hvu
      · go_wp2_with fail
        refine (wvarint_any py v [] _ T8.out.wy (by omega) (by simp)).mono ?_
        rintro e W9 ⟨rfl, hw, ho⟩
        have T9 := hide (T8.out.onY hw ho)
        rw [List.nil_append] at T9
        clear hw ho T8
        go_wp2_with fail
        refine (wvarint_any pz u [] _ T9.out.wz (by omega) (by simp)).mono ?_
        rintro e W10 ⟨rfl, hw, ho⟩
        have T10 := hide (T9.out.onZ hw ho)
        rw [List.nil_append] at T10
        clear hw ho T9
        have t2 : decide (((vb u).length : Int) ≤ 10) = true := by have := vb_ten u (by omega); simp; omega
        have hm := vb_mono v u (by omega)
        go_wp2_with fail
        refine (wlen_any py _ _ T10.out.wy).mono ?_
        rintro e W11 ⟨rfl, rfl⟩
        go_wp2_with fail
        refine (wlen_any pz _ _ T10.out.wz).mono ?_
        rintro e W11 ⟨rfl, rfl⟩
        go_wp2_with fail
        refine (wlen_any pz _ _ T10.out.wz).mono ?_
        rintro e W11 ⟨rfl, rfl⟩
        go_wp2
        go_ret
        exact ⟨rfl, by rw [HBB.out]; exact T10.out.below⟩
      · go_wp2_with fail
        refine (wvarint_any py v [] _ T8.out.wy (by omega) (by simp)).mono ?_
        rintro e W9 ⟨rfl, hw, ho⟩
        have T9 := hide (T8.out.onY hw ho)
        rw [List.nil_append] at T9
        clear hw ho T8
        go_wp2_with fail
        refine (wvarint_any pz v [] _ T9.out.wz (by omega) (by simp)).mono ?_
        rintro e W10 ⟨rfl, hw, ho⟩
        have T10 := hide (T9.out.onZ hw ho)
        rw [List.nil_append] at T10
        clear hw ho T9
        have t2 : decide (((vb v).length : Int) ≤ 10) = true := by have := vb_ten v (by omega); simp; omega
        have hm := vb_mono v v (by omega)
        go_wp2_with fail
        refine (wlen_any py _ _ T10.out.wy).mono ?_
        rintro e W11 ⟨rfl, rfl⟩
        go_wp2_with fail
        refine (wlen_any pz _ _ T10.out.wz).mono ?_
        rintro e W11 ⟨rfl, rfl⟩
        go_wp2_with fail
        refine (wlen_any pz _ _ T10.out.wz).mono ?_
        rintro e W11 ⟨rfl, rfl⟩
        go_wp2
        go_ret
        exact ⟨rfl, by rw [HBB.out]; exact T10.out.below⟩
      · go_wp2_with fail
        refine (wvarint_any py u [] _ T8.out.wy (by omega) (by simp)).mono ?_
        rintro e W9 ⟨rfl, hw, ho⟩
        have T9 := hide (T8.out.onY hw ho)
        rw [List.nil_append] at T9
        clear hw ho T8
        go_wp2_with fail
        refine (wvarint_any pz v [] _ T9.out.wz (by omega) (by simp)).mono ?_
        rintro e W10 ⟨rfl, hw, ho⟩
        have T10 := hide (T9.out.onZ hw ho)
        rw [List.nil_append] at T10
        clear hw ho T9
        have t2 : decide (((vb v).length : Int) ≤ 10) = true := by have := vb_ten v (by omega); simp; omega
        have hm := vb_mono u v (by omega)
        go_wp2_with fail
        refine (wlen_any py _ _ T10.out.wy).mono ?_
        rintro e W11 ⟨rfl, rfl⟩
        go_wp2_with fail
        refine (wlen_any pz _ _ T10.out.wz).mono ?_
        rintro e W11 ⟨rfl, rfl⟩
        go_wp2_with fail
        refine (wlen_any pz _ _ T10.out.wz).mono ?_
        rintro e W11 ⟨rfl, rfl⟩
        go_wp2
        go_ret
        exact ⟨rfl, by rw [HBB.out]; exact T10.out.below⟩
  · go_enter Try.func6, Try.ntmps6
    go_wp2
    go_ret
    exact ⟨rfl, Below.refl _ _⟩

set_option maxRecDepth 100000 in
theorem lifted (os : Os) (started : os.Started) (H : Type) (enc : TypeId × Value → H) :
    ReturnsInHanded {} Try.checked os 6 .any (Rows.codeOneSpec.pre6 enc Try.prog Try.f6 Rows.codeOneRow.domain false) (Rows.codeOneSpec.post enc Try.prog Try.f6 false true false false) := by
  refine returnsInHanded_of_change (C := Try.checked) own started (by kernel_rfl) Try.func6
    (ChangeSpec.witness6 (enc := enc) (C := Try.checked) false ⟨#[], #[.slice none 0 0, .int .u64 0, .int .u64 0], []⟩ 8 (by kernel_rfl) (by kernel_rfl) (by kernel_rfl) (by kernel_rfl)) ?_
  intro W base args ds gs before hval0 hW hcnd _
  have hval : ∀ (j : Nat) t v, Try.f6.params[j]? = some t → args[j]? = some v → Value.okWide Try.prog W .any base t v := hval0
  have hW' := hW
  obtain ⟨p, q, hA0, hV, rfl, hfz, hnd⟩ := hW
  have hA : DataW.TrodAll enc Try.prog W 0 (fun _ => true) true Try.f6.params.toList args.toList ds p := hA0
  rw [Try.params6] at hA hval
  obtain ⟨v0, vs0, d0, ds0, p0, q0, hargs, rfl, rfl, h0, r0⟩ := trodAll_cons hA
  obtain ⟨v1, vs1, d1, ds1, p1, q1, rfl, rfl, rfl, h1, r1⟩ := trodAll_cons r0
  obtain ⟨v2, vs2, d2, ds2, p2, q2, rfl, rfl, rfl, h2, r2⟩ := trodAll_cons r1
  obtain ⟨rfl, rfl, rfl⟩ := trodAll_nil r2
  obtain rfl : args = #[v0, v1, v2] := by cases args; simp_all
  obtain ⟨rfl, rfl⟩ := trodVars_none hV
  obtain ⟨a0, len0, cap0, rfl⟩ := okWide_slice Try.underlying27 (hval 0 27 v0 rfl rfl)
  have k0 := h0
  have lt0 : ∀ x ∈ p0, x.block < W.heap.size := by obtain ⟨m, hm⟩ := k0; exact DataW.trod_lt m _ _ _ hm
  obtain ⟨z0, w0⟩ : ∃ zs, IsRow .u8 W a0 len0 cap0 zs := by
    obtain ⟨fuel, hf⟩ := h0
    rcases open_ints Try.underlying27 Try.underlying5 (by kernel_rfl) hf with ⟨hcs, _⟩ | ⟨x, l, c, zs, hcs, _, hl, hm, hz, _, hcell, hwz⟩
    · simp [Value.cells] at hcs
      obtain ⟨rfl, rfl, rfl⟩ := hcs
      exact ⟨[], .inl ⟨rfl, rfl, rfl, rfl⟩⟩
    · simp [Value.cells] at hcs
      obtain ⟨rfl, rfl, rfl⟩ := hcs
      exact ⟨zs, .inr ⟨_, rfl, hl, hm, by simpa using hz, hcell, hwz⟩⟩
  obtain ⟨a1, rfl, rfl, rfl, w1⟩ := open_int Try.underlying55 (hval 1 55 v1 rfl rfl) h1
  obtain ⟨a2, rfl, rfl, rfl, w2⟩ := open_int Try.underlying55 (hval 2 55 v2 rfl rfl) h2
  clear hA0 hval0
  refine (walk a0 len0 cap0 z0 a1 a2 W w0 w1 w2).mono fun e W' ⟨he, bel⟩ => ?_
  subst he
  exact ⟨_, rfl, _, _, _, [], _, [], hW', trodAll_mk1 (shut_bool Try.underlying4 _), (trodAll_cons_mk (Below.trod laidOut (by kernel_rfl) (of_decide_eq_true (by kernel_rfl)) k0 bel lt0) (trodAll_cons_mk (shut_int Try.underlying55 w1) (trodAll_cons_mk (shut_int Try.underlying55 w2) trodAll_mk0))), rfl, bel.frame _, fun h => by cases h⟩

theorem over : Rows.codeOneRow.holds Try.pinned (OpenSpec.ofChange Rows.codeOneSpec) :=
  OpenClaim.holds_of_wide 6 Try.f6 rfl rfl rfl rfl rfl rfl rfl ⟨rfl, rfl, rfl, rfl, rfl⟩ rfl rfl rfl rfl rfl (by kernel_rfl) Try.func6 (by kernel_rfl)
    (of_decide_eq_true (by kernel_rfl)) (by unfold Func.isWrapper; first | (rw [if_pos (by decide +kernel)]; kernel_rfl) | (rw [if_neg (by decide +kernel)]; exact ⟨rfl, rfl⟩))
    (fun os started H enc _ => lifted os started H enc)

end Go.Proofs.Ytobkmjkcbihfbaa.One
namespace Go.Proofs.Ytobkmjkcbihfbaa
theorem codeOne_holds : Rows.CodeOneSaid := One.over
#print axioms codeOne_holds
end Go.Proofs.Ytobkmjkcbihfbaa
