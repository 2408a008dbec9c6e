/- Contract of rising names. -/
import Derived.Test.YtegoeaofjnpehaaVG
import Derived.WalkLawsBesides
namespace Go.Proofs.Ytegoeaofjnpehaa
open Go.RowKit
set_option linter.unusedVariables false

/-- are the first k names ones, each above the one ahead? -/
def risK (ns : List ByteArray) (k : Nat) : Bool := (List.range k).all fun j => nmB (ns.getD j ⟨#[]⟩) && (decide (j = 0) || Op.bytesLess (ns.getD (j - 1) ⟨#[]⟩).toList (ns.getD j ⟨#[]⟩).toList)
theorem risK_succ (ns : List ByteArray) (k : Nat) : risK ns (k + 1) = (risK ns k && (nmB (ns.getD k ⟨#[]⟩) && (decide (k = 0) || Op.bytesLess (ns.getD (k - 1) ⟨#[]⟩).toList (ns.getD k ⟨#[]⟩).toList))) := by simp [risK, List.range_succ]
theorem risK_no (ns : List ByteArray) (k m : Nat) (h : risK ns (k + 1) = false) (hm : k + 1 ≤ m) : risK ns m = false := by
  rw [Bool.eq_false_iff] at h ⊢
  intro hf
  apply h
  simp only [risK, List.all_eq_true, List.mem_range] at hf ⊢
  exact fun j hj => hf j (by omega)
def ris (ns : List ByteArray) : Bool := risK ns ns.length
/-- a document's fields: names, and values of seven cells. -/
structure Flds (W : World) (a : Option Addr) (n₀ : Nat) (f : FL) : Prop where
  mem : f.Mem n₀ W a 0
  big : f.list.length ≤ 1000000
  txt : ∀ x ∈ f.list, x.1.size ≤ 1000000000
def FL.names (f : FL) : List ByteArray := f.list.map (·.1)
theorem FL.name_at (f : FL) (j : Nat) (x : ByteArray × T) (h : f.list[j]? = some x) : f.names.getD j ⟨#[]⟩ = x.1 := by
  simp [FL.names, List.getD_eq_getElem?_getD, h]

set_option maxHeartbeats 3200000 in
set_option maxRecDepth 1000000 in
theorem rising_any (a : Option Addr) (n₀ fc : Nat) (f : FL) (w : World) (hf : Flds w a n₀ f) (hn : n₀ ≤ w.heap.size) :
    Calls Try.prog 50 #[.slice a f.list.length fc] w fun e w' => e = .returned (.bool (ris f.names)) ∧ Below w.heap.size w w' := by
  have hbig := hf.big
  have HF := hide hf
  have HLn : Hid (f.names.length = f.list.length) := by simp [FL.names, Hid]
  clear hf
  go_enter Try.func50, Try.ntmps50
  go_wp2
  go_loopw [7] (fun i wr => ∃ k : Nat, k ≤ f.list.length ∧ i = .int .i64 (k : Int) ∧ risK f.names k = true ∧ Fr w.heap.size w wr) (fun i _ => f.list.length - (intOf i).toNat)
  case atStart => exact ⟨0, by omega, rfl, rfl, Fr.refl w⟩
  case round =>
    obtain ⟨k, hk, rfl, hr, hfr⟩ := hrel
    by_cases hlt : k < f.list.length
    · obtain ⟨⟨s, c⟩, hc⟩ : ∃ x, f.list[k]? = some x := ⟨_, List.getElem?_eq_getElem hlt⟩
      have hmem := HF.out.mem.on (hfr.below.mono hn)
      have hss := HF.out.txt (s, c) (List.mem_of_getElem? hc)
      have HNm := hide (f.name_at k (s, c) hc)
      have HSu := hide (risK_succ f.names k)
      have HNo := hide (risK_no f.names k f.names.length)
      rw [HNm.out] at HSu
      have HFr := hide hfr
      have HRk := hide hr
      cases c with
      | mk ck cbo cn ct cya cyc cy cla clc cl cfa cfc cf =>
      obtain ⟨b, o, rfl, hb, c8, c0, c1, c2, c3, c4, c5, c6⟩ := hmem.cells hc
      have HX := hide (hfr.alloc (.cells #[.string s, .int .u8 ck, .bool cbo, .int .i64 cn, .string ct, .slice cya cy.length cyc, .slice cla cl.list.length clc, .slice cfa cf.list.length cfc] 63))
      have hN := hide (fun W => name_any s W hss)
      clear hc hfr hr
      rcases Bool.eq_false_or_eq_true (nmB s) with hnm | hnm
      · by_cases hk0 : k = 0
        · subst hk0
          have HR : Hid (risK f.names (0 + 1) = true) := by rw [Hid, HSu.out, hnm]; simp [HRk.out]
          simp only [Nat.zero_mul, Nat.add_zero] at c8 c0 c1 c2 c3 c4 c5 c6
          clear HSu HNo
          go_wp2
          refine wp_region_any (by kernel_rfl) ?_
          change wpAny _ _ _ _ _ _ _ (World.drew _)
          refine wpAny_take (i := 0) (oi := { dst := some 12, op := Op.fieldAddr 63 (Operand.tmp 4) 0, type := 0, pos := "value.go:65", after := #[], guard := none }) (v := ?v0) rfl (by kernel_rfl) (by kernel_rfl) (by kernel_rfl) (fun _ _ _ h => h) (Or.inl ⟨by rfl, ?hy0⟩) ?rest0
          case hy0 => (intro w; (first | (go_simp; with_reducible rfl) | go_simp))
          try simp only [Act.put, List.setIfInBounds_toArray, List.set_cons_zero, List.set_cons_succ]
          refine wpAny_ready (rs := [1]) (by kernel_rfl) (by simp) ?_
          refine AllReady.cons (o := { dst := some 13, op := Op.load 9 (Operand.tmp 12), type := 9, pos := "value.go:65", after := #[{ on := 0, ground := Ground.data }], guard := none }) rfl (fun K hK => ?_) AllReady.nil
          go_simp
          refine hK _ _ ?_
          clear hK K
          try simp only [Act.put, List.setIfInBounds_toArray, List.set_cons_zero, List.set_cons_succ]
          refine wpAny_ready (rs := [2]) (by kernel_rfl) (by simp) ?_
          refine AllReady.cons (o := { dst := some 14, op := Op.call { callee := Callee.value (Operand.func 54), args := #[Operand.tmp 13], argTypes := #[9] }, type := 4, pos := "value.go:65", after := #[{ on := 1, ground := Ground.data }], guard := none }) rfl (fun K hK => ?_) AllReady.nil
          go_simp
          refine (hN.out _).mono ?_
          rintro e' W1 ⟨rfl, hb1⟩
          have HX1 := hide (HX.out.drew.on hb1)
          clear hb1
          rw [hnm]
          go_simp
          refine hK _ _ ?_
          clear hK K
          try simp only [Act.put, List.setIfInBounds_toArray, List.set_cons_zero, List.set_cons_succ]
          refine wpAny_take (i := 3) (oi := { dst := some 15, op := Op.unOp UnOp.not 4 (Operand.tmp 14), type := 4, pos := "value.go:65", after := #[{ on := 2, ground := Ground.data }], guard := none }) (v := ?v3) rfl (by kernel_rfl) (by kernel_rfl) (by kernel_rfl) (fun _ _ _ h => h) (Or.inl ⟨by rfl, ?hy3⟩) ?rest3
          case hy3 => (intro w; (first | (go_simp; with_reducible rfl) | go_simp))
          try simp only [Act.put, List.setIfInBounds_toArray, List.set_cons_zero, List.set_cons_succ]
          refine wpAny_take (i := 4) (oi := { dst := some 16, op := Op.move (Operand.tmp 15), type := 4, pos := "value.go:65", after := #[{ on := 3, ground := Ground.data }, { on := 2, ground := Ground.chain }], guard := none }) (v := ?v4) rfl (by kernel_rfl) (by kernel_rfl) (by kernel_rfl) (fun _ _ _ h => h) (Or.inl ⟨by rfl, ?hy4⟩) ?rest4
          case hy4 => (intro w; (first | (go_simp; with_reducible rfl) | go_simp))
          try simp only [Act.put, List.setIfInBounds_toArray, List.set_cons_zero, List.set_cons_succ]
          refine wpAny_take (i := 5) (oi := { dst := some 17, op := Op.move (Operand.tmp 3), type := 3, pos := "value.go:65", after := #[{ on := 4, ground := Ground.guard }], guard := some (4, false) }) (v := ?v5) rfl (by kernel_rfl) (by kernel_rfl) (by kernel_rfl) (fun _ _ _ h => h) (Or.inl ⟨by rfl, ?hy5⟩) ?rest5
          case hy5 => (intro w; (first | (go_simp; with_reducible rfl) | go_simp))
          try simp only [Act.put, List.setIfInBounds_toArray, List.set_cons_zero, List.set_cons_succ]
          refine wpAny_take (i := 6) (oi := { dst := some 18, op := Op.binOp BinOp.gtr 3 (Operand.tmp 17) (Operand.const (Value.int IntKind.i64 0)) 3, type := 4, pos := "value.go:65", after := #[{ on := 5, ground := Ground.data }, { on := 4, ground := Ground.guard }], guard := some (4, false) }) (v := ?v6) rfl (by kernel_rfl) (by kernel_rfl) (by kernel_rfl) (fun _ _ _ h => h) (Or.inl ⟨by rfl, ?hy6⟩) ?rest6
          case hy6 => (intro w; (first | (go_simp; with_reducible rfl) | go_simp))
          try simp only [Act.put, List.setIfInBounds_toArray, List.set_cons_zero, List.set_cons_succ]
          refine wpAny_take (i := 7) (oi := { dst := some 19, op := Op.move (Operand.tmp 18), type := 4, pos := "value.go:65", after := #[{ on := 6, ground := Ground.data }, { on := 4, ground := Ground.chain }, { on := 4, ground := Ground.guard }], guard := some (4, false) }) (v := ?v7) rfl (by kernel_rfl) (by kernel_rfl) (by kernel_rfl) (fun _ _ _ h => h) (Or.inl ⟨by rfl, ?hy7⟩) ?rest7
          case hy7 => (intro w; (first | (go_simp; with_reducible rfl) | go_simp))
          try simp only [Act.put, List.setIfInBounds_toArray, List.set_cons_zero, List.set_cons_succ]
          refine wpAny_take (i := 8) (oi := { dst := some 20, op := Op.move (Operand.tmp 0), type := 96, pos := "value.go:65", after := #[{ on := 7, ground := Ground.guard }], guard := some (7, true) }) (v := undef) rfl (by kernel_rfl) (by kernel_rfl) (by kernel_rfl) (fun _ _ _ h => h) (Or.inr ⟨by rfl, rfl⟩) ?_
          try simp only [Act.put, List.setIfInBounds_toArray, List.set_cons_zero, List.set_cons_succ]
          refine wpAny_take (i := 9) (oi := { dst := some 21, op := Op.move (Operand.tmp 3), type := 3, pos := "value.go:65", after := #[{ on := 7, ground := Ground.guard }], guard := some (7, true) }) (v := undef) rfl (by kernel_rfl) (by kernel_rfl) (by kernel_rfl) (fun _ _ _ h => h) (Or.inr ⟨by rfl, rfl⟩) ?_
          try simp only [Act.put, List.setIfInBounds_toArray, List.set_cons_zero, List.set_cons_succ]
          refine wpAny_take (i := 10) (oi := { dst := some 22, op := Op.binOp BinOp.sub 3 (Operand.tmp 21) (Operand.const (Value.int IntKind.i64 1)) 3, type := 3, pos := "value.go:65", after := #[{ on := 9, ground := Ground.data }, { on := 7, ground := Ground.guard }], guard := some (7, true) }) (v := undef) rfl (by kernel_rfl) (by kernel_rfl) (by kernel_rfl) (fun _ _ _ h => h) (Or.inr ⟨by rfl, rfl⟩) ?_
          try simp only [Act.put, List.setIfInBounds_toArray, List.set_cons_zero, List.set_cons_succ]
          refine wpAny_take (i := 11) (oi := { dst := some 23, op := Op.indexAddr 96 (Operand.tmp 20) (Operand.tmp 22), type := 0, pos := "value.go:65", after := #[{ on := 8, ground := Ground.data }, { on := 10, ground := Ground.data }, { on := 7, ground := Ground.guard }], guard := some (7, true) }) (v := undef) rfl (by kernel_rfl) (by kernel_rfl) (by kernel_rfl) (fun _ _ _ h => h) (Or.inr ⟨by rfl, rfl⟩) ?_
          try simp only [Act.put, List.setIfInBounds_toArray, List.set_cons_zero, List.set_cons_succ]
          refine wpAny_take (i := 12) (oi := { dst := some 24, op := Op.fieldAddr 63 (Operand.tmp 23) 0, type := 0, pos := "value.go:65", after := #[{ on := 11, ground := Ground.data }, { on := 7, ground := Ground.guard }], guard := some (7, true) }) (v := undef) rfl (by kernel_rfl) (by kernel_rfl) (by kernel_rfl) (fun _ _ _ h => h) (Or.inr ⟨by rfl, rfl⟩) ?_
          try simp only [Act.put, List.setIfInBounds_toArray, List.set_cons_zero, List.set_cons_succ]
          refine wpAny_take (i := 13) (oi := { dst := some 25, op := Op.load 9 (Operand.tmp 24), type := 9, pos := "value.go:65", after := #[{ on := 12, ground := Ground.data }, { on := 7, ground := Ground.guard }], guard := some (7, true) }) (v := undef) rfl (by kernel_rfl) (by kernel_rfl) (by kernel_rfl) (fun _ _ _ h => h) (Or.inr ⟨by rfl, rfl⟩) ?_
          try simp only [Act.put, List.setIfInBounds_toArray, List.set_cons_zero, List.set_cons_succ]
          refine wpAny_take (i := 14) (oi := { dst := some 26, op := Op.fieldAddr 63 (Operand.tmp 4) 0, type := 0, pos := "value.go:65", after := #[{ on := 7, ground := Ground.guard }], guard := some (7, true) }) (v := undef) rfl (by kernel_rfl) (by kernel_rfl) (by kernel_rfl) (fun _ _ _ h => h) (Or.inr ⟨by rfl, rfl⟩) ?_
          try simp only [Act.put, List.setIfInBounds_toArray, List.set_cons_zero, List.set_cons_succ]
          refine wpAny_take (i := 15) (oi := { dst := some 27, op := Op.load 9 (Operand.tmp 26), type := 9, pos := "value.go:65", after := #[{ on := 14, ground := Ground.data }, { on := 7, ground := Ground.guard }], guard := some (7, true) }) (v := undef) rfl (by kernel_rfl) (by kernel_rfl) (by kernel_rfl) (fun _ _ _ h => h) (Or.inr ⟨by rfl, rfl⟩) ?_
          try simp only [Act.put, List.setIfInBounds_toArray, List.set_cons_zero, List.set_cons_succ]
          refine wpAny_take (i := 16) (oi := { dst := some 28, op := Op.binOp BinOp.geq 9 (Operand.tmp 25) (Operand.tmp 27) 9, type := 4, pos := "value.go:65", after := #[{ on := 13, ground := Ground.data }, { on := 15, ground := Ground.data }, { on := 7, ground := Ground.guard }], guard := some (7, true) }) (v := undef) rfl (by kernel_rfl) (by kernel_rfl) (by kernel_rfl) (fun _ _ _ h => h) (Or.inr ⟨by rfl, rfl⟩) ?_
          try simp only [Act.put, List.setIfInBounds_toArray, List.set_cons_zero, List.set_cons_succ]
          refine wpAny_take (i := 17) (oi := { dst := some 29, op := Op.pick (Operand.tmp 19) (Operand.tmp 28) (Operand.const (Value.bool false)), type := 4, pos := "value.go:65", after := #[{ on := 7, ground := Ground.data }, { on := 16, ground := Ground.data }, { on := 4, ground := Ground.guard }], guard := some (4, false) }) (v := ?v17) rfl (by kernel_rfl) (by kernel_rfl) (by kernel_rfl) (fun _ _ _ h => h) (Or.inl ⟨by rfl, ?hy17⟩) ?rest17
          case hy17 => (intro w; (first | (go_simp; with_reducible rfl) | go_simp))
          try simp only [Act.put, List.setIfInBounds_toArray, List.set_cons_zero, List.set_cons_succ]
          refine wpAny_take (i := 18) (oi := { dst := some 30, op := Op.pick (Operand.tmp 16) (Operand.const (Value.bool true)) (Operand.tmp 29), type := 4, pos := "value.go:65", after := #[{ on := 4, ground := Ground.data }, { on := 17, ground := Ground.data }], guard := none }) (v := ?v18) rfl (by kernel_rfl) (by kernel_rfl) (by kernel_rfl) (fun _ _ _ h => h) (Or.inl ⟨by rfl, ?hy18⟩) ?rest18
          case hy18 => (intro w; (first | (go_simp; with_reducible rfl) | go_simp))
          try simp only [Act.put, List.setIfInBounds_toArray, List.set_cons_zero, List.set_cons_succ]
          refine wpAny_done (by kernel_rfl) ?_ _
          go_wp2
          go_roundw
          case rel => exact ⟨0 + 1, by omega, by go_num, HR.out, HX1.out⟩
          case measure => simp [intOf]; omega
        · obtain ⟨j, rfl⟩ : ∃ j, k = j + 1 := ⟨k - 1, by omega⟩
          obtain ⟨⟨s', c'⟩, hc'⟩ : ∃ x, f.list[j]? = some x := ⟨_, List.getElem?_eq_getElem (by omega)⟩
          have HNm' := hide (f.name_at j (s', c') hc')
          rw [show j + 1 - 1 = j by omega, HNm'.out] at HSu
          obtain ⟨b2, o2, e2, hb2, d8⟩ : ∃ b2 o2, some (⟨b, o, none⟩ : Addr) = some ⟨b2, o2, none⟩ ∧ b2 < n₀ ∧ wr.cell? ⟨b2, o2 + j * 8, none⟩ = some (.string s') := by
            cases c' with
            | mk ck cbo cn ct cya cyc cy cla clc cl cfa cfc cf =>
            obtain ⟨b2, o2, e2, hb2, d8, _⟩ := hmem.cells hc'
            exact ⟨b2, o2, e2, hb2, d8⟩
          cases e2
          have hbw : b < wr.heap.size := by have := HFr.out.size; omega
          have HXb := hide (heap_alloc_new wr (.cells #[.string s, .int .u8 ck, .bool cbo, .int .i64 cn, .string ct, .slice cya cy.length cyc, .slice cla cl.list.length clc, .slice cfa cf.list.length cfc] 63))
          have D8 : Hid ((wr.alloc (.cells #[.string s, .int .u8 ck, .bool cbo, .int .i64 cn, .string ct, .slice cya cy.length cyc, .slice cla cl.list.length clc, .slice cfa cf.list.length cfc] 63)).cell? ⟨b, o + j * 8, none⟩ = some (.string s')) := ((below_alloc wr (.cells #[.string s, .int .u8 ck, .bool cbo, .int .i64 cn, .string ct, .slice cya cy.length cyc, .slice cla cl.list.length clc, .slice cfa cf.list.length cfc] 63)).cell (p := ⟨b, o + j * 8, none⟩) hbw).trans d8
          have hk1 : decide ((0 : Int) < ((j + 1 : Nat) : Int)) = true := by simp
          have hjl : j < f.list.length := by omega
          have hjI : (j : Int) < (f.list.length : Int) := by omega
          have hwr : IntKind.i64.wrap (j : Int) = (j : Int) := by simp [IntKind.wrap, IntKind.bits, IntKind.signed]; omega
          have hsz : wr.heap.size < (wr.alloc (.cells #[.string s, .int .u8 ck, .bool cbo, .int .i64 cn, .string ct, .slice cya cy.length cyc, .slice cla cl.list.length clc, .slice cfa cf.list.length cfc] 63)).heap.size := by simp
          clear hc' d8 hmem hk0
          go_wp2
          generalize wr.alloc (.cells #[.string s, .int .u8 ck, .bool cbo, .int .i64 cn, .string ct, .slice cya cy.length cyc, .slice cla cl.list.length clc, .slice cfa cf.list.length cfc] 63) = X at *
          generalize wr.heap.size = bx at *
          have y1 : X.cell? ⟨bx, 0, none⟩ = some (.string s) := by simp [World.cell?, HXb.out]
          have y2 := D8.out
          have Y1 : Hid (X.drew.cell? ⟨bx, 0, none⟩ = some (.string s)) := y1
          have Y2 : Hid (X.drew.cell? ⟨b, o + j * 8, none⟩ = some (.string s')) := y2
          clear c8 c0 c1 c2 c3 c4 c5 c6
          go_region_held3 (fun W => W.cell? ⟨bx, 0, none⟩ = some (.string s) ∧ W.cell? ⟨b, o + j * 8, none⟩ = some (.string s')) ((refine ⟨?_, ?_⟩ <;> assumption)) ((first | (go_at_call 54; refine (hN.out _).mono ?_; intro r' W1 hh; obtain ⟨rfl, hb1⟩ := hh; have HX1 := hide (HX.out.drew.on hb1); have z1 := (hb1.cell (p := ⟨bx, 0, none⟩) hsz).trans Y1.out; have z2 := (hb1.cell (p := ⟨b, o + j * 8, none⟩) (Nat.lt_trans hbw hsz)).trans Y2.out; clear hb1; rw [hnm])))
          clear y1 y2 z1 z2
          generalize hless : Op.bytesLess s'.toList s.toList = le at *
          have HLe := hide hless
          clear hless
          cases le
          · have HR : Hid (ris f.names = false) := HNo.out (by rw [HSu.out, hnm]; simp) (by have := HLn.out; omega)
            go_wp2
            go_ret
            exact ⟨by rw [HR.out]; rfl, HX1.out.below⟩
          · have HR : Hid (risK f.names (j + 1 + 1) = true) := by rw [Hid, HSu.out, hnm]; simp [HRk.out]
            go_wp2
            go_roundw
            case rel => exact ⟨j + 1 + 1, by omega, by go_num, HR.out, HX1.out⟩
            case measure => simp [intOf]; omega
      · have HR : Hid (ris f.names = false) := HNo.out (by rw [HSu.out, hnm]; simp) (by have := HLn.out; omega)
        clear HSu HNo
        go_wp2
        refine wp_region_any (by kernel_rfl) ?_
        change wpAny _ _ _ _ _ _ _ (World.drew _)
        refine wpAny_take (i := 0) (oi := { dst := some 12, op := Op.fieldAddr 63 (Operand.tmp 4) 0, type := 0, pos := "value.go:65", after := #[], guard := none }) (v := ?va0) rfl (by kernel_rfl) (by kernel_rfl) (by kernel_rfl) (fun _ _ _ h => h) (Or.inl ⟨by rfl, ?hya0⟩) ?resta0
        case hya0 => (intro w; (first | (go_simp; with_reducible rfl) | go_simp))
        try simp only [Act.put, List.setIfInBounds_toArray, List.set_cons_zero, List.set_cons_succ]
        refine wpAny_ready (rs := [1]) (by kernel_rfl) (by simp) ?_
        refine AllReady.cons (o := { dst := some 13, op := Op.load 9 (Operand.tmp 12), type := 9, pos := "value.go:65", after := #[{ on := 0, ground := Ground.data }], guard := none }) rfl (fun K hK => ?_) AllReady.nil
        go_simp
        refine hK _ _ ?_
        clear hK K
        try simp only [Act.put, List.setIfInBounds_toArray, List.set_cons_zero, List.set_cons_succ]
        refine wpAny_ready (rs := [2]) (by kernel_rfl) (by simp) ?_
        refine AllReady.cons (o := { dst := some 14, op := Op.call { callee := Callee.value (Operand.func 54), args := #[Operand.tmp 13], argTypes := #[9] }, type := 4, pos := "value.go:65", after := #[{ on := 1, ground := Ground.data }], guard := none }) rfl (fun K hK => ?_) AllReady.nil
        go_simp
        refine (hN.out _).mono ?_
        rintro e' W1 ⟨rfl, hb1⟩
        have HX1 := hide (HX.out.drew.on hb1)
        clear hb1
        rw [hnm]
        go_simp
        refine hK _ _ ?_
        clear hK K
        try simp only [Act.put, List.setIfInBounds_toArray, List.set_cons_zero, List.set_cons_succ]
        refine wpAny_take (i := 3) (oi := { dst := some 15, op := Op.unOp UnOp.not 4 (Operand.tmp 14), type := 4, pos := "value.go:65", after := #[{ on := 2, ground := Ground.data }], guard := none }) (v := ?va3) rfl (by kernel_rfl) (by kernel_rfl) (by kernel_rfl) (fun _ _ _ h => h) (Or.inl ⟨by rfl, ?hya3⟩) ?resta3
        case hya3 => (intro w; (first | (go_simp; with_reducible rfl) | go_simp))
        try simp only [Act.put, List.setIfInBounds_toArray, List.set_cons_zero, List.set_cons_succ]
        refine wpAny_take (i := 4) (oi := { dst := some 16, op := Op.move (Operand.tmp 15), type := 4, pos := "value.go:65", after := #[{ on := 3, ground := Ground.data }, { on := 2, ground := Ground.chain }], guard := none }) (v := ?va4) rfl (by kernel_rfl) (by kernel_rfl) (by kernel_rfl) (fun _ _ _ h => h) (Or.inl ⟨by rfl, ?hya4⟩) ?resta4
        case hya4 => (intro w; (first | (go_simp; with_reducible rfl) | go_simp))
        try simp only [Act.put, List.setIfInBounds_toArray, List.set_cons_zero, List.set_cons_succ]
        refine wpAny_take (i := 5) (oi := { dst := some 17, op := Op.move (Operand.tmp 3), type := 3, pos := "value.go:65", after := #[{ on := 4, ground := Ground.guard }], guard := some (4, false) }) (v := undef) rfl (by kernel_rfl) (by kernel_rfl) (by kernel_rfl) (fun _ _ _ h => h) (Or.inr ⟨by rfl, rfl⟩) ?_
        try simp only [Act.put, List.setIfInBounds_toArray, List.set_cons_zero, List.set_cons_succ]
        refine wpAny_take (i := 6) (oi := { dst := some 18, op := Op.binOp BinOp.gtr 3 (Operand.tmp 17) (Operand.const (Value.int IntKind.i64 0)) 3, type := 4, pos := "value.go:65", after := #[{ on := 5, ground := Ground.data }, { on := 4, ground := Ground.guard }], guard := some (4, false) }) (v := undef) rfl (by kernel_rfl) (by kernel_rfl) (by kernel_rfl) (fun _ _ _ h => h) (Or.inr ⟨by rfl, rfl⟩) ?_
        try simp only [Act.put, List.setIfInBounds_toArray, List.set_cons_zero, List.set_cons_succ]
        refine wpAny_take (i := 7) (oi := { dst := some 19, op := Op.move (Operand.tmp 18), type := 4, pos := "value.go:65", after := #[{ on := 6, ground := Ground.data }, { on := 4, ground := Ground.chain }, { on := 4, ground := Ground.guard }], guard := some (4, false) }) (v := undef) rfl (by kernel_rfl) (by kernel_rfl) (by kernel_rfl) (fun _ _ _ h => h) (Or.inr ⟨by rfl, rfl⟩) ?_
        try simp only [Act.put, List.setIfInBounds_toArray, List.set_cons_zero, List.set_cons_succ]
        refine wpAny_take (i := 8) (oi := { dst := some 20, op := Op.move (Operand.tmp 0), type := 96, pos := "value.go:65", after := #[{ on := 7, ground := Ground.guard }], guard := some (7, true) }) (v := undef) rfl (by kernel_rfl) (by kernel_rfl) (by kernel_rfl) (fun _ _ _ h => h) (Or.inr ⟨by rfl, rfl⟩) ?_
        try simp only [Act.put, List.setIfInBounds_toArray, List.set_cons_zero, List.set_cons_succ]
        refine wpAny_take (i := 9) (oi := { dst := some 21, op := Op.move (Operand.tmp 3), type := 3, pos := "value.go:65", after := #[{ on := 7, ground := Ground.guard }], guard := some (7, true) }) (v := undef) rfl (by kernel_rfl) (by kernel_rfl) (by kernel_rfl) (fun _ _ _ h => h) (Or.inr ⟨by rfl, rfl⟩) ?_
        try simp only [Act.put, List.setIfInBounds_toArray, List.set_cons_zero, List.set_cons_succ]
        refine wpAny_take (i := 10) (oi := { dst := some 22, op := Op.binOp BinOp.sub 3 (Operand.tmp 21) (Operand.const (Value.int IntKind.i64 1)) 3, type := 3, pos := "value.go:65", after := #[{ on := 9, ground := Ground.data }, { on := 7, ground := Ground.guard }], guard := some (7, true) }) (v := undef) rfl (by kernel_rfl) (by kernel_rfl) (by kernel_rfl) (fun _ _ _ h => h) (Or.inr ⟨by rfl, rfl⟩) ?_
        try simp only [Act.put, List.setIfInBounds_toArray, List.set_cons_zero, List.set_cons_succ]
        refine wpAny_take (i := 11) (oi := { dst := some 23, op := Op.indexAddr 96 (Operand.tmp 20) (Operand.tmp 22), type := 0, pos := "value.go:65", after := #[{ on := 8, ground := Ground.data }, { on := 10, ground := Ground.data }, { on := 7, ground := Ground.guard }], guard := some (7, true) }) (v := undef) rfl (by kernel_rfl) (by kernel_rfl) (by kernel_rfl) (fun _ _ _ h => h) (Or.inr ⟨by rfl, rfl⟩) ?_
        try simp only [Act.put, List.setIfInBounds_toArray, List.set_cons_zero, List.set_cons_succ]
        refine wpAny_take (i := 12) (oi := { dst := some 24, op := Op.fieldAddr 63 (Operand.tmp 23) 0, type := 0, pos := "value.go:65", after := #[{ on := 11, ground := Ground.data }, { on := 7, ground := Ground.guard }], guard := some (7, true) }) (v := undef) rfl (by kernel_rfl) (by kernel_rfl) (by kernel_rfl) (fun _ _ _ h => h) (Or.inr ⟨by rfl, rfl⟩) ?_
        try simp only [Act.put, List.setIfInBounds_toArray, List.set_cons_zero, List.set_cons_succ]
        refine wpAny_take (i := 13) (oi := { dst := some 25, op := Op.load 9 (Operand.tmp 24), type := 9, pos := "value.go:65", after := #[{ on := 12, ground := Ground.data }, { on := 7, ground := Ground.guard }], guard := some (7, true) }) (v := undef) rfl (by kernel_rfl) (by kernel_rfl) (by kernel_rfl) (fun _ _ _ h => h) (Or.inr ⟨by rfl, rfl⟩) ?_
        try simp only [Act.put, List.setIfInBounds_toArray, List.set_cons_zero, List.set_cons_succ]
        refine wpAny_take (i := 14) (oi := { dst := some 26, op := Op.fieldAddr 63 (Operand.tmp 4) 0, type := 0, pos := "value.go:65", after := #[{ on := 7, ground := Ground.guard }], guard := some (7, true) }) (v := undef) rfl (by kernel_rfl) (by kernel_rfl) (by kernel_rfl) (fun _ _ _ h => h) (Or.inr ⟨by rfl, rfl⟩) ?_
        try simp only [Act.put, List.setIfInBounds_toArray, List.set_cons_zero, List.set_cons_succ]
        refine wpAny_take (i := 15) (oi := { dst := some 27, op := Op.load 9 (Operand.tmp 26), type := 9, pos := "value.go:65", after := #[{ on := 14, ground := Ground.data }, { on := 7, ground := Ground.guard }], guard := some (7, true) }) (v := undef) rfl (by kernel_rfl) (by kernel_rfl) (by kernel_rfl) (fun _ _ _ h => h) (Or.inr ⟨by rfl, rfl⟩) ?_
        try simp only [Act.put, List.setIfInBounds_toArray, List.set_cons_zero, List.set_cons_succ]
        refine wpAny_take (i := 16) (oi := { dst := some 28, op := Op.binOp BinOp.geq 9 (Operand.tmp 25) (Operand.tmp 27) 9, type := 4, pos := "value.go:65", after := #[{ on := 13, ground := Ground.data }, { on := 15, ground := Ground.data }, { on := 7, ground := Ground.guard }], guard := some (7, true) }) (v := undef) rfl (by kernel_rfl) (by kernel_rfl) (by kernel_rfl) (fun _ _ _ h => h) (Or.inr ⟨by rfl, rfl⟩) ?_
        try simp only [Act.put, List.setIfInBounds_toArray, List.set_cons_zero, List.set_cons_succ]
        refine wpAny_take (i := 17) (oi := { dst := some 29, op := Op.pick (Operand.tmp 19) (Operand.tmp 28) (Operand.const (Value.bool false)), type := 4, pos := "value.go:65", after := #[{ on := 7, ground := Ground.data }, { on := 16, ground := Ground.data }, { on := 4, ground := Ground.guard }], guard := some (4, false) }) (v := undef) rfl (by kernel_rfl) (by kernel_rfl) (by kernel_rfl) (fun _ _ _ h => h) (Or.inr ⟨by rfl, rfl⟩) ?_
        try simp only [Act.put, List.setIfInBounds_toArray, List.set_cons_zero, List.set_cons_succ]
        refine wpAny_take (i := 18) (oi := { dst := some 30, op := Op.pick (Operand.tmp 16) (Operand.const (Value.bool true)) (Operand.tmp 29), type := 4, pos := "value.go:65", after := #[{ on := 4, ground := Ground.data }, { on := 17, ground := Ground.data }], guard := none }) (v := ?va18) rfl (by kernel_rfl) (by kernel_rfl) (by kernel_rfl) (fun _ _ _ h => h) (Or.inl ⟨by rfl, ?hya18⟩) ?resta18
        case hya18 => (intro w; (first | (go_simp; with_reducible rfl) | go_simp))
        try simp only [Act.put, List.setIfInBounds_toArray, List.set_cons_zero, List.set_cons_succ]
        refine wpAny_done (by kernel_rfl) ?_ _
        go_wp2
        go_ret
        exact ⟨by rw [HR.out]; rfl, HX1.out.below⟩
    · obtain rfl : k = f.list.length := by omega
      have HR : Hid (ris f.names = true) := by rw [Hid, ris, HLn.out]; exact hr
      go_wp2
      go_ret
      exact ⟨by rw [HR.out]; rfl, hfr.below⟩
end Go.Proofs.Ytegoeaofjnpehaa
