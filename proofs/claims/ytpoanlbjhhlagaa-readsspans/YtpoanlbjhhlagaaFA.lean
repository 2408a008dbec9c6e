/- Where a key stands in a list: the function that is handed over, slices.BinarySearchFunc over spans. -/
import Derived.Test.YtpoanlbjhhlagaaHA
import Derived.Test.YtpoanlbjhhlagaaFC
import Derived.Test.YtpoanlbjhhlagaaZT
namespace Go.Proofs.Ytpoanlbjhhlagaa
open Go.RowKit
set_option linter.unusedVariables false

/-- is the key k at or above that key? -/
def pge (key k : List Int) : Bool := decide (0 ≤ ordI k key)
/-- the place that a search comes to. -/
def At (p : List Int → Bool) (xs : List En) (i : Nat) : Prop := i ≤ xs.length ∧ (∀ x, 0 < i → xs[i - 1]? = some x → p x.e.key = false) ∧ ∀ x, xs[i]? = some x → p x.e.key = true
/-- does the entry at i have that key? -/
def ther (xs : List En) (i : Nat) (key : List Int) : Bool := match xs[i]? with
  | some x => decide (x.e.key = key)
  | none => false
theorem box3_hid (w : World) (x : En) : Hid (Below w.heap.size w (w.alloc (.cells #[.slice x.ka x.e.key.length x.kc, .slice x.va x.e.val.length x.vc, .bool x.e.del] 65))) := hide (below_alloc w _)
theorem bool_ret {v : Value} {b c : Bool} (h : b = c) : Ending.returned (Value.tuple #[v, Value.bool b]) = Ending.returned (Value.tuple #[v, Value.bool c]) := by rw [h]
abbrev zfa0 : Oper := { dst := some 35, op := Op.move (Operand.tmp 9), type := 3, pos := "sort.go:167", after := #[], guard := none }
abbrev zfa1 : Oper := { dst := some 36, op := Op.move (Operand.tmp 9), type := 3, pos := "sort.go:167", after := #[], guard := none }
abbrev zfa2 : Oper := { dst := some 37, op := Op.move (Operand.tmp 8), type := 3, pos := "sort.go:167", after := #[], guard := none }
abbrev zfa3 : Oper := { dst := some 38, op := Op.binOp BinOp.lss 3 (Operand.tmp 36) (Operand.tmp 37) 3, type := 4, pos := "sort.go:167", after := #[{ on := 1, ground := Ground.data }, { on := 2, ground := Ground.data }], guard := none }
abbrev zfa4 : Oper := { dst := some 39, op := Op.move (Operand.tmp 38), type := 4, pos := "sort.go:167", after := #[{ on := 3, ground := Ground.data }], guard := none }
abbrev zfa5 : Oper := { dst := some 40, op := Op.move (Operand.tmp 2), type := 80, pos := "sort.go:167", after := #[{ on := 4, ground := Ground.guard }], guard := some (4, true) }
abbrev zfa6 : Oper := { dst := some 41, op := Op.move (Operand.tmp 0), type := 23, pos := "sort.go:167", after := #[{ on := 4, ground := Ground.guard }], guard := some (4, true) }
abbrev zfa7 : Oper := { dst := some 42, op := Op.move (Operand.tmp 9), type := 3, pos := "sort.go:167", after := #[{ on := 4, ground := Ground.guard }], guard := some (4, true) }
abbrev zfa8 : Oper := { dst := some 43, op := Op.indexAddr 23 (Operand.tmp 41) (Operand.tmp 42), type := 0, pos := "sort.go:167", after := #[{ on := 6, ground := Ground.data }, { on := 7, ground := Ground.data }, { on := 4, ground := Ground.guard }], guard := some (4, true) }
abbrev zfa9 : Oper := { dst := some 44, op := Op.load 65 (Operand.tmp 43), type := 65, pos := "sort.go:167", after := #[{ on := 8, ground := Ground.data }, { on := 4, ground := Ground.guard }], guard := some (4, true) }
abbrev zfa10 : Oper := { dst := some 45, op := Op.load 65 (Operand.tmp 4), type := 65, pos := "sort.go:167", after := #[{ on := 4, ground := Ground.guard }], guard := some (4, true) }
abbrev zfa11 : Oper := { dst := some 46, op := Op.call { callee := Callee.value (Operand.tmp 40), args := #[Operand.tmp 44, Operand.tmp 45], argTypes := #[65, 65] }, type := 3, pos := "sort.go:167", after := #[{ on := 5, ground := Ground.data }, { on := 9, ground := Ground.data }, { on := 10, ground := Ground.data }, { on := 4, ground := Ground.chain }, { on := 4, ground := Ground.guard }], guard := some (4, true) }
abbrev zfa12 : Oper := { dst := some 47, op := Op.binOp BinOp.eql 3 (Operand.tmp 46) (Operand.const (Value.int IntKind.i64 0)) 3, type := 4, pos := "sort.go:167", after := #[{ on := 11, ground := Ground.data }, { on := 4, ground := Ground.guard }, { on := 14, ground := Ground.gcOnly Departure.lateStores }], guard := some (4, true) }
abbrev zfa13 : Oper := { dst := some 48, op := Op.pick (Operand.tmp 39) (Operand.tmp 47) (Operand.const (Value.bool false)), type := 4, pos := "sort.go:167", after := #[{ on := 4, ground := Ground.data }, { on := 12, ground := Ground.data }, { on := 14, ground := Ground.gcOnly Departure.lateStores }], guard := none }
abbrev zfa14 : Oper := { dst := some 6, op := Op.assign (Operand.tmp 35), type := 3, pos := "sort.go:167", after := #[{ on := 0, ground := Ground.data }, { on := 11, ground := Ground.chain }, { on := 0, ground := Ground.phase }, { on := 1, ground := Ground.textOnly Departure.lateStores }, { on := 2, ground := Ground.textOnly Departure.lateStores }, { on := 3, ground := Ground.textOnly Departure.lateStores }, { on := 4, ground := Ground.textOnly Departure.lateStores }, { on := 5, ground := Ground.textOnly Departure.lateStores }, { on := 6, ground := Ground.textOnly Departure.lateStores }, { on := 7, ground := Ground.textOnly Departure.lateStores }, { on := 8, ground := Ground.textOnly Departure.lateStores }, { on := 9, ground := Ground.textOnly Departure.lateStores }, { on := 10, ground := Ground.textOnly Departure.lateStores }, { on := 11, ground := Ground.textOnly Departure.lateStoresUnsure }, { on := 12, ground := Ground.textOnly Departure.lateStores }, { on := 13, ground := Ground.textOnly Departure.lateStores }], guard := none }
abbrev zfa15 : Oper := { dst := some 7, op := Op.assign (Operand.tmp 48), type := 4, pos := "sort.go:167", after := #[{ on := 13, ground := Ground.data }, { on := 14, ground := Ground.chain }, { on := 0, ground := Ground.phase }, { on := 1, ground := Ground.phase }, { on := 2, ground := Ground.phase }, { on := 3, ground := Ground.phase }, { on := 4, ground := Ground.phase }, { on := 5, ground := Ground.phase }, { on := 6, ground := Ground.phase }, { on := 7, ground := Ground.phase }, { on := 8, ground := Ground.phase }, { on := 9, ground := Ground.phase }, { on := 10, ground := Ground.phase }, { on := 11, ground := Ground.phase }, { on := 12, ground := Ground.phase }, { on := 13, ground := Ground.phase }, { on := 14, ground := Ground.phase }], guard := none }
set_option maxHeartbeats 3200000 in
set_option maxRecDepth 1000000 in
theorem search_any (ka : Option Addr) (kn kc : Nat) (key : List Int) (a : Option Addr) (n c : Nat) (xs : List En) (w : World) (hk : Inn w ka kn kc key) (h : Ens w a n c xs) (hn : n ≤ 1000000) :
    Calls Try.prog 34 #[.slice a n c, .agg #[.slice ka kn kc, .slice none 0 0, .bool false], .func (.func 35) #[] #[]] w fun e w' => ∃ i : Nat, e = .returned (.tuple #[.int .i64 (i : Int), .bool (ther xs i key)]) ∧ At (pge key) xs i ∧ Below w.heap.size w w' := by
  have hB0 := below_alloc w (.cells #[.slice ka kn kc, .slice none 0 0, .bool false] 65)
  have HB0 := hide hB0
  have hsz0 : w.heap.size + 1 ≤ (w.alloc (.cells #[.slice ka kn kc, .slice none 0 0, .bool false] 65)).heap.size := by simp
  have HZ := hide (fun W (hW : Below (w.heap.size + 1) (w.alloc (.cells #[.slice ka kn kc, .slice none 0 0, .bool false] 65)) W) => cells_three ((hW.block _ (by omega)).trans (heap_alloc_new w (.cells #[.slice ka kn kc, .slice none 0 0, .bool false] 65))))
  have HFC := hide (fun (x : En) W (hx : x.Ok W) (hW : Below w.heap.size w W) => (byFrom_any x (tgt ka kc key) W hx ⟨by have := hk.below hW; have e := hk.len; subst e; exact this, inn_nil W⟩))
  simp only [tgt, hk.len, List.length_nil] at HFC
  have HLow : Hid (∀ W, Below (w.heap.size + 1) (w.alloc (.cells #[.slice ka kn kc, .slice none 0 0, .bool false] 65)) W → Below w.heap.size w W) := hide fun W hW => hB0.trans (hW.mono (Nat.le_succ _))
  have HE := hide h
  have HK := hide hk
  have HL := hide h.len
  have hcap := h.cap
  have hmax := h.max
  clear h hk hB0
  go_enter Try.func34, Try.ntmps34
  go_wp2
  go_loopw [9, 10] (fun vi vj wr => ∃ (i j : Nat), i ≤ j ∧ j ≤ n ∧ vi = .int .i64 (i : Int) ∧ vj = .int .i64 (j : Int) ∧ (∀ x, 0 < i → xs[i - 1]? = some x → pge key x.e.key = false) ∧ (∀ x, xs[j]? = some x → pge key x.e.key = true) ∧ Below (w.heap.size + 1) (w.alloc (.cells #[.slice ka kn kc, .slice none 0 0, .bool false] 65)) wr) (fun vi vj _ => (intOf vj).toNat - (intOf vi).toNat)
  case atStart => exact ⟨0, n, Nat.zero_le _, Nat.le_refl _, rfl, rfl, fun x h => by omega, fun x hx => by have := (List.getElem?_eq_some_iff.1 hx).1; have := HL.out; omega, Below.refl _ _⟩
  case round =>
    obtain ⟨i, j, hij, hjn, rfl, rfl, hlo, hhi, hbl⟩ := hrel
    have HLo := hide hlo
    have HHi := hide hhi
    have HBl := hide hbl
    obtain ⟨t0, t1, t2, -⟩ := HZ.out wr hbl
    clear hlo hhi
    by_cases hlt : i < j
    · obtain ⟨M, hM⟩ : ∃ M, M = (i + j) / 2 := ⟨_, rfl⟩
      have hm : M < n := by omega
      have eM : ((i : Int) + (j : Int)) / 2 = (M : Int) := by omega
      obtain ⟨x, hx, hok⟩ := (HE.out.below (HLow.out wr hbl)).at hm
      obtain ⟨b, off, rfl, hbs, c0, c1, c2⟩ := (HE.out.below (HLow.out wr hbl)).cells hx
      have HF := hide (HFC.out x wr.drew (hok.below (Below.refl _ wr).drew) (HLow.out wr hbl).drew)
      have C0 := hide c0
      have C1 := hide c1
      have C2 := hide c2
      have T0 := hide t0
      have T1 := hide t1
      have T2 := hide t2
      have HBS := hide hbs
      have HWS : Hid (w.heap.size < wr.heap.size) := hide (by have := hbl.size; simp at this; omega)
      have HSZ : Hid (w.heap.size + 1 ≤ wr.heap.size) := hide HWS.out
      have HX := hide hx
      clear hok hx hbl
      have d0 : (i : Int) < (j : Int) := by omega
      have d8 : (0 : Int) ≤ (M : Int) := by omega
      have d9 : (M : Int) < (n : Int) := by omega
      have hMij : i ≤ M ∧ M < j := by omega
      clear hM
      by_cases hp : ordI x.e.key key < 0
      · have HP := hide hp
        have HPf : Hid (pge key x.e.key = false) := by rw [Hid, pge, decide_eq_false (by omega)]
        
        go_wp2
        go_region_held3 (fun W => W.cell? ⟨b, off + M * 3, none⟩ = some (.slice x.ka x.e.key.length x.kc) ∧ W.cell? ⟨b, off + M * 3 + 1, none⟩ = some (.slice x.va x.e.val.length x.vc) ∧ W.cell? ⟨b, off + M * 3 + 2, none⟩ = some (.bool x.e.del) ∧ W.cell? ⟨w.heap.size, 0, none⟩ = some (.slice ka kn kc) ∧ W.cell? ⟨w.heap.size, 1, none⟩ = some (.slice none 0 0) ∧ W.cell? ⟨w.heap.size, 2, none⟩ = some (.bool false)) ((refine ⟨?_, ?_, ?_, ?_, ?_, ?_⟩ <;> assumption)) ((first | (go_at_call 35; refine HF.out.mono ?_; rintro e w2 ⟨rfl, hb2⟩; have HB2 := hide hb2; have hb3 := hb2.mono (Nat.le_refl wr.heap.size); have e0 := (hb3.cell (p := ⟨b, off + M * 3, none⟩) HBS.out).trans C0.out; have e1' := (hb3.cell (p := ⟨b, off + M * 3 + 1, none⟩) HBS.out).trans C1.out; have e2 := (hb3.cell (p := ⟨b, off + M * 3 + 2, none⟩) HBS.out).trans C2.out; have e3 := (hb3.cell (p := ⟨w.heap.size, 0, none⟩) HWS.out).trans T0.out; have e4 := (hb3.cell (p := ⟨w.heap.size, 1, none⟩) HWS.out).trans T1.out; have e5 := (hb3.cell (p := ⟨w.heap.size, 2, none⟩) HWS.out).trans T2.out; clear hb2 hb3 c0 c1 c2 t0 t1 t2)))
        go_wp2
        refine ⟨⟨M + 1, j, by omega, by omega, by rw [Int.natCast_add]; rfl, rfl, fun y _ hy => by rw [Nat.add_sub_cancel, HX.out] at hy; cases hy; exact HPf.out, HHi.out, HBl.out.drew.trans (HB2.out.mono HSZ.out)⟩, ?_⟩
        simp [intOf]; omega
      · have HP := hide hp
        have HPf : Hid (pge key x.e.key = true) := by rw [Hid, pge, decide_eq_true (by omega)]
        
        go_wp2
        go_region_held3 (fun W => W.cell? ⟨b, off + M * 3, none⟩ = some (.slice x.ka x.e.key.length x.kc) ∧ W.cell? ⟨b, off + M * 3 + 1, none⟩ = some (.slice x.va x.e.val.length x.vc) ∧ W.cell? ⟨b, off + M * 3 + 2, none⟩ = some (.bool x.e.del) ∧ W.cell? ⟨w.heap.size, 0, none⟩ = some (.slice ka kn kc) ∧ W.cell? ⟨w.heap.size, 1, none⟩ = some (.slice none 0 0) ∧ W.cell? ⟨w.heap.size, 2, none⟩ = some (.bool false)) ((refine ⟨?_, ?_, ?_, ?_, ?_, ?_⟩ <;> assumption)) ((first | (go_at_call 35; refine HF.out.mono ?_; rintro e w2 ⟨rfl, hb2⟩; have HB2 := hide hb2; have hb3 := hb2.mono (Nat.le_refl wr.heap.size); have e0 := (hb3.cell (p := ⟨b, off + M * 3, none⟩) HBS.out).trans C0.out; have e1' := (hb3.cell (p := ⟨b, off + M * 3 + 1, none⟩) HBS.out).trans C1.out; have e2 := (hb3.cell (p := ⟨b, off + M * 3 + 2, none⟩) HBS.out).trans C2.out; have e3 := (hb3.cell (p := ⟨w.heap.size, 0, none⟩) HWS.out).trans T0.out; have e4 := (hb3.cell (p := ⟨w.heap.size, 1, none⟩) HWS.out).trans T1.out; have e5 := (hb3.cell (p := ⟨w.heap.size, 2, none⟩) HWS.out).trans T2.out; clear hb2 hb3 c0 c1 c2 t0 t1 t2)))
        go_wp2
        refine ⟨⟨i, M, by omega, by omega, rfl, rfl, HLo.out, fun y hy => by rw [HX.out] at hy; cases hy; exact HPf.out, HBl.out.drew.trans (HB2.out.mono HSZ.out)⟩, ?_⟩
        simp [intOf]; omega
    · obtain rfl : i = j := by omega
      by_cases hin : i < n
      · obtain ⟨x, hx, hok⟩ := (HE.out.below (HLow.out wr hbl)).at hin
        obtain ⟨b, off, rfl, hbs, c0, c1, c2⟩ := (HE.out.below (HLow.out wr hbl)).cells hx
        have HF := hide (HFC.out x wr.drew (hok.below (Below.refl _ wr).drew) (HLow.out wr hbl).drew)
        have d1 : (i : Int) < (n : Int) := by omega
        have C0 := hide c0
        have C1 := hide c1
        have C2 := hide c2
        have T0 := hide t0
        have T1 := hide t1
        have T2 := hide t2
        have HBS := hide hbs
        have HWS : Hid (w.heap.size < wr.heap.size) := hide (by have := hbl.size; simp at this; omega)
        have HSZ : Hid (w.heap.size + 1 ≤ wr.heap.size) := hide HWS.out
        have HX := hide hx
        clear hok hx hbl
        by_cases hp : ordI x.e.key key = 0
        · have HT : Hid (ther xs i key = true) := by rw [Hid, ther, HX.out]; exact decide_eq_true (ordI_zero _ _ hp)
          rw [hp] at HF
          clear hp
          go_wp2
          go_region_held3 (fun W => W.cell? ⟨b, off + i * 3, none⟩ = some (.slice x.ka x.e.key.length x.kc) ∧ W.cell? ⟨b, off + i * 3 + 1, none⟩ = some (.slice x.va x.e.val.length x.vc) ∧ W.cell? ⟨b, off + i * 3 + 2, none⟩ = some (.bool x.e.del) ∧ W.cell? ⟨w.heap.size, 0, none⟩ = some (.slice ka kn kc) ∧ W.cell? ⟨w.heap.size, 1, none⟩ = some (.slice none 0 0) ∧ W.cell? ⟨w.heap.size, 2, none⟩ = some (.bool false)) ((refine ⟨?_, ?_, ?_, ?_, ?_, ?_⟩ <;> assumption)) ((first | (go_at_call 35; refine HF.out.mono ?_; rintro e w2 ⟨rfl, hb2⟩; have HB2 := hide hb2; have hb3 := hb2.mono (Nat.le_refl wr.heap.size); have e0 := (hb3.cell (p := ⟨b, off + i * 3, none⟩) HBS.out).trans C0.out; have e1' := (hb3.cell (p := ⟨b, off + i * 3 + 1, none⟩) HBS.out).trans C1.out; have e2 := (hb3.cell (p := ⟨b, off + i * 3 + 2, none⟩) HBS.out).trans C2.out; have e3 := (hb3.cell (p := ⟨w.heap.size, 0, none⟩) HWS.out).trans T0.out; have e4 := (hb3.cell (p := ⟨w.heap.size, 1, none⟩) HWS.out).trans T1.out; have e5 := (hb3.cell (p := ⟨w.heap.size, 2, none⟩) HWS.out).trans T2.out; clear hb2 hb3 c0 c1 c2 t0 t1 t2)))
          go_wp2
          go_ret2
          exact ⟨i, by rw [HT.out]; rfl, ⟨by rw [HL.out]; omega, HLo.out, HHi.out⟩, (HLow.out _ (HBl.out.drew.trans (HB2.out.mono HSZ.out)))⟩
        · have HT : Hid (ther xs i key = false) := by rw [Hid, ther, HX.out]; exact decide_eq_false (fun e => hp (by rw [e]; exact ordI_self _))
          generalize ordI x.e.key key = O at *
          go_wp2
          go_region_held3 (fun W => W.cell? ⟨b, off + i * 3, none⟩ = some (.slice x.ka x.e.key.length x.kc) ∧ W.cell? ⟨b, off + i * 3 + 1, none⟩ = some (.slice x.va x.e.val.length x.vc) ∧ W.cell? ⟨b, off + i * 3 + 2, none⟩ = some (.bool x.e.del) ∧ W.cell? ⟨w.heap.size, 0, none⟩ = some (.slice ka kn kc) ∧ W.cell? ⟨w.heap.size, 1, none⟩ = some (.slice none 0 0) ∧ W.cell? ⟨w.heap.size, 2, none⟩ = some (.bool false)) ((refine ⟨?_, ?_, ?_, ?_, ?_, ?_⟩ <;> assumption)) ((first | (go_at_call 35; refine HF.out.mono ?_; rintro e w2 ⟨rfl, hb2⟩; have HB2 := hide hb2; have hb3 := hb2.mono (Nat.le_refl wr.heap.size); have e0 := (hb3.cell (p := ⟨b, off + i * 3, none⟩) HBS.out).trans C0.out; have e1' := (hb3.cell (p := ⟨b, off + i * 3 + 1, none⟩) HBS.out).trans C1.out; have e2 := (hb3.cell (p := ⟨b, off + i * 3 + 2, none⟩) HBS.out).trans C2.out; have e3 := (hb3.cell (p := ⟨w.heap.size, 0, none⟩) HWS.out).trans T0.out; have e4 := (hb3.cell (p := ⟨w.heap.size, 1, none⟩) HWS.out).trans T1.out; have e5 := (hb3.cell (p := ⟨w.heap.size, 2, none⟩) HWS.out).trans T2.out; clear hb2 hb3 c0 c1 c2 t0 t1 t2)))
          go_wp2
          go_ret2
          exact ⟨i, (by rw [HT.out]; exact bool_ret (by simpa using hp)), ⟨by rw [HL.out]; omega, HLo.out, HHi.out⟩, (HLow.out _ (HBl.out.drew.trans (HB2.out.mono HSZ.out)))⟩
      · have HT : Hid (ther xs i key = false) := by
          have : xs[i]? = none := List.getElem?_eq_none (by have := HL.out; omega)
          rw [Hid, ther, this]
        obtain rfl : i = n := by omega
        have d1 : ¬ (i : Int) < (i : Int) := by omega
        go_wp2
        refine wp_region_noPanic ?_
        refine wp_region_held_drew (S := (fun W => True)) (by kernel_rfl) trivial (fun _hS => ?_)
        refine wtk (i := 0) (oi := zfa0) (v := ?v0x1) rfl ⟨by rfl, ?hy0x1⟩ (by assumption) ?_
        case hy0x1 => (intro w s; (try dsimp only at s); first | (go_simp; with_reducible rfl) | go_simp)
        try simp only [Act.put, zps]
        refine wtk (i := 1) (oi := zfa1) (v := ?v1x2) rfl ⟨by rfl, ?hy1x2⟩ (by assumption) ?_
        case hy1x2 => (intro w s; (try dsimp only at s); first | (go_simp; with_reducible rfl) | go_simp)
        try simp only [Act.put, zps]
        refine wtk (i := 2) (oi := zfa2) (v := ?v2x3) rfl ⟨by rfl, ?hy2x3⟩ (by assumption) ?_
        case hy2x3 => (intro w s; (try dsimp only at s); first | (go_simp; with_reducible rfl) | go_simp)
        try simp only [Act.put, zps]
        refine wtk (i := 3) (oi := zfa3) (v := .bool false) rfl ⟨by rfl, ?hy3x4⟩ (by assumption) ?_
        case hy3x4 => (intro w s; go_simp)
        try simp only [Act.put, zps]
        refine wtk (i := 4) (oi := zfa4) (v := ?v4x5) rfl ⟨by rfl, ?hy4x5⟩ (by assumption) ?_
        case hy4x5 => (intro w s; (try dsimp only at s); first | (go_simp; with_reducible rfl) | go_simp)
        try simp only [Act.put, zps]
        refine wpAnyH_take (i := 5) (oi := zfa5) (v := undef) rfl (by kernel_rfl) (by kernel_rfl) (by kernel_rfl) (fun _ _ _ h => h) (Or.inr ⟨by rfl, rfl⟩) (by assumption) ?_
        try simp only [Act.put, zps]
        refine wpAnyH_take (i := 6) (oi := zfa6) (v := undef) rfl (by kernel_rfl) (by kernel_rfl) (by kernel_rfl) (fun _ _ _ h => h) (Or.inr ⟨by rfl, rfl⟩) (by assumption) ?_
        try simp only [Act.put, zps]
        refine wpAnyH_take (i := 7) (oi := zfa7) (v := undef) rfl (by kernel_rfl) (by kernel_rfl) (by kernel_rfl) (fun _ _ _ h => h) (Or.inr ⟨by rfl, rfl⟩) (by assumption) ?_
        try simp only [Act.put, zps]
        refine wpAnyH_take (i := 8) (oi := zfa8) (v := undef) rfl (by kernel_rfl) (by kernel_rfl) (by kernel_rfl) (fun _ _ _ h => h) (Or.inr ⟨by rfl, rfl⟩) (by assumption) ?_
        try simp only [Act.put, zps]
        refine wpAnyH_take (i := 9) (oi := zfa9) (v := undef) rfl (by kernel_rfl) (by kernel_rfl) (by kernel_rfl) (fun _ _ _ h => h) (Or.inr ⟨by rfl, rfl⟩) (by assumption) ?_
        try simp only [Act.put, zps]
        refine wpAnyH_take (i := 10) (oi := zfa10) (v := undef) rfl (by kernel_rfl) (by kernel_rfl) (by kernel_rfl) (fun _ _ _ h => h) (Or.inr ⟨by rfl, rfl⟩) (by assumption) ?_
        try simp only [Act.put, zps]
        refine wpAnyH_take (i := 11) (oi := zfa11) (v := undef) rfl (by kernel_rfl) (by kernel_rfl) (by kernel_rfl) (fun _ _ _ h => h) (Or.inr ⟨by rfl, rfl⟩) (by assumption) ?_
        try simp only [Act.put, zps]
        refine wpAnyH_take (i := 12) (oi := zfa12) (v := undef) rfl (by kernel_rfl) (by kernel_rfl) (by kernel_rfl) (fun _ _ _ h => h) (Or.inr ⟨by rfl, rfl⟩) (by assumption) ?_
        try simp only [Act.put, zps]
        refine wtk (i := 13) (oi := zfa13) (v := ?v13x6) rfl ⟨by rfl, ?hy13x6⟩ (by assumption) ?_
        case hy13x6 => (intro w s; (try dsimp only at s); first | (go_simp; with_reducible rfl) | go_simp)
        try simp only [Act.put, zps]
        refine wtk (i := 14) (oi := zfa14) (v := ?v14x7) rfl ⟨by rfl, ?hy14x7⟩ (by assumption) ?_
        case hy14x7 => (intro w s; (try dsimp only at s); first | (go_simp; with_reducible rfl) | go_simp)
        try simp only [Act.put, zps]
        refine wtk (i := 15) (oi := zfa15) (v := ?v15x8) rfl ⟨by rfl, ?hy15x8⟩ (by assumption) ?_
        case hy15x8 => (intro w s; (try dsimp only at s); first | (go_simp; with_reducible rfl) | go_simp)
        try simp only [Act.put, zps]
        refine wpAnyH_done (by kernel_rfl) ?_ _
        refine NoPanic.normal ?_
        go_wp2
        go_ret2
        exact ⟨i, by rw [HT.out]; rfl, ⟨by rw [HL.out]; omega, HLo.out, HHi.out⟩, HLow.out _ HBl.out.drew⟩
end Go.Proofs.Ytpoanlbjhhlagaa
