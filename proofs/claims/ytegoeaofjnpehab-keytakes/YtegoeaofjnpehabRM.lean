/- Contract of the known example. -/
import Derived.Test.YtegoeaofjnpehabT
import Derived.Test.YtegoeaofjnpehabRows
import Derived.OpenShut
import Derived.ShutString
import Derived.ChangeOld
import Derived.Test.YtegoeaofjnpehabVA
import Derived.Deep.Slices
import Derived.Test.YtegoeaofjnpehabG
namespace Go.Proofs.Ytegoeaofjnpehab
open Go.RowKit
set_option linter.unusedVariables false

theorem row_new (w : World) (zs : List Int) (cs : Array Value) (f : Nat × Nat) (h : cs = (zs.map (Value.int .u8)).toArray) : Row (w.alloc (.cells cs 5 f)) (some ⟨w.heap.size, 0, none⟩) zs := by
  refine .inr ⟨_, _, rfl, by simp, fun i hi => ?_⟩
  rw [World.cell?_alloc_mark, h]
  simp [hi]
theorem kn_new (w : World) : Kn ((w.alloc (.cells #[.int .u8 4, .bool false, .int .i64 0, .string ⟨#[97]⟩, .slice none 0 0, .slice none 0 0, .slice none 0 0, .int .u8 3, .bool false, .int .i64 1, .string ⟨#[]⟩, .slice none 0 0, .slice none 0 0, .slice none 0 0] 32)).alloc (.cells #[.bool false, .bool true] 4)) w.heap.size (w.heap.size + 1) := by
  refine ⟨(Below.heap_alloc _ _ _ (by simp)).trans (heap_alloc_new w _), ?_⟩
  have := heap_alloc_new (w.alloc (.cells #[.int .u8 4, .bool false, .int .i64 0, .string ⟨#[97]⟩, .slice none 0 0, .slice none 0 0, .slice none 0 0, .int .u8 3, .bool false, .int .i64 1, .string ⟨#[]⟩, .slice none 0 0, .slice none 0 0, .slice none 0 0] 32)) (.cells #[.bool false, .bool true] 4)
  rwa [World.size_alloc] at this
theorem kn_again {w : World} {bl bd : Nat} (h : Kn w bl bd) : Kn (w.alloc (.cells #[.bool false, .bool true] 4)) bl w.heap.size :=
  ⟨(Below.heap_alloc _ _ _ (lt_of_block h.l)).trans h.l, heap_alloc_new w _⟩

set_option maxHeartbeats 3200000 in
set_option maxRecDepth 1000000 in
theorem known_any (w : World) : Calls Try.prog 8 #[] w fun e w' => e = .returned (.bool true) ∧ Below w.heap.size w w' := by
  have HK0 := hide (kn_new w)
  have HF0 := hide (((Fr.refl w).alloc (.cells #[.int .u8 4, .bool false, .int .i64 0, .string ⟨#[97]⟩, .slice none 0 0, .slice none 0 0, .slice none 0 0, .int .u8 3, .bool false, .int .i64 1, .string ⟨#[]⟩, .slice none 0 0, .slice none 0 0, .slice none 0 0] 32)).alloc (.cells #[.bool false, .bool true] 4))
  go_enter Try.func8, Try.ntmps8
  go_wp2_with fail
  generalize (w.alloc (.cells #[.int .u8 4, .bool false, .int .i64 0, .string ⟨#[97]⟩, .slice none 0 0, .slice none 0 0, .slice none 0 0, .int .u8 3, .bool false, .int .i64 1, .string ⟨#[]⟩, .slice none 0 0, .slice none 0 0, .slice none 0 0] 32)).alloc (.cells #[.bool false, .bool true] 4) = X at *
  generalize hB : w.heap.size = B at *
  have HBB := hide hB
  clear hB
  refine (encode_known B (B + 1) X HK0.out).mono ?_
  rintro e W1 ⟨a1, c1, rfl, hown, hb⟩
  rw [kb_is] at hown
  have hcap : 13 ≤ c1 := by obtain ⟨a', c', e', hle, _⟩ := hown.shape; cases e'; exact hle
  obtain ⟨b, o, rfl⟩ : ∃ b o, a1 = some ⟨b, o, none⟩ := by
    rcases hown.row with h0 | ⟨b, o, rfl, _⟩
    · cases h0
    · exact ⟨b, o, rfl⟩
  have HR1 := hide hown.row
  have HK1 := hide (HK0.out.on hb (lt_of_block HK0.out.l) (lt_of_block HK0.out.d))
  have HF1 := hide (HF0.out.on hb)
  rw [show (k1 ++ k2).length = 13 from rfl]
  clear hown hb HK0 HF0
  go_wp2_with fail
  have HK2 := hide (kn_again HK1.out)
  have HR2 := hide (HR1.out.below (below_alloc W1 (.cells #[.bool false, .bool true] 4)))
  have HF2 := hide (HF1.out.alloc (.cells #[.bool false, .bool true] 4))
  refine (decode_known b o c1 B W1.heap.size _ HR2.out HK2.out hcap).mono ?_
  rintro e W3 ⟨v, rfl, hown, hb⟩
  obtain ⟨g, c3, rfl, hkg, hc3⟩ := kg_of hown
  have HG3 := hide hkg
  have HK3 := hide (HK2.out.on hb (lt_of_block HK2.out.l) (lt_of_block HK2.out.d))
  have HR3 := hide (HR2.out.below hb)
  have HF3 := hide (HF2.out.on hb)
  clear hown hb hkg HK1 HK2 HR1 HR2 HF1 HF2
  generalize W1.heap.size = bd at *
  go_wp2_with fail
  have HR4 := hide (HR3.out.below (below_alloc W3 (.cells #[.int .u8 1, .int .u8 255] 5)))
  have HF4 := hide (HF3.out.alloc (.cells #[.int .u8 1, .int .u8 255] 5))
  have HK4 := hide (HK3.out.on (below_alloc W3 (.cells #[.int .u8 1, .int .u8 255] 5)) (lt_of_block HK3.out.l) (lt_of_block HK3.out.d))
  have HG4 := hide (HG3.out.on (below_alloc W3 (.cells #[.int .u8 1, .int .u8 255] 5)))
  refine (after_at (some ⟨W3.heap.size, 0, none⟩) 2 2 [1, 255] 0 _ rfl (by omega) (by omega) (row_new W3 [1, 255] _ _ rfl) (by unfold Byts; decide) (by omega) (by decide) (by intro i h1 h2; obtain rfl : i = 1 := (by omega); rfl)).mono ?_
  rintro e W5 ⟨v, rfl, hown, hb⟩
  obtain ⟨a5, n5, c5, rfl, HN5⟩ := hown.own.shape2
  have hn5 : n5 = 1 := HN5.out
  subst hn5
  have HR5 := hide (HR4.out.below hb)
  have HF5 := hide (HF4.out.on hb)
  have HK5 := hide (HK4.out.on hb (lt_of_block HK4.out.l) (lt_of_block HK4.out.d))
  have HG5 := hide (HG4.out.on hb)
  have HX5 : Hid (Row W5 a5 [2]) := hown.own.row
  clear hown hb HR3 HR4 HF3 HF4 HK3 HK4 HG3 HG4
  go_wp2_with fail
  have HR6 := hide (HR5.out.below (below_alloc W5 (.cells #[.int .u8 64, .int .u8 97, .int .u8 0, .int .u8 1, .int .u8 207, .int .u8 127, .int .u8 255, .int .u8 255, .int .u8 255, .int .u8 255, .int .u8 255, .int .u8 255, .int .u8 254] 5)))
  have HF6 := hide (HF5.out.alloc (.cells #[.int .u8 64, .int .u8 97, .int .u8 0, .int .u8 1, .int .u8 207, .int .u8 127, .int .u8 255, .int .u8 255, .int .u8 255, .int .u8 255, .int .u8 255, .int .u8 255, .int .u8 254] 5))
  have HK6 := hide (HK5.out.on (below_alloc W5 (.cells #[.int .u8 64, .int .u8 97, .int .u8 0, .int .u8 1, .int .u8 207, .int .u8 127, .int .u8 255, .int .u8 255, .int .u8 255, .int .u8 255, .int .u8 255, .int .u8 255, .int .u8 254] 5)) (lt_of_block HK5.out.l) (lt_of_block HK5.out.d))
  have HG6 := hide (HG5.out.on (below_alloc W5 (.cells #[.int .u8 64, .int .u8 97, .int .u8 0, .int .u8 1, .int .u8 207, .int .u8 127, .int .u8 255, .int .u8 255, .int .u8 255, .int .u8 255, .int .u8 255, .int .u8 255, .int .u8 254] 5)))
  have HX6 := hide (HX5.out.below (below_alloc W5 (.cells #[.int .u8 64, .int .u8 97, .int .u8 0, .int .u8 1, .int .u8 207, .int .u8 127, .int .u8 255, .int .u8 255, .int .u8 255, .int .u8 255, .int .u8 255, .int .u8 255, .int .u8 254] 5)))
  refine (same_gen (some ⟨b, o, none⟩) (some ⟨W5.heap.size, 0, none⟩) 13 13 c1 13 kb kb _ rfl rfl (by omega) (by omega) HR6.out (row_new W5 kb _ _ rfl)).mono ?_
  rintro e W7 ⟨rfl, hb⟩
  have HF7 := hide (HF6.out.on hb)
  have HK7 := hide (HK6.out.on hb (lt_of_block HK6.out.l) (lt_of_block HK6.out.d))
  have HG7 := hide (HG6.out.on hb)
  have HX7 := hide (HX6.out.below hb)
  clear hb HR5 HR6 HF5 HF6 HK5 HK6 HG5 HG6 HX5 HX6
  rw [show sameB kb kb = true by decide]
  go_wp2_with fail
  refine (sames_known g c3 B bd W7 HK7.out HG7.out).mono ?_
  rintro e W8 ⟨rfl, hb⟩
  have HF8 := hide (HF7.out.on hb)
  have HX8 := hide (HX7.out.below hb)
  clear hb HF7 HK7 HG7 HX7
  go_wp2_with fail
  have HX9 := hide (HX8.out.below (below_alloc W8 (.cells #[.int .u8 2] 5)))
  have HF9 := hide (HF8.out.alloc (.cells #[.int .u8 2] 5))
  refine (same_gen a5 (some ⟨W8.heap.size, 0, none⟩) 1 1 c5 1 [2] [2] _ rfl rfl (by omega) (by omega) HX9.out (row_new W8 [2] _ _ rfl)).mono ?_
  rintro e W10 ⟨rfl, hb⟩
  have HF10 := hide (HF9.out.on hb)
  clear hb HF8 HF9 HX8 HX9
  rw [show sameB [2] [2] = true by decide]
  go_wp2
  go_ret
  exact ⟨rfl, by rw [HBB.out]; exact HF10.out.below⟩
end Go.Proofs.Ytegoeaofjnpehab
/- What a slice of bytes that came in is known to be. -/
namespace Go.Proofs.Ytegoeaofjnpehab
open Go.ChangeShapes Go.WideShapes Go.ChangeAt Go.RowKit
set_option linter.unusedVariables false

theorem own : ownKnob Try.prog.godebug = none := by kernel_rfl
theorem laidOut : laidOutB Try.prog = true := by kernel_rfl

/-- what a walk is told of a slice of integers that came in. -/
def IsRow (k : IntKind) (w : World) (a : Option Addr) (len cap : Nat) (zs : List Int) : Prop :=
  (a = none ∧ len = 0 ∧ cap = 0 ∧ zs = []) ∨
  ∃ x, a = some x ∧ len ≤ cap ∧ cap ≤ maxLen ∧ zs.length = cap ∧ (∀ i, i < zs.length → w.cell? (x.add i) = some (.int k (zs.getD i 0))) ∧ ∀ n ∈ zs, (Lit.int k n).wf = true

theorem isrow_row {w : World} {a : Option Addr} {len cap : Nat} {zs : List Int} (h : IsRow .u8 w a len cap zs) :
    Row w a (zs.take len) ∧ Byts (zs.take len) ∧ (zs.take len).length = len ∧ len ≤ cap ∧ cap ≤ maxLen ∧ (a = none → len = 0 ∧ cap = 0) := by
  rcases h with ⟨rfl, rfl, rfl, rfl⟩ | ⟨x, rfl, hl, hm, hz, hcell, hwz⟩
  · exact ⟨.inl rfl, (by intro c hc; simp at hc), rfl, Nat.le_refl _, Nat.zero_le _, fun _ => ⟨rfl, rfl⟩⟩
  · have hlen : (zs.take len).length = len := by simp; omega
    refine ⟨?_, ?_, hlen, hl, hm, by intro h; cases h⟩
    · by_cases h0 : len = 0
      · subst h0; exact .inl rfl
      · obtain ⟨b, off, spot⟩ := x
        have hc := hcell 0 (by omega)
        have hspot : spot = none := by simpa [Addr.add] using World.cell?_spot hc
        subst hspot
        refine .inr ⟨b, off, rfl, ?_, fun i hi => ?_⟩
        · have := World.block_lt_of_cell? w _ hc
          rw [Addr.add_lit] at this
          exact this
        · rw [hlen] at hi
          have := hcell i (by omega)
          rw [Addr.add_lit] at this
          rw [this]; simp [hi]
    · intro c hc
      exact bounds_u8 (hwz c (List.mem_of_mem_take hc))

theorem Row.first {w : World} {a : Option Addr} {zs : List Int} (h : Row w a zs) (n : Nat) : Row w a (zs.take n) := by
  rcases h with h | ⟨b, off, rfl, hlt, hc⟩
  · exact .inl (by rw [h]; simp)
  · refine .inr ⟨b, off, rfl, hlt, fun i hi => ?_⟩
    rw [List.length_take] at hi
    rw [hc i (by omega)]
    simp [List.getD_eq_getElem?_getD, show i < n by omega]
/-- are the first k bytes all 255? -/
def fl (b : List Int) (k : Nat) : Bool := (List.range k).all fun j => b.getD j 0 == 255
theorem fl_succ (b : List Int) (k : Nat) : fl b (k + 1) = (fl b k && (b.getD k 0 == 255)) := by simp [fl, List.range_succ]
theorem fl_true (b : List Int) (n : Nat) (h : ∀ i, i < n → b.getD i 0 = 255) : fl b n = true := by
  simp only [fl, List.all_eq_true, List.mem_range]
  intro i hi
  rw [h i hi]
  rfl
theorem fl_false (b : List Int) (n p : Nat) (hp : p < n) (h : b.getD p 0 < 255) : fl b n = false := by
  rw [Bool.eq_false_iff]
  intro hf
  simp only [fl, List.all_eq_true, List.mem_range] at hf
  have := hf p hp
  simp only [beq_iff_eq] at this
  omega
end Go.Proofs.Ytegoeaofjnpehab
/- A value that came in: what its reading says of memory. -/
namespace Go.Proofs.Ytegoeaofjnpehab
open Go.ChangeShapes Go.WideShapes Go.ChangeAt Go.RowKit Go.Deep
set_option linter.unusedVariables false

mutual
/-- numbers and texts as a machine holds them, at every place. -/
def T.Szd : T → Prop
  | .mk k bo n t ya yc y la lc l fa fc f => (0 ≤ k ∧ k ≤ 255) ∧ (-9223372036854775808 ≤ n ∧ n ≤ 9223372036854775807) ∧ t.size ≤ 9223372036854775807 ∧ l.Szd ∧ f.Szd
def TL.Szd : TL → Prop
  | .nil => True
  | .cons v r => v.Szd ∧ r.Szd
def FL.Szd : FL → Prop
  | .nil => True
  | .cons s v r => s.size ≤ 9223372036854775807 ∧ v.Szd ∧ r.Szd
end
def TL.of (f : Nat → T) : Nat → Nat → TL
  | _, 0 => .nil
  | i, n + 1 => .cons (f i) (TL.of f (i + 1) n)
def FL.of (f : Nat → ByteArray × T) : Nat → Nat → FL
  | _, 0 => .nil
  | i, n + 1 => .cons (f i).1 (f i).2 (FL.of f (i + 1) n)
theorem TL.of_len (f : Nat → T) (n : Nat) : ∀ i, (TL.of f i n).list.length = n := by
  induction n with
  | zero => intro i; rfl
  | succ n ih => intro i; simp [TL.of, TL.list, ih]
theorem FL.of_len (f : Nat → ByteArray × T) (n : Nat) : ∀ i, (FL.of f i n).list.length = n := by
  induction n with
  | zero => intro i; rfl
  | succ n ih => intro i; simp [FL.of, FL.list, ih]
theorem TL.of_mem {N : Nat} {W : World} {a : Option Addr} (f : Nat → T) (n : Nat) : ∀ i, (∀ j, i ≤ j → j < i + n → (∃ b o, a = some ⟨b, o, none⟩ ∧ b < N ∧ ∀ x u, (f j).cells[x]? = some u → W.cell? ⟨b, o + j * 7 + x, none⟩ = some u) ∧ (f j).Mem N W ∧ (f j).Szd) →
    (TL.of f i n).Mem N W a i ∧ (TL.of f i n).Szd := by
  induction n with
  | zero => intro i _; exact ⟨trivial, trivial⟩
  | succ n ih =>
    intro i h
    have h0 := h i (Nat.le_refl _) (by omega)
    have h1 := ih (i + 1) (fun j hj hk => h j (by omega) (by omega))
    exact ⟨⟨h0.1, h0.2.1, h1.1⟩, h0.2.2, h1.2⟩
theorem FL.of_mem {N : Nat} {W : World} {a : Option Addr} (f : Nat → ByteArray × T) (n : Nat) : ∀ i, (∀ j, i ≤ j → j < i + n → (∃ b o, a = some ⟨b, o, none⟩ ∧ b < N ∧ W.cell? ⟨b, o + j * 8, none⟩ = some (.string (f j).1) ∧ ∀ x u, (f j).2.cells[x]? = some u → W.cell? ⟨b, o + j * 8 + 1 + x, none⟩ = some u) ∧ (f j).2.Mem N W ∧ (f j).1.size ≤ 9223372036854775807 ∧ (f j).2.Szd) →
    (FL.of f i n).Mem N W a i ∧ (FL.of f i n).Szd := by
  induction n with
  | zero => intro i _; exact ⟨trivial, trivial⟩
  | succ n ih =>
    intro i h
    have h0 := h i (Nat.le_refl _) (by omega)
    have h1 := ih (i + 1) (fun j hj hk => h j (by omega) (by omega))
    exact ⟨⟨h0.1, h0.2.1, h1.1⟩, h0.2.2.1, h0.2.2.2, h1.2⟩
def T.none : T := .mk 0 false 0 ⟨#[]⟩ .none 0 [] .none 0 .nil .none 0 .nil
instance : Inhabited T := ⟨T.none⟩
theorem cells41 : Try.prog.cellsOf 32 = 7 := by kernel_rfl
theorem cells63 : Try.prog.cellsOf 69 = 8 := by kernel_rfl
theorem cells5 : Try.prog.cellsOf 5 = 1 := by kernel_rfl
theorem cells38 : Try.prog.cellsOf 29 = 1 := by kernel_rfl
theorem cells4 : Try.prog.cellsOf 4 = 1 := by kernel_rfl
theorem cells2 : Try.prog.cellsOf 2 = 1 := by kernel_rfl
theorem cells9 : Try.prog.cellsOf 9 = 1 := by kernel_rfl
theorem cells25 : Try.prog.cellsOf 22 = 1 := by kernel_rfl
theorem cells22 : Try.prog.cellsOf 24 = 1 := by kernel_rfl
theorem cells39 : Try.prog.cellsOf 30 = 1 := by kernel_rfl

variable {H : Type} {enc : TypeId × Value → H} {W : World}
theorem some_of {α : Type} {xs : List α} {i n : Nat} (h : xs.length = n) (hi : i < n) : ∃ x, xs[i]? = some x := ⟨_, List.getElem?_eq_getElem (by omega)⟩
theorem spot_of {ad : Addr} {cs : List Value} {n m : Nat} (h : W.cells? 0 (ad.add (0 * m)) n = some cs) (hn : 0 < n) : ad.spot = none := by
  obtain ⟨_, hl, hcell⟩ := World.cells?_some h
  have hc0 := hcell 0 hn
  obtain ⟨u0, hu0⟩ := some_of (i := 0) hl hn
  rw [hu0] at hc0
  have := World.cell?_spot hc0
  simpa [Addr.add] using this
theorem trod7 {P : Program} {t : TypeId} {f0 f1 f2 f3 f4 f5 f6 : Field} {fuel : Nat} {cs : List Value} {x : DataW H × List MemPlace} (he : P.underlying t = some (.struct #[f0, f1, f2, f3, f4, f5, f6])) (hc : P.cellsOf t = 7)
    (o0 : f0.offset = 0) (o1 : f1.offset = 1) (o2 : f2.offset = 2) (o3 : f3.offset = 3) (o4 : f4.offset = 4) (o5 : f5.offset = 5) (o6 : f6.offset = 6) (c0 : P.cellsOf f0.type = 1) (c1 : P.cellsOf f1.type = 1) (c2 : P.cellsOf f2.type = 1) (c3 : P.cellsOf f3.type = 1) (c4 : P.cellsOf f4.type = 1) (c5 : P.cellsOf f5.type = 1) (c6 : P.cellsOf f6.type = 1) (h : DataW.trod enc P W 0 (fun _ => true) true fuel t cs = some x) :
    ∃ (v0 v1 v2 v3 v4 v5 v6 : Value) (y0 y1 y2 y3 y4 y5 y6 : DataW H × List MemPlace) (n : Nat), fuel = n + 1 ∧ cs = [v0, v1, v2, v3, v4, v5, v6] ∧ DataW.trod enc P W 0 (fun _ => true) true n f0.type [v0] = some y0 ∧ DataW.trod enc P W 0 (fun _ => true) true n f1.type [v1] = some y1 ∧ DataW.trod enc P W 0 (fun _ => true) true n f2.type [v2] = some y2 ∧ DataW.trod enc P W 0 (fun _ => true) true n f3.type [v3] = some y3 ∧ DataW.trod enc P W 0 (fun _ => true) true n f4.type [v4] = some y4 ∧ DataW.trod enc P W 0 (fun _ => true) true n f5.type [v5] = some y5 ∧ DataW.trod enc P W 0 (fun _ => true) true n f6.type [v6] = some y6 := by
  obtain ⟨xs, n, hn, _, hl, hxl, hf⟩ := DataW.trod_struct he h
  rw [hc] at hl
  match xs, hxl, cs, hl with
  | [y0, y1, y2, y3, y4, y5, y6], _, [v0, v1, v2, v3, v4, v5, v6], _ =>
    have g0 := hf 0 f0 rfl
    have g1 := hf 1 f1 rfl
    have g2 := hf 2 f2 rfl
    have g3 := hf 3 f3 rfl
    have g4 := hf 4 f4 rfl
    have g5 := hf 5 f5 rfl
    have g6 := hf 6 f6 rfl
    simp [o0, o1, o2, o3, o4, o5, o6, c0, c1, c2, c3, c4, c5, c6] at g0 g1 g2 g3 g4 g5 g6
    exact ⟨v0, v1, v2, v3, v4, v5, v6, y0, y1, y2, y3, y4, y5, y6, n, hn, rfl, g0, g1, g2, g3, g4, g5, g6⟩
theorem trod2 {P : Program} {t : TypeId} {f0 f1 : Field} {fuel : Nat} {cs : List Value} {x : DataW H × List MemPlace} (he : P.underlying t = some (.struct #[f0, f1])) (o0 : f0.offset = 0) (o1 : f1.offset = 1) (c0 : P.cellsOf f0.type = 1) (c1 : P.cellsOf f1.type = 7)
    (h : DataW.trod enc P W 0 (fun _ => true) true fuel t cs = some x) :
    ∃ (y0 y1 : DataW H × List MemPlace) (n : Nat), fuel = n + 1 ∧ DataW.trod enc P W 0 (fun _ => true) true n f0.type (cs.take 1) = some y0 ∧ DataW.trod enc P W 0 (fun _ => true) true n f1.type ((cs.drop 1).take 7) = some y1 := by
  obtain ⟨xs, n, hn, _, hl, hxl, hf⟩ := DataW.trod_struct he h
  match xs, hxl with
  | [y0, y1], _ =>
    have g0 := hf 0 f0 rfl
    have g1 := hf 1 f1 rfl
    simp [o0, o1, c0, c1] at g0 g1
    exact ⟨y0, y1, n, hn, g0, by simpa using g1⟩
set_option maxRecDepth 1000000 in
set_option maxHeartbeats 800000 in
theorem read_val : ∀ (fuel : Nat) (cs : List Value) (x : DataW H × List MemPlace), DataW.trod enc Try.prog W 0 (fun _ => true) true fuel 32 cs = some x → ∃ v : T, v.cells = cs ∧ v.Mem W.heap.size W ∧ v.Szd := by
  intro fuel
  induction fuel using Nat.strongRecOn with
  | _ fuel ih =>
  intro cs x h
  obtain ⟨v0, v1, v2, v3, v4, v5, v6, y0, y1, y2, y3, y4, y5, y6, n, rfl, rfl, g0, g1, g2, g3, g4, g5, g6⟩ := trod7 Try.underlying32 cells41 rfl rfl rfl rfl rfl rfl rfl cells38 cells4 cells2 cells9 cells25 cells22 cells39 h
  obtain ⟨k, r0, _, w0⟩ := DataW.trod_int Try.underlying29 g0
  obtain ⟨bo, r1, _⟩ := DataW.trod_bool Try.underlying4 g1
  obtain ⟨nn, r2, _, w2⟩ := DataW.trod_int Try.underlying2 g2
  obtain ⟨t, r3, _, w3⟩ := DataW.trod_string Try.underlying9 g3
  cases r0
  cases r1
  cases r2
  cases r3
  have b0 := bounds_u8 w0
  have b2 := bounds_i64 w2
  have b3 : t.size ≤ 9223372036854775807 := by unfold maxLen at w3; omega
  -- the bytes
  obtain ⟨ya, yc, y, r4, m1, m2, m3, m4⟩ : ∃ ya yc y, v4 = .slice ya y.length yc ∧ RowN W.heap.size W ya y ∧ Byts y ∧ (ya = none → y = [] ∧ yc = 0) ∧ y.length ≤ 9223372036854775807 := by
    rcases open_ints Try.underlying22 Try.underlying5 cells5 g4 with ⟨hcs, _⟩ | ⟨ad, l, c, zs, hcs, _, hl, hm, hz, _, hcell, hwz⟩
    · cases hcs
      exact ⟨none, 0, [], rfl, .inl rfl, (by intro c hc; simp at hc), fun _ => ⟨rfl, rfl⟩, by simp⟩
    · cases hcs
      obtain ⟨hr, hby, hlen, _, hmx, hbare⟩ := isrow_row (.inr ⟨ad, rfl, hl, hm, by simpa using hz, hcell, hwz⟩ : IsRow .u8 W (some ad) l c zs)
      refine ⟨some ad, c, zs.take l, by rw [hlen], ?_, hby, (by intro h; cases h), by unfold maxLen at hm; omega⟩
      rcases hr with h0 | ⟨b, off, e, hlt, hc⟩
      · exact .inl h0
      · exact .inr ⟨b, off, e, hlt, hc⟩
  subst r4
  -- the list
  obtain ⟨la, lc, l, r5, m5, m6, m7, s5⟩ : ∃ la lc, ∃ l : TL, v5 = .slice la l.list.length lc ∧ l.Mem W.heap.size W la 0 ∧ (la = none → l.list = [] ∧ lc = 0) ∧ l.list.length ≤ 9223372036854775807 ∧ l.Szd := by
    rcases DataW.trod_slice Try.underlying24 g5 with ⟨hcs, _⟩ | ⟨ad, len, cap, elems, rest, n', hn', hcs, _, _, hlc, hcm, hel, hat, _, _⟩
    · cases hcs
      exact ⟨none, 0, .nil, rfl, trivial, fun _ => ⟨rfl, rfl⟩, by simp [TL.list], trivial⟩
    · cases hcs
      have hone : ∀ i, i < len → ∃ v : T, (∃ b o, some ad = some (⟨b, o, none⟩ : Addr) ∧ b < W.heap.size ∧ ∀ x u, v.cells[x]? = some u → W.cell? ⟨b, o + i * 7 + x, none⟩ = some u) ∧ v.Mem W.heap.size W ∧ v.Szd := by
        intro i hi
        obtain ⟨y, ey⟩ := some_of (i := i) hel hi
        have h1 := hat i hi
        rw [ey, cells41] at h1
        obtain ⟨cs', hc1, hc2⟩ := Option.bind_eq_some_iff.1 h1
        obtain ⟨v, hv, hvm, hvs⟩ := ih n' (by omega) cs' _ hc2
        obtain ⟨_, hlen7, hcell⟩ := World.cells?_some hc1
        refine ⟨v, ?_, hvm, hvs⟩
        have hlv : v.cells.length = 7 := by rw [hv]; exact hlen7
        obtain ⟨b, o, spot⟩ := ad
        have hc0 := hcell 0 (by omega)
        obtain ⟨u0, hu0⟩ := some_of (i := 0) hlen7 (by omega)
        rw [hu0] at hc0
        have hspot : spot = none := by
          obtain ⟨y', ey'⟩ := some_of (i := 0) hel (by omega)
          have h2 := hat 0 (by omega)
          rw [ey', cells41] at h2
          obtain ⟨cs0, hc01, _⟩ := Option.bind_eq_some_iff.1 h2
          exact spot_of hc01 (by omega)
        subst hspot
        refine ⟨b, o, rfl, ?_, fun x u hu => ?_⟩
        · have := World.block_lt_of_cell? W _ hc0
          rw [Addr.add_lit, Addr.add_lit] at this
          exact this
        · have hx : x < 7 := by have := (List.getElem?_eq_some_iff.1 hu).1; omega
          have := hcell x hx
          rw [Addr.add_lit, Addr.add_lit, ← hv] at this
          rw [this, hu]
      obtain ⟨F, hF⟩ := choose_lt hone
      have := TL.of_mem (N := W.heap.size) (W := W) (a := some ad) F len 0 (fun j _ hj => hF j (by omega))
      exact ⟨some ad, cap, TL.of F 0 len, by rw [TL.of_len], this.1, (by intro h; cases h), by rw [TL.of_len]; unfold maxLen at hcm; omega, this.2⟩
  subst r5
  -- the fields
  obtain ⟨fa, fc, f, r6, m8, m9, m10, s6⟩ : ∃ fa fc, ∃ f : FL, v6 = .slice fa f.list.length fc ∧ f.Mem W.heap.size W fa 0 ∧ (fa = none → f.list = [] ∧ fc = 0) ∧ f.list.length ≤ 9223372036854775807 ∧ f.Szd := by
    rcases DataW.trod_slice Try.underlying30 g6 with ⟨hcs, _⟩ | ⟨ad, len, cap, elems, rest, n', hn', hcs, _, _, hlc, hcm, hel, hat, _, _⟩
    · cases hcs
      exact ⟨none, 0, .nil, rfl, trivial, fun _ => ⟨rfl, rfl⟩, by simp [FL.list], trivial⟩
    · cases hcs
      have hone : ∀ i, i < len → ∃ v : ByteArray × T, (∃ b o, some ad = some (⟨b, o, none⟩ : Addr) ∧ b < W.heap.size ∧ W.cell? ⟨b, o + i * 8, none⟩ = some (.string v.1) ∧ ∀ x u, v.2.cells[x]? = some u → W.cell? ⟨b, o + i * 8 + 1 + x, none⟩ = some u) ∧ v.2.Mem W.heap.size W ∧ v.1.size ≤ 9223372036854775807 ∧ v.2.Szd := by
        intro i hi
        obtain ⟨y, ey⟩ := some_of (i := i) hel hi
        have h1 := hat i hi
        rw [ey, cells63] at h1
        obtain ⟨cs', hc1, hc2⟩ := Option.bind_eq_some_iff.1 h1
        obtain ⟨z0, z1, n2, hn2, q0, q1⟩ := trod2 Try.underlying69 rfl rfl cells9 cells41 hc2
        obtain ⟨v, hv, hvm, hvs⟩ := ih n2 (by omega) _ _ q1
        obtain ⟨s, rs, _, ws⟩ := DataW.trod_string Try.underlying9 q0
        obtain ⟨_, hlen8, hcell⟩ := World.cells?_some hc1
        refine ⟨(s, v), ?_, hvm, by unfold maxLen at ws; simp only []; omega, hvs⟩
        obtain ⟨b, o, spot⟩ := ad
        have hc0 := hcell 0 (by omega)
        obtain ⟨u0, hu0⟩ := some_of (i := 0) hlen8 (by omega)
        rw [hu0] at hc0
        have hspot : spot = none := by
          obtain ⟨y', ey'⟩ := some_of (i := 0) hel (by omega)
          have h2 := hat 0 (by omega)
          rw [ey', cells63] at h2
          obtain ⟨cs0, hc01, _⟩ := Option.bind_eq_some_iff.1 h2
          exact spot_of hc01 (by omega)
        subst hspot
        have hs0 : u0 = .string s := by
          have := congrArg (fun l => l[0]?) rs
          simp [hu0] at this
          exact this
        subst hs0
        refine ⟨b, o, rfl, ?_, ?_, fun x u hu => ?_⟩
        · have := World.block_lt_of_cell? W _ hc0
          rw [Addr.add_lit, Addr.add_lit] at this
          exact this
        · rw [Addr.add_lit, Addr.add_lit] at hc0
          exact hc0
        · rw [hv] at hu
          have hx : x < 7 := by
            have := (List.getElem?_eq_some_iff.1 hu).1
            simp at this
            omega
          have := hcell (1 + x) (by omega)
          rw [Addr.add_lit, Addr.add_lit] at this
          have e : cs'[1 + x]? = some u := by
            have h5 := hu
            simp [hx] at h5
            rw [Nat.add_comm]
            exact h5
          rw [e] at this
          simpa [Nat.add_assoc] using this
      obtain ⟨F, hF⟩ := choose_lt hone
      have := FL.of_mem (N := W.heap.size) (W := W) (a := some ad) F len 0 (fun j _ hj => hF j (by omega))
      exact ⟨some ad, cap, FL.of F 0 len, by rw [FL.of_len], this.1, (by intro h; cases h), by rw [FL.of_len]; unfold maxLen at hcm; omega, this.2⟩
  subst r6
  exact ⟨.mk k bo nn t ya yc y la lc l fa fc f, rfl, ⟨m1, m2, m3, m4, m5, m6, m7, m8, m9, m10⟩, by omega, by omega, b3, s5, s6⟩
end Go.Proofs.Ytegoeaofjnpehab
/- A range over a function that looks at memory between the rounds. -/
namespace Go.Proofs.Ytegoeaofjnpehab
open Go.RowKit
set_option linter.unusedVariables false

/-- what is ranged over hands over xs, one behind the other, as long as it is asked to, where M holds between the rounds. -/
def GoesM {α : Type} (P : Program) (gf : Nat) (lb : Array Value) (encs : α → Array Value) (xs : List α) (M : World → Prop) (w : World) : Prop :=
  ∀ (l : Nat) (J : List α → World → Prop) (Jx : World → Prop) (W : World), Below w.heap.size w W →
    (∀ pre V V', J pre V → Below W.heap.size V V' → J pre V') → (∀ V V', Jx V → Below W.heap.size V V' → Jx V') → (∀ pre V, J pre V → M V ∧ W.heap.size ≤ V.heap.size) →
    (∀ pre x rest V, xs = pre ++ x :: rest → J pre V → YieldAt Fence.wide 0 P l (encs x) V fun e V' =>
      (e = .returned (.bool true) ∧ J (pre ++ [x]) V' ∧ AB W.heap.size V V') ∨ (e = .returned (.bool false) ∧ Jx V' ∧ AB W.heap.size V V')) →
    J [] W → Calls P gf (#[.func (.yield l) #[] #[]] ++ lb) W fun e W' => (∃ v, e = .returned v) ∧ (J xs W' ∨ Jx W')

theorem range_genM {P : Program} {α : Type} {g : Operand} {ps : Array Tmp} {assign body : Code} {Q : Exit → Act → World → Prop} {a : Act} {w : World}
    {gf : Nat} {lb : Array Value} (hg : a.eval g = .func (.func gf) #[] lb) (eg : ∀ args w, (callFunc gf args).run P w = .ok (.enter gf args) w)
    {encs : α → Array Value} {xs : List α} {M : World → Prop} (hseq : GoesM P gf lb encs xs M w) (hps : ∀ x, (encs x).size = ps.size)
    (I : List α → World → Prop) (Ix : Code → World → Prop) (hI : ∀ pre V V', I pre V → Below w.heap.size V V' → I pre V') (hIx : ∀ c V V', Ix c V → Below w.heap.size V V' → Ix c V') (h0 : I [] w) (hIM : ∀ pre V, I pre V → M V)
    (Ax : α → Act → World → Prop) (hAx : ∀ x a' V l r o, Ax x a' V → V.heap[l]? = some (.loop r) → Ax x a' (V.putObj l o))
    (hassign : ∀ (l : Nat) (pre : List α) (x : α) (V : World) (K : Act → World → Prop), I pre V → (∀ a' V', I pre V' → AB w.heap.size V V' → Ax x a' V' → K a' V') →
      assign.wpIn (Fence.wide.inRound l) 7 P (Exit.then K (fun _ _ _ => False)) { tmps := (ps.zip (encs x)).foldl (fun t (p, v) => t.setIfInBounds p v) a.tmps, defers := [] } V)
    (hbody : ∀ (l : Nat) (pre : List α) (x : α) (rest : List α) (a' : Act) (V : World), xs = pre ++ x :: rest → I pre V → Ax x a' V → body.wpIn (Fence.wide.inRound l) 7 P (roundX w.heap.size I Ix (pre ++ [x]) V) a' V)
    (hdone : ∀ (D : Nat) (V : World), w.heap.size ≤ D → I xs V → V.heap[D]? = some (.deferred (some [])) → Q .normal { a with defers := { target := .collected D, args := #[] } :: a.defers } V)
    (hstop : ∀ (D : Nat) (c : Code) (V : World), w.heap.size ≤ D → Ix c V → V.heap[D]? = some (.deferred (some [])) → c.wpIn Fence.wide 9 P Q { a with defers := { target := .collected D, args := #[] } :: a.defers } V) :
    (Code.rangeFunc g ps assign body).wpIn Fence.wide 9 P Q a w := by
  refine wpIn_rangeFunc ?_
  intro fn hfn
  obtain ⟨rec, hrec⟩ : ∃ rec : LoopState → Option Code → Loop, rec = fun st pe => { state := st, pending := pe, fn, tmps := a.tmps, params := ps, assign, body, defers := w.heap.size } := ⟨_, rfl⟩
  obtain ⟨W1, hW1⟩ : ∃ W1, (w.alloc (.deferred (some []))).alloc (.loop (rec .ready none)) = W1 := ⟨_, rfl⟩
  have hs1 : W1.heap.size = w.heap.size + 2 := by rw [← hW1]; simp
  have hL1 : W1.heap[w.heap.size + 1]? = some (.loop (rec .ready none)) := by
    rw [← hW1]; have := World.alloc_heap_new (w.alloc (.deferred (some []))) (.loop (rec .ready none)); rwa [World.size_alloc] at this
  have hK1 : W1.heap[w.heap.size]? = some (.deferred (some [])) := by
    rw [← hW1]; exact (Below.heap_alloc _ _ _ (by simp)).trans (World.alloc_heap_new w _)
  have hb1 : Below w.heap.size w W1 := by rw [← hW1]; exact ((Below.refl _ w).alloc (Nat.le_refl _) _).alloc (by simp) _
  refine ⟨w.heap.size + 1, [{ target := .collected w.heap.size, args := #[] }], W1, { target := .fn (.func gf) lb, args := #[.func (.yield (w.heap.size + 1)) #[] #[]] }, W1, gf,
    #[.func (.yield (w.heap.size + 1)) #[] #[]] ++ lb, W1, ?_, ?_, ?_, ?_, fun _ => by omega, ?_⟩
  · rw [← hW1, hrec]; exact run_enterLoop_outer _ _ _ _ _
  · simp only [resolve, hg]
    simp [go_sem]
  · exact fun _ _ => trivial
  · simp [invoke, go_sem, eg]
  · refine (callsIn_wide.2 (hseq (w.heap.size + 1)
      (fun pre V => I pre V ∧ V.heap[w.heap.size + 1]? = some (.loop (rec .ready none)) ∧ V.heap[w.heap.size]? = some (.deferred (some [])))
      (fun V => ∃ c, Ix c V ∧ V.heap[w.heap.size + 1]? = some (.loop (rec .done (some c))) ∧ V.heap[w.heap.size]? = some (.deferred (some [])))
      W1 hb1
      (fun pre V V' ⟨h1, h2, h3⟩ hb => ⟨hI pre V V' h1 (hb.mono (by omega)), (hb.block _ (by omega)).trans h2, (hb.block _ (by omega)).trans h3⟩)
      (fun V V' ⟨c, h1, h2, h3⟩ hb => ⟨c, hIx c V V' h1 (hb.mono (by omega)), (hb.block _ (by omega)).trans h2, (hb.block _ (by omega)).trans h3⟩)
      (fun pre V ⟨h1, h2, h3⟩ => ⟨hIM pre V h1, by have h9 := (Array.getElem?_eq_some_iff.1 h2).1; omega⟩)
      ?_ ⟨hI [] w W1 h0 hb1, hL1, hK1⟩)).mono ?_
    · rintro pre x rest V hx ⟨hi, hl, hk⟩
      have hy := run_yield (P := P) (args := encs x) hl (by rw [hrec]; exact hps x)
      rw [hrec] at hy
      refine ⟨fn, _, assign, body, hy, RoundIn.anyDepth (m := 7) rfl (roundIn_of_wpIn hfn (hassign _ pre x V _ hi (fun a' V' hi' hab hax => ?_)))⟩
      have hlt : w.heap.size + 1 < V.heap.size := (Array.getElem?_eq_some_iff.1 hl).1
      have hl' := (hab.same (w.heap.size + 1) (by omega) hlt).trans hl
      have hk' := (hab.same w.heap.size (by omega) (by omega)).trans hk
      have hlt' : w.heap.size + 1 < V'.heap.size := (Array.getElem?_eq_some_iff.1 hl').1
      refine ⟨_, run_beginRound hl' (by rw [hrec]), ?_⟩
      have hl2 : (V'.putObj (w.heap.size + 1) (.loop { rec .ready none with state := .busy })).heap[w.heap.size + 1]? = some (.loop { rec .ready none with state := .busy }) := World.putObj_heap_same hlt'
      have hk2 : (V'.putObj (w.heap.size + 1) (.loop { rec .ready none with state := .busy })).heap[w.heap.size]? = some (.deferred (some [])) := (World.putObj_heap_other (by omega)).trans hk'
      have hbp := below_put (B := w.heap.size) V' (w.heap.size + 1) (.loop { rec .ready none with state := .busy }) (by omega) hlt'
      have hap : AB W1.heap.size V' (V'.putObj (w.heap.size + 1) (.loop { rec .ready none with state := .busy })) := AB.put _ _ _ (by omega)
      refine wpIn_mono (hbody _ pre x rest a' _ hx (hI _ _ _ hi' hbp) (hAx _ _ _ _ _ _ hax hl')) ?_
      have fin : ∀ (jump : Option Code) (W3 : World), AB w.heap.size (V'.putObj (w.heap.size + 1) (.loop { rec .ready none with state := .busy })) W3 →
          (Instr.endRound (w.heap.size + 1) jump).run P W3 = .ok (.bool jump.isNone) (W3.putObj (w.heap.size + 1) (.loop (rec (if jump.isNone then .ready else .done) jump))) ∧
          (W3.putObj (w.heap.size + 1) (.loop (rec (if jump.isNone then .ready else .done) jump))).heap[w.heap.size + 1]? = some (.loop (rec (if jump.isNone then .ready else .done) jump)) ∧
          (W3.putObj (w.heap.size + 1) (.loop (rec (if jump.isNone then .ready else .done) jump))).heap[w.heap.size]? = some (.deferred (some [])) ∧
          Below w.heap.size W3 (W3.putObj (w.heap.size + 1) (.loop (rec (if jump.isNone then .ready else .done) jump))) ∧
          AB W1.heap.size V (W3.putObj (w.heap.size + 1) (.loop (rec (if jump.isNone then .ready else .done) jump))) := fun jump W3 hk3 => by
        have hl3 := (hk3.same _ (by omega) (lt_of_block hl2)).trans hl2
        have hkk := (hk3.same _ (by omega) (lt_of_block hk2)).trans hk2
        have := run_endRound (P := P) jump hl3
        rw [hrec] at this ⊢
        exact ⟨this, World.putObj_heap_same (lt_of_block hl3), (World.putObj_heap_other (by omega)).trans hkk, below_put _ _ _ (by omega) (lt_of_block hl3),
          (hab.mono (by omega)).trans (hap.trans ((hk3.mono (by omega)).trans (AB.put _ _ _ (by omega))))⟩
      rintro e a3 W3 hp
      cases e with
      | normal =>
        obtain ⟨hi3, hk3⟩ := hp
        obtain ⟨hr, hl4, hk4, hb4, ha4⟩ := fin none W3 hk3
        exact ⟨_, _, hr, .inl ⟨rfl, ⟨hI _ _ _ hi3 hb4, hl4, hk4⟩, ha4⟩⟩
      | ret =>
        obtain ⟨hi3, hk3⟩ := hp
        obtain ⟨hr, hl4, hk4, hb4, ha4⟩ := fin (some .ret) W3 hk3
        exact ⟨_, _, hr, .inr ⟨rfl, ⟨.ret, hIx _ _ _ hi3 hb4, hl4, hk4⟩, ha4⟩⟩
      | exit id =>
        obtain ⟨hi3, hk3⟩ := hp
        obtain ⟨hr, hl4, hk4, hb4, ha4⟩ := fin (some (.exit id)) W3 hk3
        exact ⟨_, _, hr, .inr ⟨rfl, ⟨.exit id, hIx _ _ _ hi3 hb4, hl4, hk4⟩, ha4⟩⟩
      | goto t =>
        obtain ⟨hi3, hk3⟩ := hp
        obtain ⟨hr, hl4, hk4, hb4, ha4⟩ := fin (some (.goto t)) W3 hk3
        exact ⟨_, _, hr, .inr ⟨rfl, ⟨.goto t, hIx _ _ _ hi3 hb4, hl4, hk4⟩, ha4⟩⟩
      | panic ch => exact hp.elim
      | outgrown => exact hp.elim
    · rintro e W2 ⟨⟨v, rfl⟩, (⟨hi, hl, hk⟩ | ⟨c, hi, hl, hk⟩)⟩
      · exact ⟨none, _, by have := run_endLoop (P := P) hl (by rw [hrec]; simp); rw [hrec] at this; exact this, hdone _ _ (Nat.le_refl _) (hI _ _ _ hi (below_put _ _ _ (by omega) (lt_of_block hl))) ((World.putObj_heap_other (by omega)).trans hk)⟩
      · exact ⟨some c, _, by have := run_endLoop (P := P) hl (by rw [hrec]; simp); rw [hrec] at this; exact this, hstop _ c _ (Nat.le_refl _) (hIx _ _ _ hi (below_put _ _ _ (by omega) (lt_of_block hl))) ((World.putObj_heap_other (by omega)).trans hk)⟩
end Go.Proofs.Ytegoeaofjnpehab
