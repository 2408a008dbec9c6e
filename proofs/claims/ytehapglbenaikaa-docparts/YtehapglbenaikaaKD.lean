/- Contract of write, of truths and bytes; the closure that writes a part. -/
import Derived.Test.YtehapglbenaikaaKC
namespace Go.Proofs.Ytehapglbenaikaa
open Go.RowKit
set_option linter.unusedVariables false

/-- bytes as a text. -/
def bk (ys : List Int) : ByteArray := ⟨(ys.map fun z => UInt8.ofNat z.toNat).toArray⟩
theorem sb_bk (ys : List Int) (h : Byts ys) : sb (bk ys) = ys := by
  unfold sb bk
  simp only [List.map_map]
  conv => rhs; rw [← List.map_id ys]
  apply List.map_congr_left
  intro z hz
  have := h z hz
  simp; omega
theorem bk_size (ys : List Int) : (bk ys).size = ys.length := by simp [bk, ByteArray.size]
theorem run_text (w : World) (a : Option Addr) (n c : Nat) (ys : List Int) (hl : ys.length = n) (hn : a = none → n = 0 ∧ c = 0) (hr : Row w a ys) (hb : Byts ys) : (convert 23 9 (.slice a n c)).run Try.prog w = .ok (.string (bk ys)) w := by
  cases a with
  | none =>
    obtain ⟨rfl, rfl⟩ := hn rfl
    have e : ys = [] := List.eq_nil_of_length_eq_zero hl
    subst e
    rw [run_convert_bytes_string w 23 9 5 none 0 0 Try.underlying23 Try.underlying5 Try.underlying9]
    rfl
  | some ad =>
    have h := run_convert_bytes_back (P := Try.prog) w 23 9 5 ad c (ys.map fun z => UInt8.ofNat z.toNat) Try.underlying23 Try.underlying5 Try.underlying9 (by
      intro j hj
      rw [List.length_map] at hj
      refine hr.news ad rfl j _ ?_
      have := hb (ys[j]) (List.getElem_mem hj)
      simp [hj]
      omega)
    rw [List.length_map, hl] at h
    exact h
theorem RowN.row {n₀ : Nat} {W : World} {a : Option Addr} {zs : List Int} (h : RowN n₀ W a zs) (hn : n₀ ≤ W.heap.size) : Row W a zs := by
  rcases h with h | ⟨b, o, rfl, hlt, hc⟩
  · exact .inl h
  · exact .inr ⟨b, o, rfl, by omega, hc⟩
set_option maxHeartbeats 800000 in
theorem truth_any (bo : Bool) (w : World) : Calls Try.prog 45 #[.bool bo] w fun e w' => e = .returned (.int .u8 ((if bo then 3 else 2 : Nat) : Int)) ∧ w' = w := by
  cases bo
  · go_enter Try.func45, Try.ntmps45
    go_wp2
    go_ret
    exact ⟨rfl, rfl⟩
  · go_enter Try.func45, Try.ntmps45
    go_wp2
    go_ret
    exact ⟨rfl, rfl⟩

set_option maxHeartbeats 1600000 in
set_option maxRecDepth 1000000 in
theorem dw2t (W : World) (p : Nat) (fv : Value) (n : Int) (t : ByteArray) (ya : Option Addr) (yc : Nat) (y : List Int) (la : Option Addr) (ll lc : Nat) (fa : Option Addr) (fl fc : Nat) (zs : List Int) (h : Wr W p zs) (hb : zs.length ≤ 100000000)  :
    Calls Try.prog 24 #[.pointer (some ⟨p, 0, none⟩), .agg #[.int .u8 2, .bool true, .int .i64 n, .string t, .slice ya y.length yc, .slice la ll lc, .slice fa fl fc], fv] W fun e W' => e = .returned (.tuple #[]) ∧ Wr W' p (zs ++ [3]) ∧ Wrote p W W' := by
  have H := hide h
  have HX := hide (below_alloc W (.cells #[.int .u8 2, .bool true, .int .i64 n, .string t, .slice ya y.length yc, .slice la ll lc, .slice fa fl fc] 27))
  have HB1 := hide (Box7.new W (.int .u8 2) (.bool true) (.int .i64 n) (.string t) (.slice ya y.length yc) (.slice la ll lc) (.slice fa fl fc))
  have HNf : Hid (¬ foot (W.alloc (.cells #[.int .u8 2, .bool true, .int .i64 n, .string t, .slice ya y.length yc, .slice la ll lc, .slice fa fl fc] 27)) p W.heap.size) := fun hf => by have := h.foot_lt ((foot_same (HX.out.block p h.lt)).1 hf); omega
  have HX0 := hide (h.below HX.out)
  have HWo := hide (Wrote.of_below h.lt HX.out)
  have HT := hide (fun w => truth_any true w)
  have HU := hide (wu8_any p 3 zs (W.alloc (.cells #[.int .u8 2, .bool true, .int .i64 n, .string t, .slice ya y.length yc, .slice la ll lc, .slice fa fl fc] 27)) HX0.out (by omega) (by omega))
  rw [fb_one 3 (by omega)] at HU
  clear h
  go_enter Try.func24, Try.ntmps24
  go_wp2_with fail
  refine (HT.out _).mono ?_
  rintro e V ⟨rfl, hV⟩
  subst hV
  go_wp2_with fail
  refine HU.out.mono ?_
  rintro e W1 ⟨rfl, hw1, ho1⟩
  have HW1 := hide hw1
  have HO1 := hide ho1
  clear hw1 ho1
  go_wp2
  go_end0
  exact ⟨rfl, HW1.out, HWo.out.trans HO1.out⟩

set_option maxHeartbeats 1600000 in
set_option maxRecDepth 1000000 in
theorem dw2f (W : World) (p : Nat) (fv : Value) (n : Int) (t : ByteArray) (ya : Option Addr) (yc : Nat) (y : List Int) (la : Option Addr) (ll lc : Nat) (fa : Option Addr) (fl fc : Nat) (zs : List Int) (h : Wr W p zs) (hb : zs.length ≤ 100000000)  :
    Calls Try.prog 24 #[.pointer (some ⟨p, 0, none⟩), .agg #[.int .u8 2, .bool false, .int .i64 n, .string t, .slice ya y.length yc, .slice la ll lc, .slice fa fl fc], fv] W fun e W' => e = .returned (.tuple #[]) ∧ Wr W' p (zs ++ [2]) ∧ Wrote p W W' := by
  have H := hide h
  have HX := hide (below_alloc W (.cells #[.int .u8 2, .bool false, .int .i64 n, .string t, .slice ya y.length yc, .slice la ll lc, .slice fa fl fc] 27))
  have HB1 := hide (Box7.new W (.int .u8 2) (.bool false) (.int .i64 n) (.string t) (.slice ya y.length yc) (.slice la ll lc) (.slice fa fl fc))
  have HNf : Hid (¬ foot (W.alloc (.cells #[.int .u8 2, .bool false, .int .i64 n, .string t, .slice ya y.length yc, .slice la ll lc, .slice fa fl fc] 27)) p W.heap.size) := fun hf => by have := h.foot_lt ((foot_same (HX.out.block p h.lt)).1 hf); omega
  have HX0 := hide (h.below HX.out)
  have HWo := hide (Wrote.of_below h.lt HX.out)
  have HT := hide (fun w => truth_any false w)
  have HU := hide (wu8_any p 2 zs (W.alloc (.cells #[.int .u8 2, .bool false, .int .i64 n, .string t, .slice ya y.length yc, .slice la ll lc, .slice fa fl fc] 27)) HX0.out (by omega) (by omega))
  rw [fb_one 2 (by omega)] at HU
  clear h
  go_enter Try.func24, Try.ntmps24
  go_wp2_with fail
  refine (HT.out _).mono ?_
  rintro e V ⟨rfl, hV⟩
  subst hV
  go_wp2_with fail
  refine HU.out.mono ?_
  rintro e W1 ⟨rfl, hw1, ho1⟩
  have HW1 := hide hw1
  have HO1 := hide ho1
  clear hw1 ho1
  go_wp2
  go_end0
  exact ⟨rfl, HW1.out, HWo.out.trans HO1.out⟩

set_option maxHeartbeats 1600000 in
set_option maxRecDepth 1000000 in
theorem dw5 (W : World) (p : Nat) (fv : Value) (bo : Bool) (n : Int) (t : ByteArray) (ya : Option Addr) (yc : Nat) (y : List Int) (la : Option Addr) (ll lc : Nat) (fa : Option Addr) (fl fc : Nat) (zs : List Int) (h : Wr W p zs) (hb : zs.length ≤ 100000000) (n₀ : Nat) (hN : New n₀ W p) (hn0 : n₀ ≤ W.heap.size) (hr : RowN n₀ W ya y) (hy : Byts y) (hn : ya = none → y = [] ∧ yc = 0) (hl : y.length ≤ 10000000) :
    Calls Try.prog 24 #[.pointer (some ⟨p, 0, none⟩), .agg #[.int .u8 5, .bool bo, .int .i64 n, .string t, .slice ya y.length yc, .slice la ll lc, .slice fa fl fc], fv] W fun e W' => e = .returned (.tuple #[]) ∧ Wr W' p (zs ++ (6 :: (vb y.length ++ y))) ∧ Wrote p W W' := by
  have H := hide h
  have HX := hide (below_alloc W (.cells #[.int .u8 5, .bool bo, .int .i64 n, .string t, .slice ya y.length yc, .slice la ll lc, .slice fa fl fc] 27))
  have HB1 := hide (Box7.new W (.int .u8 5) (.bool bo) (.int .i64 n) (.string t) (.slice ya y.length yc) (.slice la ll lc) (.slice fa fl fc))
  have HNf : Hid (¬ foot (W.alloc (.cells #[.int .u8 5, .bool bo, .int .i64 n, .string t, .slice ya y.length yc, .slice la ll lc, .slice fa fl fc] 27)) p W.heap.size) := fun hf => by have := h.foot_lt ((foot_same (HX.out.block p h.lt)).1 hf); omega
  have HX0 := hide (h.below HX.out)
  have HWo := hide (Wrote.of_below h.lt HX.out)
  have HU := hide (wu8_any p 6 zs (W.alloc (.cells #[.int .u8 5, .bool bo, .int .i64 n, .string t, .slice ya y.length yc, .slice la ll lc, .slice fa fl fc] 27)) HX0.out (by omega) (by omega))
  rw [fb_one 6 (by omega)] at HU
  have HRy := hide hr
  have HNw := hide hN
  have HYb := hide hy
  have HNy := hide hn
  clear hr hy hn hN
  clear h
  go_enter Try.func24, Try.ntmps24
  go_wp2_with fail
  refine HU.out.mono ?_
  rintro e W1 ⟨rfl, hw1, ho1⟩
  have HW1 := hide hw1
  have HO1 := hide ho1
  have HB2 : Hid (Box7 W1 W.heap.size (.int .u8 5) (.bool bo) (.int .i64 n) (.string t) (.slice ya y.length yc) (.slice la ll lc) (.slice fa fl fc)) := HB1.out.wrote ho1 HNf.out
  obtain ⟨k0, k1, k2, k3, k4, k5, k6⟩ := HB2.out.cells
  clear hw1 ho1
  have HRo : Hid (Row W1 ya y) := (HRy.out.on ((HWo.out.trans HO1.out).below HNw.out hn0)).row (Nat.le_trans hn0 (HWo.out.trans HO1.out).size)
  have kt := run_text W1 ya y.length yc y rfl (fun h => by obtain ⟨h1, h2⟩ := HNy.out h; exact ⟨by rw [h1]; rfl, h2⟩) HRo.out HYb.out
  go_wp2_with fail
  refine (wtext_any p (bk y) _ W1 HW1.out (by rw [bk_size]; exact hl) (by simp; omega)).mono ?_
  rintro e W2 ⟨rfl, hw2, ho2⟩
  have HW2 := hide hw2
  have HO2 := hide ho2
  clear hw2 ho2 k0 k1 k2 k3 k4 k5 k6
  go_wp2
  go_end0
  refine ⟨rfl, ?_, HWo.out.trans (HO1.out.trans HO2.out)⟩
  have := HW2.out
  rw [bk_size, sb_bk y HYb.out] at this
  simpa using this

mutual
/-- the bytes of a value. -/
def T.denc : T → List Int
  | .mk k bo n t _ _ y _ _ l _ _ f => if k = 1 then [1] else if k = 2 then [if bo then 3 else 2] else if k = 3 then 4 :: vb (zz n) else if k = 4 then 5 :: (vb t.size ++ sb t) else if k = 5 then 6 :: (vb y.length ++ y) else if k = 6 then 7 :: (vb l.list.length ++ l.denc) else if k = 7 then 8 :: (vb f.list.length ++ f.denc) else []
def TL.denc : TL → List Int
  | .nil => []
  | .cons v r => v.denc ++ r.denc
def FL.denc : FL → List Int
  | .nil => []
  | .cons s v r => vb s.size ++ (sb s ++ (v.denc ++ r.denc))
end
theorem TL.denc_is (l : TL) : l.denc = l.list.flatMap T.denc := by
  match l with
  | .nil => simp [TL.denc, TL.list]
  | .cons v r => simp [TL.denc, TL.list, TL.denc_is r]
def fden (x : ByteArray × T) : List Int := vb x.1.size ++ (sb x.1 ++ x.2.denc)
theorem FL.denc_is (f : FL) : f.denc = f.list.flatMap fden := by
  match f with
  | .nil => simp [FL.denc, FL.list]
  | .cons s v r => simp [FL.denc, FL.list, FL.denc_is r, fden]
/-- the cells of written: the writer's address, and the closure that writes a part. -/
structure DS (W : World) (p pw pp : Nat) : Prop where
  a : W.heap[pw]? = some (.cells #[.pointer (some ⟨p, 0, none⟩)] 43 (0, 0))
  b : W.heap[pp]? = some (.cells #[.func (.func 23) #[] #[.pointer (some ⟨pw, 0, none⟩), .pointer (some ⟨pp, 0, none⟩)]] 60 (0, 0))
  na : ¬ foot W p pw
  nb : ¬ foot W p pp
theorem DS.wrote {W W' : World} {p pw pp : Nat} (h : DS W p pw pp) (ho : Wrote p W W') : DS W' p pw pp :=
  ⟨(ho.block _ (lt_of_block h.a) h.na).trans h.a, (ho.block _ (lt_of_block h.b) h.nb).trans h.b,
    fun hf => (ho.foot _ hf).elim h.na (fun hs => by have := lt_of_block h.a; omega), fun hf => (ho.foot _ hf).elim h.nb (fun hs => by have := lt_of_block h.b; omega)⟩
theorem DS.below {W W' : World} {p pw pp : Nat} (h : DS W p pw pp) (hp : p < W.heap.size) (hb : Below W.heap.size W W') : DS W' p pw pp := h.wrote (Wrote.of_below hp hb)
/-- what write does of a value. -/
def Does (n₀ p pw pp : Nat) (v : T) : Prop := ∀ (W : World) (zs : List Int), Wr W p zs → DS W p pw pp → v.Mem n₀ W → New n₀ W p → n₀ ≤ W.heap.size → zs.length + v.denc.length ≤ 100000000 →
  Calls Try.prog 24 #[.pointer (some ⟨p, 0, none⟩), v.val, .func (.func 23) #[] #[.pointer (some ⟨pw, 0, none⟩), .pointer (some ⟨pp, 0, none⟩)]] W fun e W' => e = .returned (.tuple #[]) ∧ Wr W' p (zs ++ v.denc) ∧ Wrote p W W'
set_option maxHeartbeats 1600000 in
set_option maxRecDepth 1000000 in
theorem part_of (n₀ p pw pp : Nat) (v : T) (hd : Does n₀ p pw pp v) (W : World) (zs : List Int) (h : Wr W p zs) (hs : DS W p pw pp) (hm : v.Mem n₀ W) (hN : New n₀ W p) (hn : n₀ ≤ W.heap.size) (hb : zs.length + v.denc.length ≤ 100000000) :
    Calls Try.prog 23 #[v.val, .pointer (some ⟨pw, 0, none⟩), .pointer (some ⟨pp, 0, none⟩)] W fun e W' => e = .returned (.tuple #[]) ∧ Wr W' p (zs ++ v.denc) ∧ Wrote p W W' := by
  have kx := below_alloc W (.cells v.cells.toArray 27)
  have k1 := cell_of_one ((kx.block pw (lt_of_block hs.a)).trans hs.a)
  have k2 := cell_of_one ((kx.block pp (lt_of_block hs.b)).trans hs.b)
  have HX := hide kx
  clear kx
  have HD := hide (fun W' (hb' : Below W.heap.size W W') => hd W' zs (h.below hb') (hs.below h.lt hb') (hm.on (hb'.mono hn)) (hN.below h.lt hb') (Nat.le_trans hn hb'.size) hb)
  have HWo := hide (fun W' (hb' : Below W.heap.size W W') => Wrote.of_below h.lt hb')
  generalize v.denc = ys at *
  cases v with
  | mk k bo n t ya yc y la lc l fa fc f =>
  simp only [T.val, T.cells] at *
  clear hd h hs hm hN hn hb
  have HC := hide (HD.out _ HX.out)
  go_enter Try.func23, Try.ntmps23
  go_wp2_with fail
  refine HC.out.mono ?_
  rintro e W1 ⟨rfl, hw1, ho1⟩
  have HW1 := hide hw1
  have HO1 := hide ho1
  clear hw1 ho1
  go_wp2
  go_end0
  exact ⟨rfl, HW1.out, (HWo.out _ HX.out).trans HO1.out⟩
end Go.Proofs.Ytehapglbenaikaa
