/- What any value is written as. -/
import Derived.Test.YtegoeaofjnpehabVK
import Derived.Test.YtegoeaofjnpehabK
import Derived.Test.YtegoeaofjnpehabRM
namespace Go.Proofs.Ytegoeaofjnpehab
open Go.RowKit
set_option linter.unusedVariables false

def bYs (y : List Int) : List Int := 80 :: (esc y ++ [0, 1])
def bB (bo : Bool) : List Int := [if bo then 33 else 32]
mutual
/-- the bytes of a value. -/
def T.enc : T → List Int
  | .mk k bo n t _ _ y _ _ l _ _ _ => if k = 1 then [16] else if k = 2 then bB bo else if k = 3 then bI n else if k = 4 then bT t else if k = 5 then bYs y else if k = 6 then 96 :: (l.enc ++ [1]) else []
def TL.enc : TL → List Int
  | .nil => []
  | .cons v r => v.enc ++ r.enc
end
theorem TL.enc_is (l : TL) : l.enc = l.list.flatMap T.enc := by
  match l with
  | .nil => simp [TL.enc, TL.list]
  | .cons v r => simp [TL.enc, TL.list, TL.enc_is r]
theorem esc_ge (bs : List Int) : bs.length ≤ (esc bs).length := by
  induction bs with
  | nil => simp [esc]
  | cons c t ih =>
    have : esc (c :: t) = (if c = 0 then [0, 255] else [c]) ++ esc t := by simp [esc]
    rw [this, List.length_append]
    split <;> simp <;> omega
set_option maxHeartbeats 800000 in
theorem truth_yes (w : World) : Calls Try.prog 37 #[.bool true] w fun e w' => e = .returned (.int .u8 33) ∧ w' = w := by
  go_enter Try.func37, Try.ntmps37
  go_wp2
  go_ret
  exact ⟨rfl, rfl⟩
set_option maxHeartbeats 800000 in
theorem truth_no (w : World) : Calls Try.prog 37 #[.bool false] w fun e w' => e = .returned (.int .u8 32) ∧ w' = w := by
  go_enter Try.func37, Try.ntmps37
  go_wp2
  go_ret
  exact ⟨rfl, rfl⟩
theorem truth_any (bo : Bool) (w : World) : Calls Try.prog 37 #[.bool bo] w fun e w' => e = .returned (.int .u8 (if bo then 33 else 32)) ∧ w' = w := by
  cases bo
  · exact truth_no w
  · exact truth_yes w
set_option maxHeartbeats 1600000 in
set_option maxRecDepth 1000000 in
theorem wcon_nil (W : World) (po pt q : Nat) (m : Int) (a : Option Addr) (cap : Nat) (zs : List Int) (h : PutS W po pt q m zs) (hb : zs.length ≤ 10000000) :
    Calls Try.prog 39 #[.slice a 0 cap, .func (.func 25) #[] #[.pointer (some ⟨po, 0, none⟩), .pointer (some ⟨pt, 0, none⟩)]] W fun e W' => e = .returned (.tuple #[]) ∧ PutS W' po pt q m (zs ++ ([0, 1]).map (tn m)) ∧ Wrote po W W' := by
  have H := hide h
  clear h
  go_enter Try.func39, Try.ntmps39
  go_wp2
  go_loopw [8] (fun i wr => i = .int .i64 0 ∧ wr = W) (fun i _ => 0)
  case atStart => exact ⟨rfl, rfl⟩
  case round =>
    obtain ⟨rfl, rfl⟩ := hrel
    go_wp2_with fail
    refine (put_any wr po pt q m 0 _ H.out (by omega) (by omega)).mono ?_
    rintro e W1 ⟨rfl, hp1, ho1⟩
    have HP1 := hide hp1
    have HO1 := hide ho1
    clear hp1 ho1
    go_wp2_with fail
    refine (put_any W1 po pt q m 1 _ HP1.out (by omega) (by simp; omega)).mono ?_
    rintro e W2 ⟨rfl, hp2, ho2⟩
    have HP2 := hide hp2
    have HO2 := hide ho2
    clear hp2 ho2
    go_wp2
    go_end0
    exact ⟨rfl, by simpa using HP2.out, HO1.out.trans HO2.out⟩
set_option maxHeartbeats 1600000 in
set_option maxRecDepth 1000000 in
theorem w1 (W : World) (po pt q : Nat) (m : Int) (bo : Bool) (n : Int) (t : ByteArray) (ya : Option Addr) (yl yc : Nat) (la : Option Addr) (ll lc : Nat) (fa : Option Addr) (fl fc : Nat) (zs : List Int) (h : PutS W po pt q m zs) (hb : zs.length + 1 ≤ 10000000) :
    Calls Try.prog 24 #[.agg #[.int .u8 1, .bool bo, .int .i64 n, .string t, .slice ya yl yc, .slice la ll lc, .slice fa fl fc], .func (.func 25) #[] #[.pointer (some ⟨po, 0, none⟩), .pointer (some ⟨pt, 0, none⟩)]] W fun e W' => e = .returned (.tuple #[]) ∧ PutS W' po pt q m (zs ++ ([16]).map (tn m)) ∧ Wrote po W W' := by
  have HB1 := hide (Box7.new W (.int .u8 1) (.bool bo) (.int .i64 n) (.string t) (.slice ya yl yc) (.slice la ll lc) (.slice fa fl fc))
  have H := hide h
  have HB := hide hb
  clear h hb
  go_enter Try.func24, Try.ntmps24
  go_wp2
  go_quiet (fail)
  have HX : Hid (Below W.heap.size W ((W.alloc (.cells #[.int .u8 1, .bool bo, .int .i64 n, .string t, .slice ya yl yc, .slice la ll lc, .slice fa fl fc] 32)).drewN nq)) := below_drewN (below_alloc _ _) _
  have HB2 := hide (HB1.out.below (below_drewN (Below.refl _ _) nq))
  obtain ⟨k0, k1, k2, k3, k4, k5, k6⟩ := HB2.out.cells
  have hsz : W.heap.size < ((W.alloc (.cells #[.int .u8 1, .bool bo, .int .i64 n, .string t, .slice ya yl yc, .slice la ll lc, .slice fa fl fc] 32)).drewN nq).heap.size := HB2.out.lt
  generalize (W.alloc (.cells #[.int .u8 1, .bool bo, .int .i64 n, .string t, .slice ya yl yc, .slice la ll lc, .slice fa fl fc] 32)).drewN nq = X at *
  go_wp2_with fail
  refine (put_any X po pt q m 16 _ (H.out.below HX.out) (by first | omega | (split <;> omega)) (by have := HB.out; simp; omega)).mono ?_
  rintro e W1 ⟨rfl, hp1, ho1⟩
  have HP1 := hide hp1
  have HO1 := hide ho1
  clear k0 k1 k2 k3 k4 k5 k6
  clear hp1 ho1
  go_wp2
  go_end0
  refine ⟨rfl, ?_, (Wrote.of_below H.out.wr.lt HX.out).trans (HO1.out)⟩
  have := HP1.out
  simpa using this
set_option maxHeartbeats 1600000 in
set_option maxRecDepth 1000000 in
theorem w2 (W : World) (po pt q : Nat) (m : Int) (bo : Bool) (n : Int) (t : ByteArray) (ya : Option Addr) (yl yc : Nat) (la : Option Addr) (ll lc : Nat) (fa : Option Addr) (fl fc : Nat) (zs : List Int) (h : PutS W po pt q m zs) (hb : zs.length + 1 ≤ 10000000) (cb : Int) (hc : 0 ≤ cb ∧ cb ≤ 255) (HT : Hid (∀ w, Calls Try.prog 37 #[.bool bo] w fun e w' => e = .returned (.int .u8 cb) ∧ w' = w)) :
    Calls Try.prog 24 #[.agg #[.int .u8 2, .bool bo, .int .i64 n, .string t, .slice ya yl yc, .slice la ll lc, .slice fa fl fc], .func (.func 25) #[] #[.pointer (some ⟨po, 0, none⟩), .pointer (some ⟨pt, 0, none⟩)]] W fun e W' => e = .returned (.tuple #[]) ∧ PutS W' po pt q m (zs ++ ([cb]).map (tn m)) ∧ Wrote po W W' := by
  have HB1 := hide (Box7.new W (.int .u8 2) (.bool bo) (.int .i64 n) (.string t) (.slice ya yl yc) (.slice la ll lc) (.slice fa fl fc))
  have H := hide h
  have HB := hide hb
  have HCB := hide hc
  clear h hb hc
  go_enter Try.func24, Try.ntmps24
  go_wp2
  go_quiet (fail)
  have HX : Hid (Below W.heap.size W ((W.alloc (.cells #[.int .u8 2, .bool bo, .int .i64 n, .string t, .slice ya yl yc, .slice la ll lc, .slice fa fl fc] 32)).drewN nq)) := below_drewN (below_alloc _ _) _
  have HB2 := hide (HB1.out.below (below_drewN (Below.refl _ _) nq))
  obtain ⟨k0, k1, k2, k3, k4, k5, k6⟩ := HB2.out.cells
  have hsz : W.heap.size < ((W.alloc (.cells #[.int .u8 2, .bool bo, .int .i64 n, .string t, .slice ya yl yc, .slice la ll lc, .slice fa fl fc] 32)).drewN nq).heap.size := HB2.out.lt
  generalize (W.alloc (.cells #[.int .u8 2, .bool bo, .int .i64 n, .string t, .slice ya yl yc, .slice la ll lc, .slice fa fl fc] 32)).drewN nq = X at *
  go_wp2_with fail
  refine (HT.out _).mono ?_
  rintro e X2 ⟨rfl, rfl⟩
  go_wp2_with fail
  refine (put_any X2 po pt q m _ _ (H.out.below HX.out) HCB.out (by have := HB.out; simp; omega)).mono ?_
  rintro e W1 ⟨rfl, hp1, ho1⟩
  have HP1 := hide hp1
  have HO1 := hide ho1
  clear k0 k1 k2 k3 k4 k5 k6
  clear hp1 ho1
  go_wp2
  go_end0
  refine ⟨rfl, ?_, (Wrote.of_below H.out.wr.lt HX.out).trans (HO1.out)⟩
  have := HP1.out
  simpa using this
set_option maxHeartbeats 1600000 in
set_option maxRecDepth 1000000 in
theorem w3 (W : World) (po pt q : Nat) (m : Int) (bo : Bool) (n : Int) (t : ByteArray) (ya : Option Addr) (yl yc : Nat) (la : Option Addr) (ll lc : Nat) (fa : Option Addr) (fl fc : Nat) (zs : List Int) (h : PutS W po pt q m zs) (hb : zs.length + 9 ≤ 10000000) :
    Calls Try.prog 24 #[.agg #[.int .u8 3, .bool bo, .int .i64 n, .string t, .slice ya yl yc, .slice la ll lc, .slice fa fl fc], .func (.func 25) #[] #[.pointer (some ⟨po, 0, none⟩), .pointer (some ⟨pt, 0, none⟩)]] W fun e W' => e = .returned (.tuple #[]) ∧ PutS W' po pt q m (zs ++ (bI n).map (tn m)) ∧ Wrote po W W' := by
  have HB1 := hide (Box7.new W (.int .u8 3) (.bool bo) (.int .i64 n) (.string t) (.slice ya yl yc) (.slice la ll lc) (.slice fa fl fc))
  have H := hide h
  have HB := hide hb
  clear h hb
  go_enter Try.func24, Try.ntmps24
  go_wp2
  go_quiet (fail)
  have HX : Hid (Below W.heap.size W ((W.alloc (.cells #[.int .u8 3, .bool bo, .int .i64 n, .string t, .slice ya yl yc, .slice la ll lc, .slice fa fl fc] 32)).drewN nq)) := below_drewN (below_alloc _ _) _
  have HB2 := hide (HB1.out.below (below_drewN (Below.refl _ _) nq))
  obtain ⟨k0, k1, k2, k3, k4, k5, k6⟩ := HB2.out.cells
  have hsz : W.heap.size < ((W.alloc (.cells #[.int .u8 3, .bool bo, .int .i64 n, .string t, .slice ya yl yc, .slice la ll lc, .slice fa fl fc] 32)).drewN nq).heap.size := HB2.out.lt
  generalize (W.alloc (.cells #[.int .u8 3, .bool bo, .int .i64 n, .string t, .slice ya yl yc, .slice la ll lc, .slice fa fl fc] 32)).drewN nq = X at *
  have hnf : ¬ foot X po W.heap.size := fun hf => by
    have := H.out.wr.foot_lt ((foot_same (HX.out.block po H.out.wr.lt)).1 hf)
    omega
  go_wp2_with fail
  refine (put_any X po pt q m 48 _ (H.out.below HX.out) (by first | omega | (split <;> omega)) (by have := HB.out; simp; omega)).mono ?_
  rintro e W1 ⟨rfl, hp1, ho1⟩
  have HP1 := hide hp1
  have HO1 := hide ho1
  have hk2 : W1.cell? ⟨W.heap.size, 2, none⟩ = some (.int .i64 n) := (World.cell?_of_block (a := ⟨W.heap.size, 2, none⟩) (ho1.block W.heap.size HB2.out.lt hnf)).trans k2
  clear k0 k1 k2 k3 k4 k5 k6
  clear hp1 ho1
  clear hnf
  go_wp2_with fail
  refine (wnum_any W1 po pt q m n _ HP1.out (by have := HB.out; simp; omega)).mono ?_
  rintro e W2 ⟨rfl, hp2, ho2⟩
  have HP2 := hide hp2
  have HO2 := hide ho2
  clear hp2 ho2
  go_wp2
  go_end0
  refine ⟨rfl, ?_, (Wrote.of_below H.out.wr.lt HX.out).trans (HO1.out.trans HO2.out)⟩
  have := HP2.out
  simpa [bI] using this
set_option maxHeartbeats 1600000 in
set_option maxRecDepth 1000000 in
theorem w4 (W : World) (po pt q : Nat) (m : Int) (bo : Bool) (n : Int) (t : ByteArray) (ya : Option Addr) (yl yc : Nat) (la : Option Addr) (ll lc : Nat) (fa : Option Addr) (fl fc : Nat) (zs : List Int) (h : PutS W po pt q m zs) (hb : zs.length + 1 ≤ 10000000) (ht : t.size ≤ 10000000) :
    Calls Try.prog 24 #[.agg #[.int .u8 4, .bool bo, .int .i64 n, .string t, .slice ya yl yc, .slice la ll lc, .slice fa fl fc], .func (.func 25) #[] #[.pointer (some ⟨po, 0, none⟩), .pointer (some ⟨pt, 0, none⟩)]] W fun e W' => e = .returned (.tuple #[]) ∧ PutS W' po pt q m (zs ++ (bT t).map (tn m)) ∧ Wrote po W W' := by
  have HB1 := hide (Box7.new W (.int .u8 4) (.bool bo) (.int .i64 n) (.string t) (.slice ya yl yc) (.slice la ll lc) (.slice fa fl fc))
  have H := hide h
  have HB := hide hb
  clear h hb
  go_enter Try.func24, Try.ntmps24
  go_wp2
  go_quiet (fail)
  have HX : Hid (Below W.heap.size W ((W.alloc (.cells #[.int .u8 4, .bool bo, .int .i64 n, .string t, .slice ya yl yc, .slice la ll lc, .slice fa fl fc] 32)).drewN nq)) := below_drewN (below_alloc _ _) _
  have HB2 := hide (HB1.out.below (below_drewN (Below.refl _ _) nq))
  obtain ⟨k0, k1, k2, k3, k4, k5, k6⟩ := HB2.out.cells
  have hsz : W.heap.size < ((W.alloc (.cells #[.int .u8 4, .bool bo, .int .i64 n, .string t, .slice ya yl yc, .slice la ll lc, .slice fa fl fc] 32)).drewN nq).heap.size := HB2.out.lt
  generalize (W.alloc (.cells #[.int .u8 4, .bool bo, .int .i64 n, .string t, .slice ya yl yc, .slice la ll lc, .slice fa fl fc] 32)).drewN nq = X at *
  obtain ⟨cc, Y, hcv, hrow, hbel, hlt⟩ := text_new t X.drew
  have HRow := hide hrow
  have HBel := hide hbel
  clear hrow hbel
  go_wp2_with fail
  go_region
  have HFr : Hid (Fr W.heap.size W Y) := ((Fr.mk HX.out (Nat.le_of_lt hsz)).drew).on HBel.out
  have HPy := hide (H.out.below HFr.out.below)
  have hoff : Off Y po (some ⟨X.heap.size, 0, none⟩) := by
    intro ad e
    cases e
    refine ⟨hlt, fun hf => ?_⟩
    have := H.out.wr.foot_lt ((foot_same (HFr.out.below.block po H.out.wr.lt)).1 hf)
    have hh : X.heap.size < W.heap.size := this
    omega
  have HOf := hide hoff
  clear hcv hoff k0 k1 k2 k3 k4 k5 k6
  go_wp2_with fail
  refine (put_any Y po pt q m 64 _ HPy.out (by first | omega | (split <;> omega)) (by have := HB.out; simp; omega)).mono ?_
  rintro e W1 ⟨rfl, hp1, ho1⟩
  have HP1 := hide hp1
  have HO1 := hide ho1
  clear hp1 ho1
  go_wp2_with fail
  refine (wcon_any W1 po pt q m _ _ _ _ (sb t) HP1.out (sb_len t) (HRow.out.wrote HOf.out HO1.out) (HOf.out.wrote HO1.out) (sb_byts t) (by omega) (by have := HB.out; simp; omega)).mono ?_
  rintro e W2 ⟨rfl, hp2, ho2⟩
  have HP2 := hide hp2
  have HO2 := hide ho2
  clear hp2 ho2
  go_wp2
  go_end0
  refine ⟨rfl, ?_, (Wrote.of_below H.out.wr.lt HFr.out.below).trans (HO1.out.trans HO2.out)⟩
  have := HP2.out
  simpa [bT] using this
set_option maxHeartbeats 1600000 in
set_option maxRecDepth 1000000 in
theorem w5 (W : World) (po pt q : Nat) (m : Int) (bo : Bool) (n : Int) (t : ByteArray) (ya : Option Addr) (yl yc : Nat) (la : Option Addr) (ll lc : Nat) (fa : Option Addr) (fl fc : Nat) (zs : List Int) (h : PutS W po pt q m zs) (hb : zs.length + 1 ≤ 10000000) (y : List Int) (HC : Hid (∀ W1 zs1, PutS W1 po pt q m zs1 → Wrote po W W1 → zs1.length ≤ 10000000 → Calls Try.prog 39 #[.slice ya yl yc, .func (.func 25) #[] #[.pointer (some ⟨po, 0, none⟩), .pointer (some ⟨pt, 0, none⟩)]] W1 fun e W' => e = .returned (.tuple #[]) ∧ PutS W' po pt q m (zs1 ++ (esc y ++ [0, 1]).map (tn m)) ∧ Wrote po W1 W')) :
    Calls Try.prog 24 #[.agg #[.int .u8 5, .bool bo, .int .i64 n, .string t, .slice ya yl yc, .slice la ll lc, .slice fa fl fc], .func (.func 25) #[] #[.pointer (some ⟨po, 0, none⟩), .pointer (some ⟨pt, 0, none⟩)]] W fun e W' => e = .returned (.tuple #[]) ∧ PutS W' po pt q m (zs ++ (bYs y).map (tn m)) ∧ Wrote po W W' := by
  have HB1 := hide (Box7.new W (.int .u8 5) (.bool bo) (.int .i64 n) (.string t) (.slice ya yl yc) (.slice la ll lc) (.slice fa fl fc))
  have H := hide h
  have HB := hide hb
  clear h hb
  go_enter Try.func24, Try.ntmps24
  go_wp2
  go_quiet (fail)
  have HX : Hid (Below W.heap.size W ((W.alloc (.cells #[.int .u8 5, .bool bo, .int .i64 n, .string t, .slice ya yl yc, .slice la ll lc, .slice fa fl fc] 32)).drewN nq)) := below_drewN (below_alloc _ _) _
  have HB2 := hide (HB1.out.below (below_drewN (Below.refl _ _) nq))
  obtain ⟨k0, k1, k2, k3, k4, k5, k6⟩ := HB2.out.cells
  have hsz : W.heap.size < ((W.alloc (.cells #[.int .u8 5, .bool bo, .int .i64 n, .string t, .slice ya yl yc, .slice la ll lc, .slice fa fl fc] 32)).drewN nq).heap.size := HB2.out.lt
  generalize (W.alloc (.cells #[.int .u8 5, .bool bo, .int .i64 n, .string t, .slice ya yl yc, .slice la ll lc, .slice fa fl fc] 32)).drewN nq = X at *
  go_wp2_with fail
  refine (put_any X po pt q m 80 _ (H.out.below HX.out) (by first | omega | (split <;> omega)) (by have := HB.out; simp; omega)).mono ?_
  rintro e W1 ⟨rfl, hp1, ho1⟩
  have HP1 := hide hp1
  have HO1 := hide ho1
  clear k0 k1 k2 k3 k4 k5 k6
  clear hp1 ho1
  go_wp2_with fail
  refine (HC.out W1 _ HP1.out ((Wrote.of_below H.out.wr.lt HX.out).trans HO1.out) (by have := HB.out; simp; omega)).mono ?_
  rintro e W2 ⟨rfl, hp2, ho2⟩
  have HP2 := hide hp2
  have HO2 := hide ho2
  clear hp2 ho2
  go_wp2
  go_end0
  refine ⟨rfl, ?_, (Wrote.of_below H.out.wr.lt HX.out).trans (HO1.out.trans HO2.out)⟩
  have := HP2.out
  simpa [bYs] using this
set_option maxHeartbeats 1600000 in
set_option maxRecDepth 1000000 in
theorem w6 (n₀ : Nat) (W : World) (po pt q : Nat) (m : Int) (bo : Bool) (n : Int) (t : ByteArray) (ya : Option Addr) (yl yc : Nat) (la : Option Addr) (lc : Nat) (fa : Option Addr) (fl fc : Nat) (l : TL) (zs : List Int) (h : PutS W po pt q m zs) (hb : zs.length + (l.enc.length + 2) ≤ 10000000) (hm : l.Mem n₀ W la 0) (hlen : l.list.length ≤ 9223372036854775807) (hN : New n₀ W po) (hn : n₀ ≤ W.heap.size)
    (HI : Hid (∀ c ∈ l.list, ∀ W zs, PutS W po pt q m zs → c.Mem n₀ W → New n₀ W po → n₀ ≤ W.heap.size → zs.length + c.enc.length ≤ 10000000 → Calls Try.prog 24 #[c.val, .func (.func 25) #[] #[.pointer (some ⟨po, 0, none⟩), .pointer (some ⟨pt, 0, none⟩)]] W fun e W' => e = .returned (.tuple #[]) ∧ PutS W' po pt q m (zs ++ c.enc.map (tn m)) ∧ Wrote po W W')) :
    Calls Try.prog 24 #[.agg #[.int .u8 6, .bool bo, .int .i64 n, .string t, .slice ya yl yc, .slice la l.list.length lc, .slice fa fl fc], .func (.func 25) #[] #[.pointer (some ⟨po, 0, none⟩), .pointer (some ⟨pt, 0, none⟩)]] W fun e W' => e = .returned (.tuple #[]) ∧ PutS W' po pt q m (zs ++ (96 :: (l.enc ++ [1])).map (tn m)) ∧ Wrote po W W' := by
  have HM := hide hm
  have HNw := hide hN
  have HEi := hide (TL.enc_is l)
  clear hm hN
  have HB1 := hide (Box7.new W (.int .u8 6) (.bool bo) (.int .i64 n) (.string t) (.slice ya yl yc) (.slice la l.list.length lc) (.slice fa fl fc))
  have H := hide h
  have HB := hide hb
  clear h hb
  go_enter Try.func24, Try.ntmps24
  go_wp2
  go_quiet (fail)
  have HX : Hid (Below W.heap.size W ((W.alloc (.cells #[.int .u8 6, .bool bo, .int .i64 n, .string t, .slice ya yl yc, .slice la l.list.length lc, .slice fa fl fc] 32)).drewN nq)) := below_drewN (below_alloc _ _) _
  have HB2 := hide (HB1.out.below (below_drewN (Below.refl _ _) nq))
  obtain ⟨k0, k1, k2, k3, k4, k5, k6⟩ := HB2.out.cells
  have hsz : W.heap.size < ((W.alloc (.cells #[.int .u8 6, .bool bo, .int .i64 n, .string t, .slice ya yl yc, .slice la l.list.length lc, .slice fa fl fc] 32)).drewN nq).heap.size := HB2.out.lt
  generalize (W.alloc (.cells #[.int .u8 6, .bool bo, .int .i64 n, .string t, .slice ya yl yc, .slice la l.list.length lc, .slice fa fl fc] 32)).drewN nq = X at *
  have hnf : ¬ foot X po W.heap.size := fun hf => by
    have := H.out.wr.foot_lt ((foot_same (HX.out.block po H.out.wr.lt)).1 hf)
    omega
  go_wp2_with fail
  refine (put_any X po pt q m 96 _ (H.out.below HX.out) (by first | omega | (split <;> omega)) (by have := HB.out; simp; omega)).mono ?_
  rintro e W1 ⟨rfl, hp1, ho1⟩
  have HP1 := hide hp1
  have HO1 := hide ho1
  have hk5 : W1.cell? ⟨W.heap.size, 5, none⟩ = some (.slice la l.list.length lc) := (World.cell?_of_block (a := ⟨W.heap.size, 5, none⟩) (ho1.block W.heap.size HB2.out.lt hnf)).trans k5
  clear k0 k1 k2 k3 k4 k5 k6
  clear hp1 ho1
  have HO0 := hide ((Wrote.of_below H.out.wr.lt HX.out).trans HO1.out)
  clear hnf HB1 HB2
  go_wp2
  go_loopw [51] (fun i wr => ∃ j : Nat, j ≤ l.list.length ∧ i = .int .i64 (j : Int) ∧ PutS wr po pt q m (zs ++ (96 :: (l.list.take j).flatMap T.enc).map (tn m)) ∧ Wrote po W wr) (fun i _ => l.list.length - (intOf i).toNat)
  case atStart => exact ⟨0, by omega, rfl, by simpa using HP1.out, HO0.out⟩
  case round =>
    obtain ⟨j, hj, rfl, hp, ho⟩ := hrel
    have HP := hide hp
    have HO := hide ho
    clear hp ho HP1 HO1 HO0 hk5
    have hszr : W.heap.size ≤ wr.heap.size := HO.out.size
    by_cases hlt : j < l.list.length
    · obtain ⟨c, hc⟩ : ∃ c, l.list[j]? = some c := ⟨_, List.getElem?_eq_getElem hlt⟩
      have HTk := hide (take_next l.list j c hc)
      have HLn : Hid (((l.list.take j).flatMap T.enc).length + c.enc.length ≤ l.enc.length) := by
        rw [Hid, HEi.out]
        conv => rhs; rw [split_list l.list j c hc]
        simp [← Nat.add_assoc]
      have hmem : c ∈ l.list := List.mem_of_getElem? hc
      have HMw := hide (HM.out.on (HO.out.below HNw.out hn))
      have HIc := hide (fun W zs => HI.out c hmem W zs)
      have HMc := hide (TL.Mem.at l 0 HMw.out j c hc).2
      have HNr := hide (HNw.out.wrote HO.out hn)
      clear hmem
      cases c with
      | mk ck cbo cn ct cya cyc cy cla clc cl cfa cfc cf =>
      obtain ⟨b', o', rfl, hb', c0, c1, c2, c3, c4, c5, c6⟩ := HMw.out.cells hc
      clear hc
      have HXa := hide (below_alloc wr (.cells #[.int .u8 ck, .bool cbo, .int .i64 cn, .string ct, .slice cya cy.length cyc, .slice cla cl.list.length clc, .slice cfa cf.list.length cfc] 32))
      simp only [T.val] at HIc
      go_wp2_with fail
      refine (HIc.out _ _ (HP.out.below HXa.out) (HMc.out.on (HXa.out.mono (by omega))) (HNr.out.below HP.out.wr.lt HXa.out) (by simp; omega) (by have := HB.out; have := HLn.out; simp at *; omega)).mono ?_
      rintro e W3 ⟨rfl, hp3, ho3⟩
      have HP3 := hide hp3
      have HO3 := hide ho3
      clear hp3 ho3 c0 c1 c2 c3 c4 c5 c6
      go_wp2
      go_roundw
      case rel => exact ⟨j + 1, by omega, by go_num, by rw [HTk.out]; simpa using HP3.out, HO.out.trans ((Wrote.of_below HP.out.wr.lt HXa.out).trans HO3.out)⟩
      case measure => simp [intOf]; omega
    · have hjl : l.list.take j = l.list := List.take_of_length_le (by omega)
      rw [hjl, ← HEi.out] at HP
      clear hjl
      go_wp2_with fail
      refine (put_any wr po pt q m 1 _ HP.out (by omega) (by have := HB.out; simp; omega)).mono ?_
      rintro e W2 ⟨rfl, hp2, ho2⟩
      have HP2 := hide hp2
      have HO2 := hide ho2
      clear hp2 ho2
      go_wp2
      go_end0
      refine ⟨rfl, ?_, HO.out.trans HO2.out⟩
      have := HP2.out
      simpa using this
set_option maxHeartbeats 1600000 in
set_option maxRecDepth 1000000 in
theorem w_else (k : Int) (W : World) (po pt q : Nat) (m : Int) (bo : Bool) (n : Int) (t : ByteArray) (ya : Option Addr) (yl yc : Nat) (la : Option Addr) (ll lc : Nat) (fa : Option Addr) (fl fc : Nat) (zs : List Int) (h : PutS W po pt q m zs) (h1 : (k == 1) = false) (h2 : (k == 2) = false) (h3 : (k == 3) = false) (h4 : (k == 4) = false) (h5 : (k == 5) = false) (h6 : (k == 6) = false) :
    Calls Try.prog 24 #[.agg #[.int .u8 k, .bool bo, .int .i64 n, .string t, .slice ya yl yc, .slice la ll lc, .slice fa fl fc], .func (.func 25) #[] #[.pointer (some ⟨po, 0, none⟩), .pointer (some ⟨pt, 0, none⟩)]] W fun e W' => e = .returned (.tuple #[]) ∧ PutS W' po pt q m (zs ++ ([] : List Int).map (tn m)) ∧ Wrote po W W' := by
  have hb : True := trivial
  have HB1 := hide (Box7.new W (.int .u8 k) (.bool bo) (.int .i64 n) (.string t) (.slice ya yl yc) (.slice la ll lc) (.slice fa fl fc))
  have H := hide h
  have HB := hide hb
  clear h hb
  go_enter Try.func24, Try.ntmps24
  go_wp2
  go_quiet (fail)
  have HX : Hid (Below W.heap.size W ((W.alloc (.cells #[.int .u8 k, .bool bo, .int .i64 n, .string t, .slice ya yl yc, .slice la ll lc, .slice fa fl fc] 32)).drewN nq)) := below_drewN (below_alloc _ _) _
  have HB2 := hide (HB1.out.below (below_drewN (Below.refl _ _) nq))
  obtain ⟨k0, k1, k2, k3, k4, k5, k6⟩ := HB2.out.cells
  have hsz : W.heap.size < ((W.alloc (.cells #[.int .u8 k, .bool bo, .int .i64 n, .string t, .slice ya yl yc, .slice la ll lc, .slice fa fl fc] 32)).drewN nq).heap.size := HB2.out.lt
  generalize (W.alloc (.cells #[.int .u8 k, .bool bo, .int .i64 n, .string t, .slice ya yl yc, .slice la ll lc, .slice fa fl fc] 32)).drewN nq = X at *
  go_wp2
  go_end0
  refine ⟨rfl, ?_, Wrote.of_below H.out.wr.lt HX.out⟩
  simpa using H.out.below HX.out
theorem RowN.row {n₀ : Nat} {W : World} {a : Option Addr} {zs : List Int} (h : RowN n₀ W a zs) (hn : n₀ ≤ W.heap.size) : Row W a zs := by
  rcases h with h | ⟨b, o, rfl, hlt, hc⟩
  · exact .inl h
  · exact .inr ⟨b, o, rfl, by omega, hc⟩
theorem write_gen (n₀ po pt q : Nat) (m : Int) : ∀ (N : Nat) (v : T), v.sz ≤ N → ∀ (W : World) (zs : List Int), PutS W po pt q m zs → v.Mem n₀ W → New n₀ W po → n₀ ≤ W.heap.size → zs.length + v.enc.length ≤ 10000000 →
    Calls Try.prog 24 #[v.val, .func (.func 25) #[] #[.pointer (some ⟨po, 0, none⟩), .pointer (some ⟨pt, 0, none⟩)]] W fun e W' => e = .returned (.tuple #[]) ∧ PutS W' po pt q m (zs ++ v.enc.map (tn m)) ∧ Wrote po W W' := by
  intro N
  induction N with
  | zero => intro v hv; cases v; simp [T.sz] at hv
  | succ N ih =>
    intro v hv W zs h hm hN hn hb
    cases v with
    | mk k bo n t ya yc y la lc l fa fc f =>
    simp only [T.val]
    by_cases k1 : k = 1
    · subst k1
      exact w1 W po pt q m bo n t ya y.length yc la l.list.length lc fa f.list.length fc zs h (by simpa [T.enc] using hb)
    by_cases k2 : k = 2
    · subst k2
      exact w2 W po pt q m bo n t ya y.length yc la l.list.length lc fa f.list.length fc zs h (by simpa [T.enc, bB] using hb) (if bo then 33 else 32) (by split <;> omega) (truth_any bo)
    by_cases k3 : k = 3
    · subst k3
      exact w3 W po pt q m bo n t ya y.length yc la l.list.length lc fa f.list.length fc zs h (by simpa [T.enc, bI, nbs_len] using hb)
    by_cases k4 : k = 4
    · subst k4
      have := esc_ge (sb t)
      have hb2 : zs.length + (bT t).length ≤ 10000000 := hb
      rw [sb_len] at this
      simp [bT] at hb2
      exact w4 W po pt q m bo n t ya y.length yc la l.list.length lc fa f.list.length fc zs h (by omega) (by omega)
    by_cases k5 : k = 5
    · subst k5
      have := esc_ge y
      have hb2 : zs.length + (bYs y).length ≤ 10000000 := hb
      simp [bYs] at hb2
      refine w5 W po pt q m bo n t ya y.length yc la l.list.length lc fa f.list.length fc zs h (by omega) y ?_
      intro W1 zs1 hp ho hz
      have hB := ho.below hN hn
      have hn1 : n₀ ≤ W1.heap.size := Nat.le_trans hn ho.size
      by_cases hy0 : y = []
      · subst hy0
        exact wcon_nil W1 po pt q m ya yc zs1 hp (by omega)
      · have hr := hm.1.on hB
        refine wcon_any W1 po pt q m ya y.length yc zs1 y hp rfl (hr.row hn1) ?_ hm.2.1 (by omega) (by omega)
        rcases hr with h0 | ⟨b, o, rfl, hlt, _⟩
        · exact absurd h0 hy0
        · intro ad e
          cases e
          refine ⟨Nat.lt_of_lt_of_le hlt hn1, fun hf => ?_⟩
          have h9 := (hN.wrote ho hn) _ hf
          have h8 : b < n₀ := hlt
          have h7 : n₀ ≤ b := h9
          omega
    by_cases k6 : k = 6
    · subst k6
      have hb2 : zs.length + (96 :: (l.enc ++ [1])).length ≤ 10000000 := hb
      simp at hb2
      refine w6 n₀ W po pt q m bo n t ya y.length yc la lc fa f.list.length fc l zs h (by omega) hm.2.2.2.2.1 hm.2.2.2.2.2.2.1 hN hn ?_
      intro c hc W1 zs1 hp h1 h2 h3 h4
      refine ih c ?_ W1 zs1 hp h1 h2 h3 h4
      have := T.kid_sz (.mk 6 bo n t ya yc y la lc l fa fc f) c (by simp only [T.kids]; exact List.mem_append_left _ hc)
      omega
    have e : (T.mk k bo n t ya yc y la lc l fa fc f).enc = [] := by simp [T.enc, k1, k2, k3, k4, k5, k6]
    rw [e]
    exact w_else k W po pt q m bo n t ya y.length yc la l.list.length lc fa f.list.length fc zs h (by simp [k1]) (by simp [k2]) (by simp [k3]) (by simp [k4]) (by simp [k5]) (by simp [k6])
end Go.Proofs.Ytegoeaofjnpehab
/- One of any value, rising or falling. -/
namespace Go.Proofs.Ytegoeaofjnpehab
open Go.RowKit
set_option linter.unusedVariables false

/-- what One answers: the error, or 0. -/
def oneE (v : T) : Nat := if ckE v = 0 then (if v.hd then 41 else if 160 < v.enc.length then 42 else 0) else 40
def mk (d : Bool) : Int := if d then 255 else 0
theorem turning_any (d : Bool) (W : World) : Calls Try.prog 23 #[.bool d] W fun e w' => e = .returned (.func (.func 36) #[] #[.pointer (some ⟨W.heap.size, 0, none⟩)]) ∧ w' = W.alloc (.cells #[.int .u8 (mk d)] 5) := by
  cases d
  · exact turning_up W
  · exact turning_down W
/-- what comes out of One. -/
def OneOut (v : T) (m : Int) (w : World) (e : Ending) (w' : World) : Prop :=
  (∃ a c, e = .returned (.tuple #[.slice a (if oneE v = 0 then v.enc else []).length c, .int .u16 (oneE v : Int)]) ∧ Row w' a ((if oneE v = 0 then v.enc else []).map (tn m)) ∧ (a = none → (if oneE v = 0 then v.enc else []).length = 0 ∧ c = 0)) ∧ Below w.heap.size w w'
theorem OneOut.bad {v : T} {m : Int} {w w' : World} {x : Nat} (h : oneE v = x) (hx : ¬ x = 0) (hb : Below w.heap.size w w') : OneOut v m w (.returned (.tuple #[.slice none 0 0, .int .u16 (x : Int)])) w' := by
  subst h
  refine ⟨⟨none, 0, ?_, ?_, ?_⟩, hb⟩ <;> simp [hx, Row]
theorem OneOut.good {v : T} {m : Int} {w w' : World} {a : Option Addr} {c : Nat} (h : oneE v = 0) (hr : Row w' a (v.enc.map (tn m))) (hn : a = none → v.enc.length = 0 ∧ c = 0) (hb : Below w.heap.size w w') : OneOut v m w (.returned (.tuple #[.slice a v.enc.length c, .int .u16 0])) w' := by
  refine ⟨⟨a, c, ?_, ?_, ?_⟩, hb⟩
  · rw [h]; simp
  · simpa [h] using hr
  · simpa [h] using hn
theorem ckE_le (v : T) : ckE v ≤ 60000 := by
  unfold ckE chk
  split
  · omega
  split
  · omega
  generalize v.flat 1 = l
  induction l with
  | nil => simp [firstE]
  | cons x r ih =>
    simp only [firstE]
    split
    · exact ih
    · exact fitE_le _
set_option maxHeartbeats 3200000 in
set_option maxRecDepth 1000000 in
theorem one_gen (d : Bool) (n₀ : Nat) (v : T) (w : World) (hm : v.Mem n₀ w) (hn : n₀ ≤ w.heap.size) (hT : v.Tame) (hE : v.enc.length ≤ 9999999) :
    Calls Try.prog 12 #[v.val, .bool d] w fun e w' => OneOut v (mk d) w e w' ∧ True := by
  have hmd : 0 ≤ mk d ∧ mk d ≤ 255 := by unfold mk; split <;> omega
  have HT := hide (turning_any d)
  have HCk := hide (fun W (hW : Below n₀ w W) (hs : n₀ ≤ W.heap.size) => check_all n₀ v W (hm.on hW) hs hT)
  have HDc := hide (fun W (hW : Below n₀ w W) (hs : n₀ ≤ W.heap.size) => hasdoc_gen n₀ v.sz v (Nat.le_refl _) W (hm.on hW) hs)
  have HWr := hide (fun W po pt q (hW : Below n₀ w W) (hs : n₀ ≤ W.heap.size) (hp : PutS W po pt q (mk d) []) (hN : New n₀ W po) => write_gen n₀ po pt q (mk d) v.sz v (Nat.le_refl _) W [] hp (hm.on hW) hN hs (by simp; omega))
  have HCl := hide (ckE_le v)
  have HOe : Hid (oneE v = if ckE v = 0 then (if v.hd then 41 else if 160 < v.enc.length then 42 else 0) else 40) := rfl
  have HBad := hide (fun w' x => OneOut.bad (v := v) (m := mk d) (w := w) (w' := w') (x := x))
  have HGood := hide (fun w' a c => OneOut.good (v := v) (m := mk d) (w := w) (w' := w') (a := a) (c := c))
  generalize OneOut v (mk d) w = Post at *
  generalize hO : oneE v = oe at *
  generalize v.hd = hd at *
  generalize ckE v = ck at *
  have HEl := hide hE
  clear hE hT hm hO
  generalize v.enc = ys at *
  cases v with
  | mk k bo n t ya yc y la lc l fa fc f =>
  simp only [T.val] at *
  have HB0 := hide (Box7.new w (.int .u8 k) (.bool bo) (.int .i64 n) (.string t) (.slice ya y.length yc) (.slice la l.list.length lc) (.slice fa f.list.length fc))
  have HF0 := hide ((Fr.refl w).alloc (.cells #[.int .u8 k, .bool bo, .int .i64 n, .string t, .slice ya y.length yc, .slice la l.list.length lc, .slice fa f.list.length fc] 32))
  generalize mk d = m at *
  go_enter Try.func12, Try.ntmps12
  go_wp2_with fail
  refine (HCk.out _ (HF0.out.below.mono hn) (by have := HF0.out.size; omega)).mono ?_
  rintro e W1 ⟨rfl, hb⟩
  have HB1 := hide (HB0.out.below hb)
  have HF1 := hide (HF0.out.on hb)
  clear hb HB0 HF0
  generalize hbw : w.heap.size = b at *
  have HBW := hide hbw
  clear hbw
  obtain ⟨k0, k1, k2, k3, k4, k5, k6⟩ := HB1.out.cells
  by_cases hck : ck = 0
  · subst hck
    go_wp2_with fail
    refine (HDc.out _ (HF1.out.below.mono hn) (by have := HF1.out.size; omega)).mono ?_
    rintro e W2 ⟨rfl, hb⟩
    have HB2 := hide (HB1.out.below hb)
    have HF2 := hide (HF1.out.on hb)
    clear hb HB1 HF1 k0 k1 k2 k3 k4 k5 k6
    cases hd
    · go_wp2_with fail
      refine (HT.out _).mono ?_
      rintro e W3 ⟨rfl, rfl⟩
      have HS := hide (PutS.start W2 m hmd)
      have HF3 := hide (((HF2.out.alloc (.cells #[.slice none 0 0] 22)).alloc (.cells #[.int .u8 m] 5)).alloc (.cells #[.func (.func 36) #[] #[.pointer (some ⟨W2.heap.size + 1, 0, none⟩)]] 55))
      have HB3 := hide (((HB2.out.below (below_alloc _ (.cells #[.slice none 0 0] 22))).below (below_alloc _ (.cells #[.int .u8 m] 5))).below (below_alloc _ (.cells #[.func (.func 36) #[] #[.pointer (some ⟨W2.heap.size + 1, 0, none⟩)]] 55)))
      obtain ⟨k0, k1, k2, k3, k4, k5, k6⟩ := HB3.out.cells
      go_wp2_with fail
      refine (HWr.out _ _ _ _ (HF3.out.below.mono hn) (by have := HF3.out.size; omega) HS.out (fun k hk => by have := start_foot W2 m k hk; have := HF2.out.size; omega)).mono ?_
      rintro e W4 ⟨rfl, hp, ho⟩
      have HF4 : Hid (Fr b w W4) := ⟨HF3.out.below.trans (ho.below (fun k hk => by have := start_foot W2 m k hk; have := HF2.out.size; omega) HF3.out.size), Nat.le_trans HF3.out.size ho.size⟩
      rw [List.nil_append] at hp
      obtain ⟨va, hcell, hown, hap⟩ := hp.wr
      obtain ⟨a1, c1, rfl, hle, hmx, hnn, hrow, _⟩ := hown.shape
      have g0 := cell_of_one hcell
      have HRw := hide hrow
      have HNn := hide hnn
      rw [List.length_map] at g0 HNn
      clear hcell hown hap hp ho hrow hnn k0 k1 k2 k3 k4 k5 k6
      by_cases hlen : 160 < ys.length
      · have hld : decide ((160 : Int) < (ys.length : Int)) = true := by simp; omega
        have HR : Hid (oe = 42) := by rw [Hid, HOe.out]; simp [hlen]
        clear hlen
        go_wp2
        go_ret2
        exact ⟨HBad.out _ 42 HR.out (by omega) HF4.out.below, trivial⟩
      · have hld : decide ((160 : Int) < (ys.length : Int)) = false := by simp; omega
        have HR : Hid (oe = 0) := by rw [Hid, HOe.out]; simp [hlen]
        clear hlen
        go_wp2
        go_ret2
        exact ⟨HGood.out _ a1 c1 HR.out HRw.out HNn.out HF4.out.below, trivial⟩
    · have HR : Hid (oe = 41) := by rw [Hid, HOe.out]; simp
      go_wp2
      go_ret2
      exact ⟨HBad.out _ 41 HR.out (by omega) HF2.out.below, trivial⟩
  · have hcb : ((ck : Int) == 0) = false := by simp; omega
    have HR : Hid (oe = 40) := by rw [Hid, HOe.out]; simp [hck]
    clear hck
    go_wp2
    go_ret2
    exact ⟨HBad.out _ 40 HR.out (by omega) HF1.out.below, trivial⟩
end Go.Proofs.Ytegoeaofjnpehab
/- How much there is in a value. -/
namespace Go.Proofs.Ytegoeaofjnpehab
open Go.RowKit
set_option linter.unusedVariables false

mutual
def T.wt : T → Nat
  | .mk k bo n t ya yc y la lc l fa fc f => 1 + t.size / 64 + y.length / 64 + l.wt + f.wt
def TL.wt : TL → Nat
  | .nil => 0
  | .cons v r => v.wt + r.wt
def FL.wt : FL → Nat
  | .nil => 0
  | .cons s v r => s.size / 64 + v.wt + r.wt
end
def sumL (l : List T) : Nat := (l.map T.wt).sum
def sumF (l : List (ByteArray × T)) : Nat := (l.map fun x => x.1.size / 64 + x.2.wt).sum
theorem TL.wt_is (l : TL) : l.wt = sumL l.list := by
  match l with
  | .nil => simp [TL.wt, TL.list, sumL]
  | .cons v r => have := TL.wt_is r; simp [TL.wt, TL.list, sumL] at *; omega
theorem FL.wt_is (l : FL) : l.wt = sumF l.list := by
  match l with
  | .nil => simp [FL.wt, FL.list, sumF]
  | .cons s v r => have := FL.wt_is r; simp [FL.wt, FL.list, sumF] at *; omega
theorem sumL_snoc (l : List T) (c : T) : sumL (l ++ [c]) = sumL l + c.wt := by simp [sumL]
theorem sumF_snoc (l : List (ByteArray × T)) (c : ByteArray × T) : sumF (l ++ [c]) = sumF l + (c.1.size / 64 + c.2.wt) := by simp [sumF]
theorem TL.Szd.at : ∀ (l : TL), l.Szd → ∀ c ∈ l.list, c.Szd
  | .nil, _, c, h => by simp [TL.list] at h
  | .cons v r, ⟨h1, h2⟩, c, h => by
    simp only [TL.list, List.mem_cons] at h
    rcases h with rfl | h
    · exact h1
    · exact TL.Szd.at r h2 c h
theorem FL.Szd.at : ∀ (l : FL), l.Szd → ∀ c ∈ l.list, c.1.size ≤ 9223372036854775807 ∧ c.2.Szd
  | .nil, _, c, h => by simp [FL.list] at h
  | .cons s v r, ⟨h0, h1, h2⟩, c, h => by
    simp only [FL.list, List.mem_cons] at h
    rcases h with rfl | h
    · exact ⟨h0, h1⟩
    · exact FL.Szd.at r h2 c h
/-- what weight answers. -/
def Wt (v : T) (w0 : Int) (w : World) (e : Ending) (w' : World) : Prop := (∃ r : Int, e = .returned (.int .i64 r) ∧ 0 ≤ r ∧ r ≤ 1152921504606846976 ∧ (r ≤ 20000 → r = w0 + v.wt)) ∧ Below w.heap.size w w'
set_option maxHeartbeats 3200000 in
set_option maxRecDepth 1000000 in
theorem weight_step (n₀ : Nat) (v : T) (w0 : Int) (w : World) (hm : v.Mem n₀ w) (hs : v.Szd) (hn : n₀ ≤ w.heap.size) (hw : 0 ≤ w0 ∧ w0 ≤ 288230376151711744)
    (HI : Hid (∀ c ∈ v.kids, c.Szd → ∀ W x, c.Mem n₀ W → n₀ ≤ W.heap.size → 0 ≤ x ∧ x ≤ 288230376151711744 → Calls Try.prog 29 #[c.val, .int .i64 x] W fun e W' => Wt c x W e W' ∧ True)) :
    Calls Try.prog 29 #[v.val, .int .i64 w0] w fun e w' => (∃ r : Int, e = .returned (.int .i64 r) ∧ 0 ≤ r ∧ r ≤ 1152921504606846976 ∧ (r ≤ 20000 → r = w0 + v.wt)) ∧ Below w.heap.size w w' := by
  cases v with
  | mk k bo n t ya yc y la lc l fa fc f =>
  have HM := hide hm
  have HSz := hide hs
  have ht := hs.2.2.1
  have hy := hm.2.2.2.1
  have hl7 := hm.2.2.2.2.2.2.1
  have hf7 := hm.2.2.2.2.2.2.2.2.2
  have HF0 := hide ((Fr.refl w).alloc (.cells #[.int .u8 k, .bool bo, .int .i64 n, .string t, .slice ya y.length yc, .slice la l.list.length lc, .slice fa f.list.length fc] 32))
  have HB0 := hide (Box7.new w (.int .u8 k) (.bool bo) (.int .i64 n) (.string t) (.slice ya y.length yc) (.slice la l.list.length lc) (.slice fa f.list.length fc))
  clear hm hs
  simp only [T.val, T.wt]
  go_enter Try.func29, Try.ntmps29
  go_wp2
  have hw1b : 0 ≤ w0 + 1 + (t.size : Int) / 64 + (y.length : Int) / 64 ∧ w0 + 1 + (t.size : Int) / 64 + (y.length : Int) / 64 ≤ 1152921504606846976 := by omega
  have HW1 : Hid (w0 + 1 + (t.size : Int) / 64 + (y.length : Int) / 64 = w0 + ((1 + t.size / 64 + y.length / 64 : Nat) : Int)) := by rw [Hid]; omega
  generalize w0 + 1 + (t.size : Int) / 64 + (y.length : Int) / 64 = w1 at *
  generalize hbw : w.heap.size = b at *
  have HBW := hide hbw
  clear hbw
  go_loopw [1, 5] (fun s i wr => ∃ (r : Int) (j : Nat), s = .int .i64 r ∧ i = .int .i64 (j : Int) ∧ j ≤ l.list.length ∧ 0 ≤ r ∧ r ≤ 1152921504606846976 ∧ (r ≤ 20000 → r = w1 + (sumL (l.list.take j) : Int)) ∧ Fr b w wr ∧ Box7 wr b (.int .u8 k) (.bool bo) (.int .i64 n) (.string t) (.slice ya y.length yc) (.slice la l.list.length lc) (.slice fa f.list.length fc)) (fun s i _ => l.list.length - (intOf i).toNat)
  case atStart => exact ⟨w1, 0, rfl, rfl, by omega, hw1b.1, hw1b.2, fun _ => by simp [sumL], HF0.out, HB0.out⟩
  case round =>
    obtain ⟨r, j, rfl, rfl, hj, hr0, hr1, hre, hfr, hbx⟩ := hrel
    have HRe := hide hre
    have HFr := hide hfr
    have HBx := hide hbx
    clear hre hfr hbx HF0 HB0 hw1b
    obtain ⟨k0, k1, k2, k3, k4, k5, k6⟩ := HBx.out.cells
    by_cases hlt : j < l.list.length
    · by_cases hr2 : r ≤ 20000
      · obtain ⟨c, hc⟩ : ∃ c, l.list[j]? = some c := ⟨_, List.getElem?_eq_getElem hlt⟩
        have HTk := hide (take_next l.list j c hc)
        have hmem : c ∈ l.list := List.mem_of_getElem? hc
        have hkid : c ∈ (T.mk k bo n t ya yc y la lc l fa fc f).kids := by simp only [T.kids]; exact List.mem_append_left _ hmem
        have HIc := hide (fun W x => HI.out c hkid (TL.Szd.at l HSz.out.2.2.2.1 c hmem) W x)
        have hB0 : Below n₀ w wr := HFr.out.below.mono hn
        have HMw := hide (HM.out.2.2.2.2.1.on hB0)
        have HMc := hide (TL.Mem.at l 0 HMw.out j c hc).2
        have hns : n₀ ≤ wr.heap.size := by have := HFr.out.size; omega
        clear hmem hkid hB0
        cases c with
        | mk ck cbo cn ct cya cyc cy cla clc cl cfa cfc cf =>
        obtain ⟨b', o', rfl, hb', c0, c1, c2, c3, c4, c5, c6⟩ := HMw.out.cells hc
        clear hc
        simp only [T.val] at HIc
        have HCw : Hid (((sumL (l.list.take (j + 1)) : Nat) : Int) = (sumL (l.list.take j) : Int) + ((T.mk ck cbo cn ct cya cyc cy cla clc cl cfa cfc cf).wt : Int)) := by rw [Hid, HTk.out, sumL_snoc]; simp
        go_wp2_with fail
        refine (HIc.out wr r HMc.out hns (by omega)).mono ?_
        rintro e V ⟨⟨⟨r3, rfl, hq0, hq1, hq2⟩, hb3⟩, -⟩
        have HB3 := hide (HBx.out.below hb3)
        have HF3 := hide (HFr.out.on hb3)
        have HQ2 := hide hq2
        clear hb3 hq2 c0 c1 c2 c3 c4 c5 c6
        go_wp2
        go_roundw
        case rel => exact ⟨r3, j + 1, by go_num, by go_num, by omega, hq0, hq1, (fun h => by have h1 := HQ2.out h; have h2 := HRe.out hr2; have h3 := HCw.out; omega), HF3.out, HB3.out⟩
        case measure => simp [intOf]; omega
      · go_wp2
        go_loopw [1, 6] (fun s i wr => ∃ (r : Int) (j : Nat), s = .int .i64 r ∧ i = .int .i64 (j : Int) ∧ j ≤ f.list.length ∧ 0 ≤ r ∧ r ≤ 1152921504606846976 ∧ (r ≤ 20000 → r = w1 + (l.wt : Int) + (sumF (f.list.take j) : Int)) ∧ Fr b w wr ∧ Box7 wr b (.int .u8 k) (.bool bo) (.int .i64 n) (.string t) (.slice ya y.length yc) (.slice la l.list.length lc) (.slice fa f.list.length fc)) (fun s i _ => f.list.length - (intOf i).toNat)
        case atStart => exact ⟨r, 0, rfl, rfl, by omega, hr0, hr1, fun h => by omega, HFr.out, HBx.out⟩
        case round =>
          clear k0 k1 k2 k3 k4 k5 k6 HFr HBx HRe hr0 hr1
          obtain ⟨r, j, rfl, rfl, hj, hr0, hr1, hre, hfr, hbx⟩ := hrel
          have HRe := hide hre
          have HFr := hide hfr
          have HBx := hide hbx
          clear hre hfr hbx
          obtain ⟨k0, k1, k2, k3, k4, k5, k6⟩ := HBx.out.cells
          by_cases hlt : j < f.list.length
          · by_cases hr2 : r ≤ 20000
            · obtain ⟨⟨s, c⟩, hc⟩ : ∃ c, f.list[j]? = some c := ⟨_, List.getElem?_eq_getElem hlt⟩
              have HTk := hide (take_next f.list j (s, c) hc)
              have hmem : (s, c) ∈ f.list := List.mem_of_getElem? hc
              have hss : s.size ≤ 9223372036854775807 := (FL.Szd.at f HSz.out.2.2.2.2 _ hmem).1
              have hkid : c ∈ (T.mk k bo n t ya yc y la lc l fa fc f).kids := by simp only [T.kids]; exact List.mem_append_right _ (List.mem_map_of_mem hmem)
              have HIc := hide (fun W x => HI.out c hkid (FL.Szd.at f HSz.out.2.2.2.2 _ hmem).2 W x)
              have hB0 : Below n₀ w wr := HFr.out.below.mono hn
              have HMw := hide (HM.out.2.2.2.2.2.2.2.1.on hB0)
              have HMc := hide ((FL.Mem.at f 0 HMw.out j _ hc).2.on ((Below.refl n₀ wr).drew))
              have HBd := hide (HBx.out.below (Below.refl _ _).drew)
              have HFd := hide HFr.out.drew
              have hns : n₀ ≤ wr.drew.heap.size := by have h9 := HFr.out.size; have h8 : wr.drew.heap.size = wr.heap.size := rfl; omega
              clear hmem hkid hB0
              cases c with
              | mk ck cbo cn ct cya cyc cy cla clc cl cfa cfc cf =>
              obtain ⟨b', o', rfl, hb', cs, c0, c1, c2, c3, c4, c5, c6⟩ := HMw.out.cells hc
              clear hc
              simp only [T.val] at HIc
              have HCw : Hid (((sumF (f.list.take (j + 1)) : Nat) : Int) = (sumF (f.list.take j) : Int) + ((s.size / 64 : Nat) : Int) + ((T.mk ck cbo cn ct cya cyc cy cla clc cl cfa cfc cf).wt : Int)) := by rw [Hid, HTk.out, sumF_snoc]; simp only []; omega
              have hxb : 0 ≤ r + (s.size : Int) / 64 ∧ r + (s.size : Int) / 64 ≤ 288230376151711744 := by omega
              have hb1 : b < wr.drew.heap.size := HBd.out.lt
              have hb2 : b' < wr.drew.heap.size := by omega
              have HZ : Hid (∀ V, Below wr.drew.heap.size wr.drew V → V.cell? ⟨b, 6, none⟩ = some (.slice (some ⟨b', o', none⟩) f.list.length fc) ∧ V.cell? ⟨b', o' + j * 8, none⟩ = some (.string s) ∧ V.cell? ⟨b', o' + j * 8 + 1, none⟩ = some (.int .u8 ck) ∧ V.cell? ⟨b', o' + j * 8 + 2, none⟩ = some (.bool cbo) ∧ V.cell? ⟨b', o' + j * 8 + 3, none⟩ = some (.int .i64 cn) ∧ V.cell? ⟨b', o' + j * 8 + 4, none⟩ = some (.string ct) ∧ V.cell? ⟨b', o' + j * 8 + 5, none⟩ = some (.slice cya cy.length cyc) ∧ V.cell? ⟨b', o' + j * 8 + 6, none⟩ = some (.slice cla cl.list.length clc) ∧ V.cell? ⟨b', o' + j * 8 + 7, none⟩ = some (.slice cfa cf.list.length cfc)) := fun V hv => ⟨(hv.cell (p := ⟨b, 6, none⟩) hb1).trans k6, (hv.cell (p := ⟨b', o' + j * 8, none⟩) hb2).trans cs, (hv.cell (p := ⟨b', o' + j * 8 + 1, none⟩) hb2).trans c0, (hv.cell (p := ⟨b', o' + j * 8 + 2, none⟩) hb2).trans c1, (hv.cell (p := ⟨b', o' + j * 8 + 3, none⟩) hb2).trans c2, (hv.cell (p := ⟨b', o' + j * 8 + 4, none⟩) hb2).trans c3, (hv.cell (p := ⟨b', o' + j * 8 + 5, none⟩) hb2).trans c4, (hv.cell (p := ⟨b', o' + j * 8 + 6, none⟩) hb2).trans c5, (hv.cell (p := ⟨b', o' + j * 8 + 7, none⟩) hb2).trans c6⟩
              have hwi : IntKind.i64.wrap ((s.size : Int) / 64) = (s.size : Int) / 64 := by simp only [IntKind.wrap, IntKind.bits, IntKind.signed]; simp; omega
              have hwx : IntKind.i64.wrap (r + IntKind.i64.wrap ((s.size : Int) / 64)) = r + (s.size : Int) / 64 := by rw [hwi]; simp only [IntKind.wrap, IntKind.bits, IntKind.signed]; simp; omega
              have HCall := HIc.out wr.drew (r + (s.size : Int) / 64) HMc.out hns hxb
              rw [← hwx] at HCall
              simp only [Wt] at HCall
              have HWx := hide hwx
              replace HCall := hide HCall
              clear hwi hwx
              clear HIc HMc hxb
              go_wp2
              go_region_held3 (fun W => W.cell? ⟨b, 6, none⟩ = some (.slice (some ⟨b', o', none⟩) f.list.length fc) ∧ W.cell? ⟨b', o' + j * 8, none⟩ = some (.string s) ∧ W.cell? ⟨b', o' + j * 8 + 1, none⟩ = some (.int .u8 ck) ∧ W.cell? ⟨b', o' + j * 8 + 2, none⟩ = some (.bool cbo) ∧ W.cell? ⟨b', o' + j * 8 + 3, none⟩ = some (.int .i64 cn) ∧ W.cell? ⟨b', o' + j * 8 + 4, none⟩ = some (.string ct) ∧ W.cell? ⟨b', o' + j * 8 + 5, none⟩ = some (.slice cya cy.length cyc) ∧ W.cell? ⟨b', o' + j * 8 + 6, none⟩ = some (.slice cla cl.list.length clc) ∧ W.cell? ⟨b', o' + j * 8 + 7, none⟩ = some (.slice cfa cf.list.length cfc)) ((refine ⟨?_, ?_, ?_, ?_, ?_, ?_, ?_, ?_, ?_⟩ <;> assumption)) ((first | (go_at_call 29; refine HCall.out.mono ?_; intro e' V hh; obtain ⟨⟨⟨r3, rfl, hq0, hq1, hq2⟩, hb3⟩, -⟩ := hh; have HB3 := hide (HBd.out.below hb3); have HF3 := hide (HFd.out.on hb3); have HQ2 := hide hq2; obtain ⟨z0, z1, z2, z3, z4, z5, z6, z7, z8⟩ := HZ.out _ hb3; clear hb3 hq2)))
              clear c0 c1 c2 c3 c4 c5 c6 cs z0 z1 z2 z3 z4 z5 z6 z7 z8
              go_wp2
              go_roundw
              case rel => exact ⟨r3, j + 1, by go_num, by go_num, by omega, hq0, hq1, (fun h => by have h1 := HQ2.out h; rw [HWx.out] at h1; have h2 := HRe.out hr2; have h3 := HCw.out; omega), HF3.out, HB3.out⟩
              case measure => simp [intOf]; omega
            · go_wp2
              go_ret
              exact ⟨⟨r, rfl, hr0, hr1, fun h => by omega⟩, by rw [HBW.out]; exact HFr.out.below⟩
          · have hjl : f.list.take j = f.list := List.take_of_length_le (by omega)
            rw [hjl, ← FL.wt_is] at HRe
            clear hjl
            go_wp2
            go_ret
            exact ⟨⟨r, rfl, hr0, hr1, fun h => by have h1 := HRe.out h; have h2 := HW1.out; omega⟩, by rw [HBW.out]; exact HFr.out.below⟩
    · have hjl : l.list.take j = l.list := List.take_of_length_le (by omega)
      rw [hjl, ← TL.wt_is] at HRe
      clear hjl
      go_wp2
      go_loopw [1, 6] (fun s i wr => ∃ (r : Int) (j : Nat), s = .int .i64 r ∧ i = .int .i64 (j : Int) ∧ j ≤ f.list.length ∧ 0 ≤ r ∧ r ≤ 1152921504606846976 ∧ (r ≤ 20000 → r = w1 + (l.wt : Int) + (sumF (f.list.take j) : Int)) ∧ Fr b w wr ∧ Box7 wr b (.int .u8 k) (.bool bo) (.int .i64 n) (.string t) (.slice ya y.length yc) (.slice la l.list.length lc) (.slice fa f.list.length fc)) (fun s i _ => f.list.length - (intOf i).toNat)
      case atStart => exact ⟨r, 0, rfl, rfl, by omega, hr0, hr1, fun h => by have h1 := HRe.out h; simp [sumF]; omega, HFr.out, HBx.out⟩
      case round =>
        clear k0 k1 k2 k3 k4 k5 k6 HFr HBx HRe hr0 hr1
        obtain ⟨r, j, rfl, rfl, hj, hr0, hr1, hre, hfr, hbx⟩ := hrel
        have HRe := hide hre
        have HFr := hide hfr
        have HBx := hide hbx
        clear hre hfr hbx
        obtain ⟨k0, k1, k2, k3, k4, k5, k6⟩ := HBx.out.cells
        by_cases hlt : j < f.list.length
        · by_cases hr2 : r ≤ 20000
          · obtain ⟨⟨s, c⟩, hc⟩ : ∃ c, f.list[j]? = some c := ⟨_, List.getElem?_eq_getElem hlt⟩
            have HTk := hide (take_next f.list j (s, c) hc)
            have hmem : (s, c) ∈ f.list := List.mem_of_getElem? hc
            have hss : s.size ≤ 9223372036854775807 := (FL.Szd.at f HSz.out.2.2.2.2 _ hmem).1
            have hkid : c ∈ (T.mk k bo n t ya yc y la lc l fa fc f).kids := by simp only [T.kids]; exact List.mem_append_right _ (List.mem_map_of_mem hmem)
            have HIc := hide (fun W x => HI.out c hkid (FL.Szd.at f HSz.out.2.2.2.2 _ hmem).2 W x)
            have hB0 : Below n₀ w wr := HFr.out.below.mono hn
            have HMw := hide (HM.out.2.2.2.2.2.2.2.1.on hB0)
            have HMc := hide ((FL.Mem.at f 0 HMw.out j _ hc).2.on ((Below.refl n₀ wr).drew))
            have HBd := hide (HBx.out.below (Below.refl _ _).drew)
            have HFd := hide HFr.out.drew
            have hns : n₀ ≤ wr.drew.heap.size := by have h9 := HFr.out.size; have h8 : wr.drew.heap.size = wr.heap.size := rfl; omega
            clear hmem hkid hB0
            cases c with
            | mk ck cbo cn ct cya cyc cy cla clc cl cfa cfc cf =>
            obtain ⟨b', o', rfl, hb', cs, c0, c1, c2, c3, c4, c5, c6⟩ := HMw.out.cells hc
            clear hc
            simp only [T.val] at HIc
            have HCw : Hid (((sumF (f.list.take (j + 1)) : Nat) : Int) = (sumF (f.list.take j) : Int) + ((s.size / 64 : Nat) : Int) + ((T.mk ck cbo cn ct cya cyc cy cla clc cl cfa cfc cf).wt : Int)) := by rw [Hid, HTk.out, sumF_snoc]; simp only []; omega
            have hxb : 0 ≤ r + (s.size : Int) / 64 ∧ r + (s.size : Int) / 64 ≤ 288230376151711744 := by omega
            have hb1 : b < wr.drew.heap.size := HBd.out.lt
            have hb2 : b' < wr.drew.heap.size := by omega
            have HZ : Hid (∀ V, Below wr.drew.heap.size wr.drew V → V.cell? ⟨b, 6, none⟩ = some (.slice (some ⟨b', o', none⟩) f.list.length fc) ∧ V.cell? ⟨b', o' + j * 8, none⟩ = some (.string s) ∧ V.cell? ⟨b', o' + j * 8 + 1, none⟩ = some (.int .u8 ck) ∧ V.cell? ⟨b', o' + j * 8 + 2, none⟩ = some (.bool cbo) ∧ V.cell? ⟨b', o' + j * 8 + 3, none⟩ = some (.int .i64 cn) ∧ V.cell? ⟨b', o' + j * 8 + 4, none⟩ = some (.string ct) ∧ V.cell? ⟨b', o' + j * 8 + 5, none⟩ = some (.slice cya cy.length cyc) ∧ V.cell? ⟨b', o' + j * 8 + 6, none⟩ = some (.slice cla cl.list.length clc) ∧ V.cell? ⟨b', o' + j * 8 + 7, none⟩ = some (.slice cfa cf.list.length cfc)) := fun V hv => ⟨(hv.cell (p := ⟨b, 6, none⟩) hb1).trans k6, (hv.cell (p := ⟨b', o' + j * 8, none⟩) hb2).trans cs, (hv.cell (p := ⟨b', o' + j * 8 + 1, none⟩) hb2).trans c0, (hv.cell (p := ⟨b', o' + j * 8 + 2, none⟩) hb2).trans c1, (hv.cell (p := ⟨b', o' + j * 8 + 3, none⟩) hb2).trans c2, (hv.cell (p := ⟨b', o' + j * 8 + 4, none⟩) hb2).trans c3, (hv.cell (p := ⟨b', o' + j * 8 + 5, none⟩) hb2).trans c4, (hv.cell (p := ⟨b', o' + j * 8 + 6, none⟩) hb2).trans c5, (hv.cell (p := ⟨b', o' + j * 8 + 7, none⟩) hb2).trans c6⟩
            have hwi : IntKind.i64.wrap ((s.size : Int) / 64) = (s.size : Int) / 64 := by simp only [IntKind.wrap, IntKind.bits, IntKind.signed]; simp; omega
            have hwx : IntKind.i64.wrap (r + IntKind.i64.wrap ((s.size : Int) / 64)) = r + (s.size : Int) / 64 := by rw [hwi]; simp only [IntKind.wrap, IntKind.bits, IntKind.signed]; simp; omega
            have HCall := HIc.out wr.drew (r + (s.size : Int) / 64) HMc.out hns hxb
            rw [← hwx] at HCall
            simp only [Wt] at HCall
            have HWx := hide hwx
            replace HCall := hide HCall
            clear hwi hwx
            clear HIc HMc hxb
            go_wp2
            go_region_held3 (fun W => W.cell? ⟨b, 6, none⟩ = some (.slice (some ⟨b', o', none⟩) f.list.length fc) ∧ W.cell? ⟨b', o' + j * 8, none⟩ = some (.string s) ∧ W.cell? ⟨b', o' + j * 8 + 1, none⟩ = some (.int .u8 ck) ∧ W.cell? ⟨b', o' + j * 8 + 2, none⟩ = some (.bool cbo) ∧ W.cell? ⟨b', o' + j * 8 + 3, none⟩ = some (.int .i64 cn) ∧ W.cell? ⟨b', o' + j * 8 + 4, none⟩ = some (.string ct) ∧ W.cell? ⟨b', o' + j * 8 + 5, none⟩ = some (.slice cya cy.length cyc) ∧ W.cell? ⟨b', o' + j * 8 + 6, none⟩ = some (.slice cla cl.list.length clc) ∧ W.cell? ⟨b', o' + j * 8 + 7, none⟩ = some (.slice cfa cf.list.length cfc)) ((refine ⟨?_, ?_, ?_, ?_, ?_, ?_, ?_, ?_, ?_⟩ <;> assumption)) ((first | (go_at_call 29; refine HCall.out.mono ?_; intro e' V hh; obtain ⟨⟨⟨r3, rfl, hq0, hq1, hq2⟩, hb3⟩, -⟩ := hh; have HB3 := hide (HBd.out.below hb3); have HF3 := hide (HFd.out.on hb3); have HQ2 := hide hq2; obtain ⟨z0, z1, z2, z3, z4, z5, z6, z7, z8⟩ := HZ.out _ hb3; clear hb3 hq2)))
            clear c0 c1 c2 c3 c4 c5 c6 cs z0 z1 z2 z3 z4 z5 z6 z7 z8
            go_wp2
            go_roundw
            case rel => exact ⟨r3, j + 1, by go_num, by go_num, by omega, hq0, hq1, (fun h => by have h1 := HQ2.out h; rw [HWx.out] at h1; have h2 := HRe.out hr2; have h3 := HCw.out; omega), HF3.out, HB3.out⟩
            case measure => simp [intOf]; omega
          · go_wp2
            go_ret
            exact ⟨⟨r, rfl, hr0, hr1, fun h => by omega⟩, by rw [HBW.out]; exact HFr.out.below⟩
        · have hjl : f.list.take j = f.list := List.take_of_length_le (by omega)
          rw [hjl, ← FL.wt_is] at HRe
          clear hjl
          go_wp2
          go_ret
          exact ⟨⟨r, rfl, hr0, hr1, fun h => by have h1 := HRe.out h; have h2 := HW1.out; omega⟩, by rw [HBW.out]; exact HFr.out.below⟩

theorem weight_gen (n₀ : Nat) : ∀ (N : Nat) (v : T), v.sz ≤ N → v.Szd → ∀ (w : World) (x : Int), v.Mem n₀ w → n₀ ≤ w.heap.size → 0 ≤ x ∧ x ≤ 288230376151711744 → Calls Try.prog 29 #[v.val, .int .i64 x] w fun e w' => Wt v x w e w' ∧ True := by
  intro N
  induction N with
  | zero => intro v hv; cases v; simp [T.sz] at hv
  | succ N ih =>
    intro v hv hs w x hm hn hx
    refine (weight_step n₀ v x w hm hs hn hx ?_).mono (fun e w' h => ⟨h, trivial⟩)
    intro c hc hcs W y h1 h2 h3
    have := T.kid_sz v c hc
    exact ih c (by omega) hcs W y h1 h2 h3
end Go.Proofs.Ytegoeaofjnpehab
