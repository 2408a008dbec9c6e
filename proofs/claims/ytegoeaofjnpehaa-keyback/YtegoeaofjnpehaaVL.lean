/- What any value is written as. -/
import Derived.Test.YtegoeaofjnpehaaVK
import Derived.Test.YtegoeaofjnpehaaJ
namespace Go.Proofs.Ytegoeaofjnpehaa
open Go.RowKit
set_option linter.unusedVariables false

def bYs (y : List Int) : List Int := 80 :: (esc y ++ [0, 1])
def bB (bo : Bool) : List Int := [if bo then 33 else 32]
mutual
/-- the bytes of a value. -/
def T.enc : T → List Int
  | .mk k bo n t _ _ y _ _ l _ _ _ => if k = 1 then [16] else if k = 2 then bB bo else if k = 3 then bI n else if k = 4 then bT t else if k = 5 then bYs y else if k = 6 then 96 :: (l.enc ++ [1]) else []
def TL.enc : TL → List Int
  | .nil => []
  | .cons v r => v.enc ++ r.enc
end
theorem TL.enc_is (l : TL) : l.enc = l.list.flatMap T.enc := by
  match l with
  | .nil => simp [TL.enc, TL.list]
  | .cons v r => simp [TL.enc, TL.list, TL.enc_is r]
theorem esc_ge (bs : List Int) : bs.length ≤ (esc bs).length := by
  induction bs with
  | nil => simp [esc]
  | cons c t ih =>
    have : esc (c :: t) = (if c = 0 then [0, 255] else [c]) ++ esc t := by simp [esc]
    rw [this, List.length_append]
    split <;> simp <;> omega
set_option maxHeartbeats 800000 in
theorem truth_yes (w : World) : Calls Try.prog 37 #[.bool true] w fun e w' => e = .returned (.int .u8 33) ∧ w' = w := by
  go_enter Try.func37, Try.ntmps37
  go_wp2
  go_ret
  exact ⟨rfl, rfl⟩
set_option maxHeartbeats 800000 in
theorem truth_no (w : World) : Calls Try.prog 37 #[.bool false] w fun e w' => e = .returned (.int .u8 32) ∧ w' = w := by
  go_enter Try.func37, Try.ntmps37
  go_wp2
  go_ret
  exact ⟨rfl, rfl⟩
theorem truth_any (bo : Bool) (w : World) : Calls Try.prog 37 #[.bool bo] w fun e w' => e = .returned (.int .u8 (if bo then 33 else 32)) ∧ w' = w := by
  cases bo
  · exact truth_no w
  · exact truth_yes w
set_option maxHeartbeats 1600000 in
set_option maxRecDepth 1000000 in
theorem wcon_nil (W : World) (po pt q : Nat) (m : Int) (a : Option Addr) (cap : Nat) (zs : List Int) (h : PutS W po pt q m zs) (hb : zs.length ≤ 10000000) :
    Calls Try.prog 39 #[.slice a 0 cap, .func (.func 27) #[] #[.pointer (some ⟨po, 0, none⟩), .pointer (some ⟨pt, 0, none⟩)]] W fun e W' => e = .returned (.tuple #[]) ∧ PutS W' po pt q m (zs ++ ([0, 1]).map (tn m)) ∧ Wrote po W W' := by
  have H := hide h
  clear h
  go_enter Try.func39, Try.ntmps39
  go_wp2
  go_loopw [8] (fun i wr => i = .int .i64 0 ∧ wr = W) (fun i _ => 0)
  case atStart => exact ⟨rfl, rfl⟩
  case round =>
    obtain ⟨rfl, rfl⟩ := hrel
    go_wp2_with fail
    refine (put_any wr po pt q m 0 _ H.out (by omega) (by omega)).mono ?_
    rintro e W1 ⟨rfl, hp1, ho1⟩
    have HP1 := hide hp1
    have HO1 := hide ho1
    clear hp1 ho1
    go_wp2_with fail
    refine (put_any W1 po pt q m 1 _ HP1.out (by omega) (by simp; omega)).mono ?_
    rintro e W2 ⟨rfl, hp2, ho2⟩
    have HP2 := hide hp2
    have HO2 := hide ho2
    clear hp2 ho2
    go_wp2
    go_end0
    exact ⟨rfl, by simpa using HP2.out, HO1.out.trans HO2.out⟩
set_option maxHeartbeats 1600000 in
set_option maxRecDepth 1000000 in
theorem w1 (W : World) (po pt q : Nat) (m : Int) (bo : Bool) (n : Int) (t : ByteArray) (ya : Option Addr) (yl yc : Nat) (la : Option Addr) (ll lc : Nat) (fa : Option Addr) (fl fc : Nat) (zs : List Int) (h : PutS W po pt q m zs) (hb : zs.length + 1 ≤ 10000000) :
    Calls Try.prog 26 #[.agg #[.int .u8 1, .bool bo, .int .i64 n, .string t, .slice ya yl yc, .slice la ll lc, .slice fa fl fc], .func (.func 27) #[] #[.pointer (some ⟨po, 0, none⟩), .pointer (some ⟨pt, 0, none⟩)]] W fun e W' => e = .returned (.tuple #[]) ∧ PutS W' po pt q m (zs ++ ([16]).map (tn m)) ∧ Wrote po W W' := by
  have HB1 := hide (Box7.new W (.int .u8 1) (.bool bo) (.int .i64 n) (.string t) (.slice ya yl yc) (.slice la ll lc) (.slice fa fl fc))
  have H := hide h
  have HB := hide hb
  clear h hb
  go_enter Try.func26, Try.ntmps26
  go_wp2
  go_quiet (fail)
  have HX : Hid (Below W.heap.size W ((W.alloc (.cells #[.int .u8 1, .bool bo, .int .i64 n, .string t, .slice ya yl yc, .slice la ll lc, .slice fa fl fc] 41)).drewN nq)) := below_drewN (below_alloc _ _) _
  have HB2 := hide (HB1.out.below (below_drewN (Below.refl _ _) nq))
  obtain ⟨k0, k1, k2, k3, k4, k5, k6⟩ := HB2.out.cells
  have hsz : W.heap.size < ((W.alloc (.cells #[.int .u8 1, .bool bo, .int .i64 n, .string t, .slice ya yl yc, .slice la ll lc, .slice fa fl fc] 41)).drewN nq).heap.size := HB2.out.lt
  generalize (W.alloc (.cells #[.int .u8 1, .bool bo, .int .i64 n, .string t, .slice ya yl yc, .slice la ll lc, .slice fa fl fc] 41)).drewN nq = X at *
  go_wp2_with fail
  refine (put_any X po pt q m 16 _ (H.out.below HX.out) (by first | omega | (split <;> omega)) (by have := HB.out; simp; omega)).mono ?_
  rintro e W1 ⟨rfl, hp1, ho1⟩
  have HP1 := hide hp1
  have HO1 := hide ho1
  clear k0 k1 k2 k3 k4 k5 k6
  clear hp1 ho1
  go_wp2
  go_end0
  refine ⟨rfl, ?_, (Wrote.of_below H.out.wr.lt HX.out).trans (HO1.out)⟩
  have := HP1.out
  simpa using this
set_option maxHeartbeats 1600000 in
set_option maxRecDepth 1000000 in
theorem w2 (W : World) (po pt q : Nat) (m : Int) (bo : Bool) (n : Int) (t : ByteArray) (ya : Option Addr) (yl yc : Nat) (la : Option Addr) (ll lc : Nat) (fa : Option Addr) (fl fc : Nat) (zs : List Int) (h : PutS W po pt q m zs) (hb : zs.length + 1 ≤ 10000000) (cb : Int) (hc : 0 ≤ cb ∧ cb ≤ 255) (HT : Hid (∀ w, Calls Try.prog 37 #[.bool bo] w fun e w' => e = .returned (.int .u8 cb) ∧ w' = w)) :
    Calls Try.prog 26 #[.agg #[.int .u8 2, .bool bo, .int .i64 n, .string t, .slice ya yl yc, .slice la ll lc, .slice fa fl fc], .func (.func 27) #[] #[.pointer (some ⟨po, 0, none⟩), .pointer (some ⟨pt, 0, none⟩)]] W fun e W' => e = .returned (.tuple #[]) ∧ PutS W' po pt q m (zs ++ ([cb]).map (tn m)) ∧ Wrote po W W' := by
  have HB1 := hide (Box7.new W (.int .u8 2) (.bool bo) (.int .i64 n) (.string t) (.slice ya yl yc) (.slice la ll lc) (.slice fa fl fc))
  have H := hide h
  have HB := hide hb
  have HCB := hide hc
  clear h hb hc
  go_enter Try.func26, Try.ntmps26
  go_wp2
  go_quiet (fail)
  have HX : Hid (Below W.heap.size W ((W.alloc (.cells #[.int .u8 2, .bool bo, .int .i64 n, .string t, .slice ya yl yc, .slice la ll lc, .slice fa fl fc] 41)).drewN nq)) := below_drewN (below_alloc _ _) _
  have HB2 := hide (HB1.out.below (below_drewN (Below.refl _ _) nq))
  obtain ⟨k0, k1, k2, k3, k4, k5, k6⟩ := HB2.out.cells
  have hsz : W.heap.size < ((W.alloc (.cells #[.int .u8 2, .bool bo, .int .i64 n, .string t, .slice ya yl yc, .slice la ll lc, .slice fa fl fc] 41)).drewN nq).heap.size := HB2.out.lt
  generalize (W.alloc (.cells #[.int .u8 2, .bool bo, .int .i64 n, .string t, .slice ya yl yc, .slice la ll lc, .slice fa fl fc] 41)).drewN nq = X at *
  go_wp2_with fail
  refine (HT.out _).mono ?_
  rintro e X2 ⟨rfl, rfl⟩
  go_wp2_with fail
  refine (put_any X2 po pt q m _ _ (H.out.below HX.out) HCB.out (by have := HB.out; simp; omega)).mono ?_
  rintro e W1 ⟨rfl, hp1, ho1⟩
  have HP1 := hide hp1
  have HO1 := hide ho1
  clear k0 k1 k2 k3 k4 k5 k6
  clear hp1 ho1
  go_wp2
  go_end0
  refine ⟨rfl, ?_, (Wrote.of_below H.out.wr.lt HX.out).trans (HO1.out)⟩
  have := HP1.out
  simpa using this
set_option maxHeartbeats 1600000 in
set_option maxRecDepth 1000000 in
theorem w3 (W : World) (po pt q : Nat) (m : Int) (bo : Bool) (n : Int) (t : ByteArray) (ya : Option Addr) (yl yc : Nat) (la : Option Addr) (ll lc : Nat) (fa : Option Addr) (fl fc : Nat) (zs : List Int) (h : PutS W po pt q m zs) (hb : zs.length + 9 ≤ 10000000) :
    Calls Try.prog 26 #[.agg #[.int .u8 3, .bool bo, .int .i64 n, .string t, .slice ya yl yc, .slice la ll lc, .slice fa fl fc], .func (.func 27) #[] #[.pointer (some ⟨po, 0, none⟩), .pointer (some ⟨pt, 0, none⟩)]] W fun e W' => e = .returned (.tuple #[]) ∧ PutS W' po pt q m (zs ++ (bI n).map (tn m)) ∧ Wrote po W W' := by
  have HB1 := hide (Box7.new W (.int .u8 3) (.bool bo) (.int .i64 n) (.string t) (.slice ya yl yc) (.slice la ll lc) (.slice fa fl fc))
  have H := hide h
  have HB := hide hb
  clear h hb
  go_enter Try.func26, Try.ntmps26
  go_wp2
  go_quiet (fail)
  have HX : Hid (Below W.heap.size W ((W.alloc (.cells #[.int .u8 3, .bool bo, .int .i64 n, .string t, .slice ya yl yc, .slice la ll lc, .slice fa fl fc] 41)).drewN nq)) := below_drewN (below_alloc _ _) _
  have HB2 := hide (HB1.out.below (below_drewN (Below.refl _ _) nq))
  obtain ⟨k0, k1, k2, k3, k4, k5, k6⟩ := HB2.out.cells
  have hsz : W.heap.size < ((W.alloc (.cells #[.int .u8 3, .bool bo, .int .i64 n, .string t, .slice ya yl yc, .slice la ll lc, .slice fa fl fc] 41)).drewN nq).heap.size := HB2.out.lt
  generalize (W.alloc (.cells #[.int .u8 3, .bool bo, .int .i64 n, .string t, .slice ya yl yc, .slice la ll lc, .slice fa fl fc] 41)).drewN nq = X at *
  have hnf : ¬ foot X po W.heap.size := fun hf => by
    have := H.out.wr.foot_lt ((foot_same (HX.out.block po H.out.wr.lt)).1 hf)
    omega
  go_wp2_with fail
  refine (put_any X po pt q m 48 _ (H.out.below HX.out) (by first | omega | (split <;> omega)) (by have := HB.out; simp; omega)).mono ?_
  rintro e W1 ⟨rfl, hp1, ho1⟩
  have HP1 := hide hp1
  have HO1 := hide ho1
  have hk2 : W1.cell? ⟨W.heap.size, 2, none⟩ = some (.int .i64 n) := (World.cell?_of_block (a := ⟨W.heap.size, 2, none⟩) (ho1.block W.heap.size HB2.out.lt hnf)).trans k2
  clear k0 k1 k2 k3 k4 k5 k6
  clear hp1 ho1
  clear hnf
  go_wp2_with fail
  refine (wnum_any W1 po pt q m n _ HP1.out (by have := HB.out; simp; omega)).mono ?_
  rintro e W2 ⟨rfl, hp2, ho2⟩
  have HP2 := hide hp2
  have HO2 := hide ho2
  clear hp2 ho2
  go_wp2
  go_end0
  refine ⟨rfl, ?_, (Wrote.of_below H.out.wr.lt HX.out).trans (HO1.out.trans HO2.out)⟩
  have := HP2.out
  simpa [bI] using this
set_option maxHeartbeats 1600000 in
set_option maxRecDepth 1000000 in
theorem w4 (W : World) (po pt q : Nat) (m : Int) (bo : Bool) (n : Int) (t : ByteArray) (ya : Option Addr) (yl yc : Nat) (la : Option Addr) (ll lc : Nat) (fa : Option Addr) (fl fc : Nat) (zs : List Int) (h : PutS W po pt q m zs) (hb : zs.length + 1 ≤ 10000000) (ht : t.size ≤ 10000000) :
    Calls Try.prog 26 #[.agg #[.int .u8 4, .bool bo, .int .i64 n, .string t, .slice ya yl yc, .slice la ll lc, .slice fa fl fc], .func (.func 27) #[] #[.pointer (some ⟨po, 0, none⟩), .pointer (some ⟨pt, 0, none⟩)]] W fun e W' => e = .returned (.tuple #[]) ∧ PutS W' po pt q m (zs ++ (bT t).map (tn m)) ∧ Wrote po W W' := by
  have HB1 := hide (Box7.new W (.int .u8 4) (.bool bo) (.int .i64 n) (.string t) (.slice ya yl yc) (.slice la ll lc) (.slice fa fl fc))
  have H := hide h
  have HB := hide hb
  clear h hb
  go_enter Try.func26, Try.ntmps26
  go_wp2
  go_quiet (fail)
  have HX : Hid (Below W.heap.size W ((W.alloc (.cells #[.int .u8 4, .bool bo, .int .i64 n, .string t, .slice ya yl yc, .slice la ll lc, .slice fa fl fc] 41)).drewN nq)) := below_drewN (below_alloc _ _) _
  have HB2 := hide (HB1.out.below (below_drewN (Below.refl _ _) nq))
  obtain ⟨k0, k1, k2, k3, k4, k5, k6⟩ := HB2.out.cells
  have hsz : W.heap.size < ((W.alloc (.cells #[.int .u8 4, .bool bo, .int .i64 n, .string t, .slice ya yl yc, .slice la ll lc, .slice fa fl fc] 41)).drewN nq).heap.size := HB2.out.lt
  generalize (W.alloc (.cells #[.int .u8 4, .bool bo, .int .i64 n, .string t, .slice ya yl yc, .slice la ll lc, .slice fa fl fc] 41)).drewN nq = X at *
  obtain ⟨cc, Y, hcv, hrow, hbel, hlt⟩ := text_new t X.drew
  have HRow := hide hrow
  have HBel := hide hbel
  clear hrow hbel
  go_wp2_with fail
  go_region
  have HFr : Hid (Fr W.heap.size W Y) := ((Fr.mk HX.out (Nat.le_of_lt hsz)).drew).on HBel.out
  have HPy := hide (H.out.below HFr.out.below)
  have hoff : Off Y po (some ⟨X.heap.size, 0, none⟩) := by
    intro ad e
    cases e
    refine ⟨hlt, fun hf => ?_⟩
    have := H.out.wr.foot_lt ((foot_same (HFr.out.below.block po H.out.wr.lt)).1 hf)
    have hh : X.heap.size < W.heap.size := this
    omega
  have HOf := hide hoff
  clear hcv hoff k0 k1 k2 k3 k4 k5 k6
  go_wp2_with fail
  refine (put_any Y po pt q m 64 _ HPy.out (by first | omega | (split <;> omega)) (by have := HB.out; simp; omega)).mono ?_
  rintro e W1 ⟨rfl, hp1, ho1⟩
  have HP1 := hide hp1
  have HO1 := hide ho1
  clear hp1 ho1
  go_wp2_with fail
  refine (wcon_any W1 po pt q m _ _ _ _ (sb t) HP1.out (sb_len t) (HRow.out.wrote HOf.out HO1.out) (HOf.out.wrote HO1.out) (sb_byts t) (by omega) (by have := HB.out; simp; omega)).mono ?_
  rintro e W2 ⟨rfl, hp2, ho2⟩
  have HP2 := hide hp2
  have HO2 := hide ho2
  clear hp2 ho2
  go_wp2
  go_end0
  refine ⟨rfl, ?_, (Wrote.of_below H.out.wr.lt HFr.out.below).trans (HO1.out.trans HO2.out)⟩
  have := HP2.out
  simpa [bT] using this
set_option maxHeartbeats 1600000 in
set_option maxRecDepth 1000000 in
theorem w5 (W : World) (po pt q : Nat) (m : Int) (bo : Bool) (n : Int) (t : ByteArray) (ya : Option Addr) (yl yc : Nat) (la : Option Addr) (ll lc : Nat) (fa : Option Addr) (fl fc : Nat) (zs : List Int) (h : PutS W po pt q m zs) (hb : zs.length + 1 ≤ 10000000) (y : List Int) (HC : Hid (∀ W1 zs1, PutS W1 po pt q m zs1 → Wrote po W W1 → zs1.length ≤ 10000000 → Calls Try.prog 39 #[.slice ya yl yc, .func (.func 27) #[] #[.pointer (some ⟨po, 0, none⟩), .pointer (some ⟨pt, 0, none⟩)]] W1 fun e W' => e = .returned (.tuple #[]) ∧ PutS W' po pt q m (zs1 ++ (esc y ++ [0, 1]).map (tn m)) ∧ Wrote po W1 W')) :
    Calls Try.prog 26 #[.agg #[.int .u8 5, .bool bo, .int .i64 n, .string t, .slice ya yl yc, .slice la ll lc, .slice fa fl fc], .func (.func 27) #[] #[.pointer (some ⟨po, 0, none⟩), .pointer (some ⟨pt, 0, none⟩)]] W fun e W' => e = .returned (.tuple #[]) ∧ PutS W' po pt q m (zs ++ (bYs y).map (tn m)) ∧ Wrote po W W' := by
  have HB1 := hide (Box7.new W (.int .u8 5) (.bool bo) (.int .i64 n) (.string t) (.slice ya yl yc) (.slice la ll lc) (.slice fa fl fc))
  have H := hide h
  have HB := hide hb
  clear h hb
  go_enter Try.func26, Try.ntmps26
  go_wp2
  go_quiet (fail)
  have HX : Hid (Below W.heap.size W ((W.alloc (.cells #[.int .u8 5, .bool bo, .int .i64 n, .string t, .slice ya yl yc, .slice la ll lc, .slice fa fl fc] 41)).drewN nq)) := below_drewN (below_alloc _ _) _
  have HB2 := hide (HB1.out.below (below_drewN (Below.refl _ _) nq))
  obtain ⟨k0, k1, k2, k3, k4, k5, k6⟩ := HB2.out.cells
  have hsz : W.heap.size < ((W.alloc (.cells #[.int .u8 5, .bool bo, .int .i64 n, .string t, .slice ya yl yc, .slice la ll lc, .slice fa fl fc] 41)).drewN nq).heap.size := HB2.out.lt
  generalize (W.alloc (.cells #[.int .u8 5, .bool bo, .int .i64 n, .string t, .slice ya yl yc, .slice la ll lc, .slice fa fl fc] 41)).drewN nq = X at *
  go_wp2_with fail
  refine (put_any X po pt q m 80 _ (H.out.below HX.out) (by first | omega | (split <;> omega)) (by have := HB.out; simp; omega)).mono ?_
  rintro e W1 ⟨rfl, hp1, ho1⟩
  have HP1 := hide hp1
  have HO1 := hide ho1
  clear k0 k1 k2 k3 k4 k5 k6
  clear hp1 ho1
  go_wp2_with fail
  refine (HC.out W1 _ HP1.out ((Wrote.of_below H.out.wr.lt HX.out).trans HO1.out) (by have := HB.out; simp; omega)).mono ?_
  rintro e W2 ⟨rfl, hp2, ho2⟩
  have HP2 := hide hp2
  have HO2 := hide ho2
  clear hp2 ho2
  go_wp2
  go_end0
  refine ⟨rfl, ?_, (Wrote.of_below H.out.wr.lt HX.out).trans (HO1.out.trans HO2.out)⟩
  have := HP2.out
  simpa [bYs] using this
set_option maxHeartbeats 1600000 in
set_option maxRecDepth 1000000 in
theorem w6 (n₀ : Nat) (W : World) (po pt q : Nat) (m : Int) (bo : Bool) (n : Int) (t : ByteArray) (ya : Option Addr) (yl yc : Nat) (la : Option Addr) (lc : Nat) (fa : Option Addr) (fl fc : Nat) (l : TL) (zs : List Int) (h : PutS W po pt q m zs) (hb : zs.length + (l.enc.length + 2) ≤ 10000000) (hm : l.Mem n₀ W la 0) (hlen : l.list.length ≤ 9223372036854775807) (hN : New n₀ W po) (hn : n₀ ≤ W.heap.size)
    (HI : Hid (∀ c ∈ l.list, ∀ W zs, PutS W po pt q m zs → c.Mem n₀ W → New n₀ W po → n₀ ≤ W.heap.size → zs.length + c.enc.length ≤ 10000000 → Calls Try.prog 26 #[c.val, .func (.func 27) #[] #[.pointer (some ⟨po, 0, none⟩), .pointer (some ⟨pt, 0, none⟩)]] W fun e W' => e = .returned (.tuple #[]) ∧ PutS W' po pt q m (zs ++ c.enc.map (tn m)) ∧ Wrote po W W')) :
    Calls Try.prog 26 #[.agg #[.int .u8 6, .bool bo, .int .i64 n, .string t, .slice ya yl yc, .slice la l.list.length lc, .slice fa fl fc], .func (.func 27) #[] #[.pointer (some ⟨po, 0, none⟩), .pointer (some ⟨pt, 0, none⟩)]] W fun e W' => e = .returned (.tuple #[]) ∧ PutS W' po pt q m (zs ++ (96 :: (l.enc ++ [1])).map (tn m)) ∧ Wrote po W W' := by
  have HM := hide hm
  have HNw := hide hN
  have HEi := hide (TL.enc_is l)
  clear hm hN
  have HB1 := hide (Box7.new W (.int .u8 6) (.bool bo) (.int .i64 n) (.string t) (.slice ya yl yc) (.slice la l.list.length lc) (.slice fa fl fc))
  have H := hide h
  have HB := hide hb
  clear h hb
  go_enter Try.func26, Try.ntmps26
  go_wp2
  go_quiet (fail)
  have HX : Hid (Below W.heap.size W ((W.alloc (.cells #[.int .u8 6, .bool bo, .int .i64 n, .string t, .slice ya yl yc, .slice la l.list.length lc, .slice fa fl fc] 41)).drewN nq)) := below_drewN (below_alloc _ _) _
  have HB2 := hide (HB1.out.below (below_drewN (Below.refl _ _) nq))
  obtain ⟨k0, k1, k2, k3, k4, k5, k6⟩ := HB2.out.cells
  have hsz : W.heap.size < ((W.alloc (.cells #[.int .u8 6, .bool bo, .int .i64 n, .string t, .slice ya yl yc, .slice la l.list.length lc, .slice fa fl fc] 41)).drewN nq).heap.size := HB2.out.lt
  generalize (W.alloc (.cells #[.int .u8 6, .bool bo, .int .i64 n, .string t, .slice ya yl yc, .slice la l.list.length lc, .slice fa fl fc] 41)).drewN nq = X at *
  have hnf : ¬ foot X po W.heap.size := fun hf => by
    have := H.out.wr.foot_lt ((foot_same (HX.out.block po H.out.wr.lt)).1 hf)
    omega
  go_wp2_with fail
  refine (put_any X po pt q m 96 _ (H.out.below HX.out) (by first | omega | (split <;> omega)) (by have := HB.out; simp; omega)).mono ?_
  rintro e W1 ⟨rfl, hp1, ho1⟩
  have HP1 := hide hp1
  have HO1 := hide ho1
  have hk5 : W1.cell? ⟨W.heap.size, 5, none⟩ = some (.slice la l.list.length lc) := (World.cell?_of_block (a := ⟨W.heap.size, 5, none⟩) (ho1.block W.heap.size HB2.out.lt hnf)).trans k5
  clear k0 k1 k2 k3 k4 k5 k6
  clear hp1 ho1
  have HO0 := hide ((Wrote.of_below H.out.wr.lt HX.out).trans HO1.out)
  clear hnf HB1 HB2
  go_wp2
  go_loopw [51] (fun i wr => ∃ j : Nat, j ≤ l.list.length ∧ i = .int .i64 (j : Int) ∧ PutS wr po pt q m (zs ++ (96 :: (l.list.take j).flatMap T.enc).map (tn m)) ∧ Wrote po W wr) (fun i _ => l.list.length - (intOf i).toNat)
  case atStart => exact ⟨0, by omega, rfl, by simpa using HP1.out, HO0.out⟩
  case round =>
    obtain ⟨j, hj, rfl, hp, ho⟩ := hrel
    have HP := hide hp
    have HO := hide ho
    clear hp ho HP1 HO1 HO0 hk5
    have hszr : W.heap.size ≤ wr.heap.size := HO.out.size
    by_cases hlt : j < l.list.length
    · obtain ⟨c, hc⟩ : ∃ c, l.list[j]? = some c := ⟨_, List.getElem?_eq_getElem hlt⟩
      have HTk := hide (take_next l.list j c hc)
      have HLn : Hid (((l.list.take j).flatMap T.enc).length + c.enc.length ≤ l.enc.length) := by
        rw [Hid, HEi.out]
        conv => rhs; rw [split_list l.list j c hc]
        simp [← Nat.add_assoc]
      have hmem : c ∈ l.list := List.mem_of_getElem? hc
      have HMw := hide (HM.out.on (HO.out.below HNw.out hn))
      have HIc := hide (fun W zs => HI.out c hmem W zs)
      have HMc := hide (TL.Mem.at l 0 HMw.out j c hc).2
      have HNr := hide (HNw.out.wrote HO.out hn)
      clear hmem
      cases c with
      | mk ck cbo cn ct cya cyc cy cla clc cl cfa cfc cf =>
      obtain ⟨b', o', rfl, hb', c0, c1, c2, c3, c4, c5, c6⟩ := HMw.out.cells hc
      clear hc
      have HXa := hide (below_alloc wr (.cells #[.int .u8 ck, .bool cbo, .int .i64 cn, .string ct, .slice cya cy.length cyc, .slice cla cl.list.length clc, .slice cfa cf.list.length cfc] 41))
      simp only [T.val] at HIc
      go_wp2_with fail
      refine (HIc.out _ _ (HP.out.below HXa.out) (HMc.out.on (HXa.out.mono (by omega))) (HNr.out.below HP.out.wr.lt HXa.out) (by simp; omega) (by have := HB.out; have := HLn.out; simp at *; omega)).mono ?_
      rintro e W3 ⟨rfl, hp3, ho3⟩
      have HP3 := hide hp3
      have HO3 := hide ho3
      clear hp3 ho3 c0 c1 c2 c3 c4 c5 c6
      go_wp2
      go_roundw
      case rel => exact ⟨j + 1, by omega, by go_num, by rw [HTk.out]; simpa using HP3.out, HO.out.trans ((Wrote.of_below HP.out.wr.lt HXa.out).trans HO3.out)⟩
      case measure => simp [intOf]; omega
    · have hjl : l.list.take j = l.list := List.take_of_length_le (by omega)
      rw [hjl, ← HEi.out] at HP
      clear hjl
      go_wp2_with fail
      refine (put_any wr po pt q m 1 _ HP.out (by omega) (by have := HB.out; simp; omega)).mono ?_
      rintro e W2 ⟨rfl, hp2, ho2⟩
      have HP2 := hide hp2
      have HO2 := hide ho2
      clear hp2 ho2
      go_wp2
      go_end0
      refine ⟨rfl, ?_, HO.out.trans HO2.out⟩
      have := HP2.out
      simpa using this
set_option maxHeartbeats 1600000 in
set_option maxRecDepth 1000000 in
theorem w_else (k : Int) (W : World) (po pt q : Nat) (m : Int) (bo : Bool) (n : Int) (t : ByteArray) (ya : Option Addr) (yl yc : Nat) (la : Option Addr) (ll lc : Nat) (fa : Option Addr) (fl fc : Nat) (zs : List Int) (h : PutS W po pt q m zs) (h1 : (k == 1) = false) (h2 : (k == 2) = false) (h3 : (k == 3) = false) (h4 : (k == 4) = false) (h5 : (k == 5) = false) (h6 : (k == 6) = false) :
    Calls Try.prog 26 #[.agg #[.int .u8 k, .bool bo, .int .i64 n, .string t, .slice ya yl yc, .slice la ll lc, .slice fa fl fc], .func (.func 27) #[] #[.pointer (some ⟨po, 0, none⟩), .pointer (some ⟨pt, 0, none⟩)]] W fun e W' => e = .returned (.tuple #[]) ∧ PutS W' po pt q m (zs ++ ([] : List Int).map (tn m)) ∧ Wrote po W W' := by
  have hb : True := trivial
  have HB1 := hide (Box7.new W (.int .u8 k) (.bool bo) (.int .i64 n) (.string t) (.slice ya yl yc) (.slice la ll lc) (.slice fa fl fc))
  have H := hide h
  have HB := hide hb
  clear h hb
  go_enter Try.func26, Try.ntmps26
  go_wp2
  go_quiet (fail)
  have HX : Hid (Below W.heap.size W ((W.alloc (.cells #[.int .u8 k, .bool bo, .int .i64 n, .string t, .slice ya yl yc, .slice la ll lc, .slice fa fl fc] 41)).drewN nq)) := below_drewN (below_alloc _ _) _
  have HB2 := hide (HB1.out.below (below_drewN (Below.refl _ _) nq))
  obtain ⟨k0, k1, k2, k3, k4, k5, k6⟩ := HB2.out.cells
  have hsz : W.heap.size < ((W.alloc (.cells #[.int .u8 k, .bool bo, .int .i64 n, .string t, .slice ya yl yc, .slice la ll lc, .slice fa fl fc] 41)).drewN nq).heap.size := HB2.out.lt
  generalize (W.alloc (.cells #[.int .u8 k, .bool bo, .int .i64 n, .string t, .slice ya yl yc, .slice la ll lc, .slice fa fl fc] 41)).drewN nq = X at *
  go_wp2
  go_end0
  refine ⟨rfl, ?_, Wrote.of_below H.out.wr.lt HX.out⟩
  simpa using H.out.below HX.out
theorem RowN.row {n₀ : Nat} {W : World} {a : Option Addr} {zs : List Int} (h : RowN n₀ W a zs) (hn : n₀ ≤ W.heap.size) : Row W a zs := by
  rcases h with h | ⟨b, o, rfl, hlt, hc⟩
  · exact .inl h
  · exact .inr ⟨b, o, rfl, by omega, hc⟩
theorem write_gen (n₀ po pt q : Nat) (m : Int) : ∀ (N : Nat) (v : T), v.sz ≤ N → ∀ (W : World) (zs : List Int), PutS W po pt q m zs → v.Mem n₀ W → New n₀ W po → n₀ ≤ W.heap.size → zs.length + v.enc.length ≤ 10000000 →
    Calls Try.prog 26 #[v.val, .func (.func 27) #[] #[.pointer (some ⟨po, 0, none⟩), .pointer (some ⟨pt, 0, none⟩)]] W fun e W' => e = .returned (.tuple #[]) ∧ PutS W' po pt q m (zs ++ v.enc.map (tn m)) ∧ Wrote po W W' := by
  intro N
  induction N with
  | zero => intro v hv; cases v; simp [T.sz] at hv
  | succ N ih =>
    intro v hv W zs h hm hN hn hb
    cases v with
    | mk k bo n t ya yc y la lc l fa fc f =>
    simp only [T.val]
    by_cases k1 : k = 1
    · subst k1
      exact w1 W po pt q m bo n t ya y.length yc la l.list.length lc fa f.list.length fc zs h (by simpa [T.enc] using hb)
    by_cases k2 : k = 2
    · subst k2
      exact w2 W po pt q m bo n t ya y.length yc la l.list.length lc fa f.list.length fc zs h (by simpa [T.enc, bB] using hb) (if bo then 33 else 32) (by split <;> omega) (truth_any bo)
    by_cases k3 : k = 3
    · subst k3
      exact w3 W po pt q m bo n t ya y.length yc la l.list.length lc fa f.list.length fc zs h (by simpa [T.enc, bI, nbs_len] using hb)
    by_cases k4 : k = 4
    · subst k4
      have := esc_ge (sb t)
      have hb2 : zs.length + (bT t).length ≤ 10000000 := hb
      rw [sb_len] at this
      simp [bT] at hb2
      exact w4 W po pt q m bo n t ya y.length yc la l.list.length lc fa f.list.length fc zs h (by omega) (by omega)
    by_cases k5 : k = 5
    · subst k5
      have := esc_ge y
      have hb2 : zs.length + (bYs y).length ≤ 10000000 := hb
      simp [bYs] at hb2
      refine w5 W po pt q m bo n t ya y.length yc la l.list.length lc fa f.list.length fc zs h (by omega) y ?_
      intro W1 zs1 hp ho hz
      have hB := ho.below hN hn
      have hn1 : n₀ ≤ W1.heap.size := Nat.le_trans hn ho.size
      by_cases hy0 : y = []
      · subst hy0
        exact wcon_nil W1 po pt q m ya yc zs1 hp (by omega)
      · have hr := hm.1.on hB
        refine wcon_any W1 po pt q m ya y.length yc zs1 y hp rfl (hr.row hn1) ?_ hm.2.1 (by omega) (by omega)
        rcases hr with h0 | ⟨b, o, rfl, hlt, _⟩
        · exact absurd h0 hy0
        · intro ad e
          cases e
          refine ⟨Nat.lt_of_lt_of_le hlt hn1, fun hf => ?_⟩
          have h9 := (hN.wrote ho hn) _ hf
          have h8 : b < n₀ := hlt
          have h7 : n₀ ≤ b := h9
          omega
    by_cases k6 : k = 6
    · subst k6
      have hb2 : zs.length + (96 :: (l.enc ++ [1])).length ≤ 10000000 := hb
      simp at hb2
      refine w6 n₀ W po pt q m bo n t ya y.length yc la lc fa f.list.length fc l zs h (by omega) hm.2.2.2.2.1 hm.2.2.2.2.2.2.1 hN hn ?_
      intro c hc W1 zs1 hp h1 h2 h3 h4
      refine ih c ?_ W1 zs1 hp h1 h2 h3 h4
      have := T.kid_sz (.mk 6 bo n t ya yc y la lc l fa fc f) c (by simp only [T.kids]; exact List.mem_append_left _ hc)
      omega
    have e : (T.mk k bo n t ya yc y la lc l fa fc f).enc = [] := by simp [T.enc, k1, k2, k3, k4, k5, k6]
    rw [e]
    exact w_else k W po pt q m bo n t ya y.length yc la l.list.length lc fa f.list.length fc zs h (by simp [k1]) (by simp [k2]) (by simp [k3]) (by simp [k4]) (by simp [k5]) (by simp [k6])
end Go.Proofs.Ytegoeaofjnpehaa
