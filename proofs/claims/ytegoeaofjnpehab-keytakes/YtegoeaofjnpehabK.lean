/- Contracts of writing a number's bytes, and those of a text. -/
import Derived.Test.YtegoeaofjnpehabG
import Derived.Laws.IdiomStrings
namespace Go.Proofs.Ytegoeaofjnpehab
open Go.RowKit
set_option linter.unusedVariables false

/-- a number, its highest bit turned over. -/
def nX (n : Int) : Int := bits BinOp.xor IntKind.u64 (IntKind.u64.wrap n) 9223372036854775808
/-- the first k of eight bytes. -/
def nbs (X : Int) (k : Nat) : List Int := (List.range k).map fun j => X / 2 ^ (56 - 8 * j) % 256
theorem nbs_len (X : Int) (k : Nat) : (nbs X k).length = k := by simp [nbs]
theorem nbs_snoc (X : Int) (k : Nat) : nbs X (k + 1) = nbs X k ++ [X / 2 ^ (56 - 8 * k) % 256] := by simp [nbs, List.range_succ]
theorem byte_bd (y : Int) : 0 ≤ y % 256 ∧ y % 256 ≤ 255 := by omega
theorem map_snoc (f : Int → Int) (xs : List Int) (c : Int) : (xs ++ [c]).map f = xs.map f ++ [f c] := by simp

set_option maxHeartbeats 1600000 in
set_option maxRecDepth 1000000 in
theorem wnum_any (W : World) (po pt q : Nat) (m n : Int) (zs : List Int) (h : PutS W po pt q m zs) (hb : zs.length + 8 ≤ 140737488355328) :
    Calls Try.prog 38 #[.int .i64 n, .func (.func 25) #[] #[.pointer (some ⟨po, 0, none⟩), .pointer (some ⟨pt, 0, none⟩)]] W fun e W' => e = .returned (.tuple #[]) ∧ PutS W' po pt q m (zs ++ (nbs (nX n) 8).map (tn m)) ∧ Wrote po W W' := by
  have H := hide h
  have HB := hide hb
  clear h hb
  go_enter Try.func38, Try.ntmps38
  go_wp2
  generalize hX : bits BinOp.xor IntKind.u64 (IntKind.u64.wrap n) 9223372036854775808 = X at *
  have HX : Hid (nX n = X) := hX
  clear hX
  go_loopw [5] (fun s wr => ∃ k : Nat, k ≤ 8 ∧ s = .int .i64 (56 - 8 * k) ∧ PutS wr po pt q m (zs ++ (nbs X k).map (tn m)) ∧ Wrote po W wr) (fun s _ => (intOf s + 8).toNat)
  case atStart => exact ⟨0, by omega, rfl, by simpa [nbs] using H.out, Wrote.refl _ _⟩
  case round =>
    obtain ⟨k, hk, rfl, hp, ho⟩ := hrel
    have HP := hide hp
    have HO := hide ho
    clear hp ho H
    by_cases hlt : k < 8
    · have hd : decide ((8 : Int) * (k : Int) ≤ 56) = true := by simp; omega
      have HS := hide (nbs_snoc X k)
      go_wp2_with fail
      generalize X / 2 ^ (56 - 8 * k) = y at *
      refine (put_any wr po pt q m (y % 256) _ HP.out (byte_bd y) (by have := HB.out; simp [nbs_len]; omega)).mono ?_
      rintro e W1 ⟨rfl, hp1, ho1⟩
      have HP1 := hide hp1
      have HO1 := hide ho1
      clear hp1 ho1
      go_wp2
      go_roundw
      case rel => exact ⟨k + 1, by omega, by go_num, by rw [HS.out, map_snoc, ← List.append_assoc]; exact HP1.out, HO.out.trans HO1.out⟩
      case measure => simp [intOf]; omega
    · have hk8 : k = 8 := by omega
      subst hk8
      go_wp2
      go_end0
      exact ⟨rfl, by rw [HX.out]; exact HP.out, HO.out⟩

/-- what is put for a text's bytes. -/
def esc (bs : List Int) : List Int := bs.flatMap fun c => if c = 0 then [0, 255] else [c]
theorem esc_snoc (bs : List Int) (c : Int) : esc (bs ++ [c]) = esc bs ++ (if c = 0 then [0, 255] else [c]) := by simp [esc]
theorem esc_len (bs : List Int) : (esc bs).length ≤ 2 * bs.length := by
  induction bs with
  | nil => simp [esc]
  | cons c t ih =>
    have : esc (c :: t) = (if c = 0 then [0, 255] else [c]) ++ esc t := by simp [esc]
    rw [this, List.length_append]
    split <;> simp <;> omega
/-- a row that the writer at po does not write into. -/
def Off (W : World) (po : Nat) (a : Option Addr) : Prop := ∀ ad, a = some ad → ad.block < W.heap.size ∧ ¬ foot W po ad.block
theorem Off.wrote {W W' : World} {po : Nat} {a : Option Addr} (h : Off W po a) (ho : Wrote po W W') : Off W' po a := fun ad e =>
  ⟨Nat.lt_of_lt_of_le (h ad e).1 ho.size, fun hf => (ho.foot _ hf).elim (h ad e).2 (fun hs => by have := (h ad e).1; omega)⟩
theorem Row.wrote {W W' : World} {po : Nat} {a : Option Addr} {zs : List Int} (h : Row W a zs) (hf : Off W po a) (ho : Wrote po W W') : Row W' a zs := by
  rcases h with h | ⟨b, off, rfl, hlt, hc⟩
  · exact .inl h
  · refine .inr ⟨b, off, rfl, Nat.lt_of_lt_of_le hlt ho.size, fun i hi => ?_⟩
    have := ho.block b hlt (hf _ rfl).2
    exact (World.cell?_of_block (a := ⟨b, off + i, none⟩) this).trans (hc i hi)

set_option maxHeartbeats 1600000 in
set_option maxRecDepth 1000000 in
theorem wcon_any (W : World) (po pt q : Nat) (m : Int) (a : Option Addr) (len cap : Nat) (zs bs : List Int) (h : PutS W po pt q m zs) (hl : bs.length = len) (hr : Row W a bs) (hf : Off W po a) (hy : Byts bs) (hlb : len ≤ 10000000) (hb : zs.length ≤ 10000000) :
    Calls Try.prog 39 #[.slice a len cap, .func (.func 25) #[] #[.pointer (some ⟨po, 0, none⟩), .pointer (some ⟨pt, 0, none⟩)]] W fun e W' => e = .returned (.tuple #[]) ∧ PutS W' po pt q m (zs ++ (esc bs ++ [0, 1]).map (tn m)) ∧ Wrote po W W' := by
  have H := hide h
  have HL := hide hl
  have HR := hide hr
  have HF := hide hf
  have HY := hide hy
  clear h hl hr hf hy
  go_enter Try.func39, Try.ntmps39
  go_wp2
  go_loopw [8] (fun i wr => ∃ k : Nat, k ≤ len ∧ i = .int .i64 k ∧ PutS wr po pt q m (zs ++ (esc (bs.take k)).map (tn m)) ∧ Wrote po W wr) (fun i _ => len - (intOf i).toNat)
  case atStart => exact ⟨0, by omega, rfl, by simpa [esc] using H.out, Wrote.refl _ _⟩
  case round =>
    obtain ⟨k, hk, rfl, hp, ho⟩ := hrel
    have HP := hide hp
    have HO := hide ho
    clear hp ho H
    have HE := hide (esc_len (bs.take k))
    have HTk : Hid ((bs.take k).length ≤ k) := List.length_take_le _ _
    by_cases hlt : k < len
    · have hlk : k < bs.length := by have := HL.out; omega
      have HS := hide ((congrArg esc (take_snoc bs k hlk)).trans (esc_snoc _ _))
      have HBy := hide (HY.out.at k)
      rcases HR.out.wrote HF.out HO.out with h0 | ⟨b, o, rfl, _, hc⟩
      · subst h0; simp at hlk
      have g := hc k hlk
      clear hc
      generalize bs.getD k 0 = c at *
      go_wp2_with fail
      refine (put_any wr po pt q m c _ HP.out HBy.out (by have := HE.out; have := HTk.out; simp; omega)).mono ?_
      rintro e W1 ⟨rfl, hp1, ho1⟩
      have HP1 := hide hp1
      have HO1 := hide ho1
      clear hp1 ho1 g HP
      by_cases hc0 : c = 0
      · subst hc0
        go_wp2_with fail
        refine (put_any W1 po pt q m 255 _ HP1.out (by omega) (by have := HE.out; have := HTk.out; simp; omega)).mono ?_
        rintro e W2 ⟨rfl, hp2, ho2⟩
        have HP2 := hide hp2
        have HO2 := hide ho2
        clear hp2 ho2 HP1
        go_wp2
        go_roundw
        case rel => exact ⟨k + 1, by omega, by go_num, by rw [HS.out]; simpa using HP2.out, HO.out.trans (HO1.out.trans HO2.out)⟩
        case measure => simp [intOf]; omega
      · have hcb : (c == 0) = false := by simp [hc0]
        go_wp2
        go_roundw
        case rel => exact ⟨k + 1, by omega, by go_num, by rw [HS.out, if_neg hc0, List.map_append, ← List.append_assoc]; simpa using HP1.out, HO.out.trans HO1.out⟩
        case measure => simp [intOf]; omega
    · have hke : bs.take k = bs := List.take_of_length_le (by have := HL.out; omega)
      rw [hke] at HP HE HTk
      clear hke
      go_wp2_with fail
      refine (put_any wr po pt q m 0 _ HP.out (by omega) (by have := HE.out; have := HL.out; simp; omega)).mono ?_
      rintro e W1 ⟨rfl, hp1, ho1⟩
      have HP1 := hide hp1
      have HO1 := hide ho1
      clear hp1 ho1 HP
      go_wp2_with fail
      refine (put_any W1 po pt q m 1 _ HP1.out (by omega) (by have := HE.out; have := HL.out; simp; omega)).mono ?_
      rintro e W2 ⟨rfl, hp2, ho2⟩
      have HP2 := hide hp2
      have HO2 := hide ho2
      clear hp2 ho2 HP1
      go_wp2
      go_end0
      exact ⟨rfl, by rw [List.map_append, ← List.append_assoc]; simpa using HP2.out, HO.out.trans (HO1.out.trans HO2.out)⟩
end Go.Proofs.Ytegoeaofjnpehab
/- Contracts of writing a value's bytes: a text, a number. -/
namespace Go.Proofs.Ytegoeaofjnpehab
open Go.RowKit
set_option linter.unusedVariables false

set_option maxHeartbeats 800000 in
theorem index_nil (f : Value) (w : World) : Calls Try.prog 52 #[.slice none 0 0, f] w fun e w' => e = .returned (.int .i64 (-1)) ∧ w' = w := by
  go_enter Try.func52, Try.ntmps52
  go_wp2
  go_loop [8] (fun i => i = .int .i64 0) (fun _ => 0)
  case atStart => rfl
  case round =>
    subst hrel
    go_wp2
    go_ret
    exact ⟨rfl, rfl⟩
set_option maxHeartbeats 800000 in
theorem contains_nil (f : Value) (w : World) : Calls Try.prog 35 #[.slice none 0 0, f] w fun e w' => e = .returned (.bool false) ∧ w' = w := by
  go_enter Try.func35, Try.ntmps35
  go_wp2_with fail
  refine (index_nil _ _).mono ?_
  rintro e w1 ⟨rfl, rfl⟩
  go_wp2
  go_ret
  exact ⟨rfl, rfl⟩
set_option maxHeartbeats 800000 in
theorem hasdoc_leaf (k : Int) (c1 c2 c3 c4 c6 : Value) (w : World) (hk : (k == 7) = false) : Calls Try.prog 22 #[.agg #[.int .u8 k, c1, c2, c3, c4, .slice none 0 0, c6]] w fun e w' => e = .returned (.bool false) ∧ Below w.heap.size w w' := by
  go_enter Try.func22, Try.ntmps22
  go_wp2_with fail
  refine (contains_nil _ _).mono ?_
  rintro e w1 ⟨rfl, rfl⟩
  go_wp2
  go_ret
  exact ⟨rfl, below_alloc _ _⟩
set_option maxHeartbeats 1600000 in
set_option maxRecDepth 1000000 in
theorem writeI (W : World) (po pt q : Nat) (m n : Int) (zs : List Int) (h : PutS W po pt q m zs) (hb : zs.length ≤ 1000000) :
    Calls Try.prog 24 #[vI n, .func (.func 25) #[] #[.pointer (some ⟨po, 0, none⟩), .pointer (some ⟨pt, 0, none⟩)]] W fun e W' => e = .returned (.tuple #[]) ∧ PutS W' po pt q m (zs ++ (48 :: nbs (nX n) 8).map (tn m)) ∧ Wrote po W W' := by
  have HB1 := hide (Box7.new W (.int .u8 3) (.bool false) (.int .i64 n) (.string ⟨#[]⟩) (.slice none 0 0) (.slice none 0 0) (.slice none 0 0))
  have H := hide h
  have HB := hide hb
  clear h hb
  go_enter Try.func24, Try.ntmps24
  go_wp2
  go_quiet (fail)
  have HX : Hid (Below W.heap.size W ((W.alloc (.cells #[.int .u8 3, .bool false, .int .i64 n, .string ⟨#[]⟩, .slice none 0 0, .slice none 0 0, .slice none 0 0] 32)).drewN nq)) := below_drewN (below_alloc _ _) _
  have HB2 := hide (HB1.out.below (below_drewN (Below.refl _ _) nq))
  obtain ⟨k0, k1, k2, k3, k4, k5, k6⟩ := HB2.out.cells
  generalize (W.alloc (.cells #[.int .u8 3, .bool false, .int .i64 n, .string ⟨#[]⟩, .slice none 0 0, .slice none 0 0, .slice none 0 0] 32)).drewN nq = X at *
  go_wp2_with fail
  refine (put_any X po pt q m 48 zs (H.out.below HX.out) (by omega) (by have := HB.out; omega)).mono ?_
  rintro e W1 ⟨rfl, hp1, ho1⟩
  have HP1 := hide hp1
  have HO1 := hide ho1
  have hk2 : W1.cell? ⟨W.heap.size, 2, none⟩ = some (.int .i64 n) := (World.cell?_of_block (a := ⟨W.heap.size, 2, none⟩) (ho1.block W.heap.size HB2.out.lt (fun hf => by
    have h3 : ¬ foot W po W.heap.size := fun hf => by have := H.out.wr.foot_lt hf; omega
    exact h3 ((foot_same (HX.out.block po H.out.wr.lt)).1 hf)))).trans k2
  clear hp1 ho1 k0 k1 k2 k3 k4 k5 k6
  go_wp2_with fail
  refine (wnum_any W1 po pt q m n _ HP1.out (by have := HB.out; simp; omega)).mono ?_
  rintro e W2 ⟨rfl, hp2, ho2⟩
  have HP2 := hide hp2
  have HO2 := hide ho2
  clear hp2 ho2
  go_wp2
  go_end0
  refine ⟨rfl, ?_, (Wrote.of_below H.out.wr.lt HX.out).trans (HO1.out.trans HO2.out)⟩
  have := HP2.out
  simpa using this

/-- a text's bytes. -/
def sb (s : ByteArray) : List Int := s.data.toList.map fun b => (b.toNat : Int)
theorem sb_len (s : ByteArray) : (sb s).length = s.size := by unfold sb; simp
theorem sb_byts (s : ByteArray) : Byts (sb s) := by
  intro c hc
  unfold sb at hc
  obtain ⟨b, _, rfl⟩ := List.mem_map.1 hc
  have := b.toNat_lt
  omega
theorem text_new (t : ByteArray) (w : World) : ∃ c' W', (convert 9 22 (.string t)).run Try.prog w = .ok (.slice (some ⟨w.heap.size, 0, none⟩) t.size c') W' ∧ Row W' (some ⟨w.heap.size, 0, none⟩) (sb t) ∧ Below w.heap.size w W' ∧ w.heap.size < W'.heap.size := by
  have h := run_bytes_of_string (P := Try.prog) w 9 22 5 t Try.underlying9 Try.underlying22 Try.underlying5
  refine ⟨_, _, h, ?_, ((Below.refl w.heap.size w).drew).alloc (Nat.le_refl _) _, by simp⟩
  refine .inr ⟨w.heap.size, 0, rfl, by simp, fun j hj => ?_⟩
  rw [sb_len] at hj
  have hj2 : j < t.data.size := hj
  have e := bytesRow_at t (grownCap w t.size 0 5) j hj2
  rw [Nat.zero_add]
  have e2 : (t.data[j].toNat : Int) = (sb t).getD j 0 := by
    unfold sb
    simp
    rw [Array.getElem?_eq_getElem hj2]
    rfl
  rw [e2] at e
  have h3 : (w.drew.alloc (.cells (bytesRow t (grownCap w t.size 0 5)) 5 ((bytesRow t (grownCap w t.size 0 5)).size, (bytesRow t (grownCap w t.size 0 5)).size + 1))).heap[w.heap.size]? = some (.cells (bytesRow t (grownCap w t.size 0 5)) 5 ((bytesRow t (grownCap w t.size 0 5)).size, (bytesRow t (grownCap w t.size 0 5)).size + 1)) := heap_alloc_new w.drew _
  simp only [World.cell?, h3]
  exact e
set_option maxHeartbeats 1600000 in
set_option maxRecDepth 1000000 in
theorem writeT (W : World) (po pt q : Nat) (m : Int) (t : ByteArray) (zs : List Int) (h : PutS W po pt q m zs) (hb : zs.length ≤ 1000000) (ht : t.size ≤ 1000000) :
    Calls Try.prog 24 #[vT t, .func (.func 25) #[] #[.pointer (some ⟨po, 0, none⟩), .pointer (some ⟨pt, 0, none⟩)]] W fun e W' => e = .returned (.tuple #[]) ∧ PutS W' po pt q m (zs ++ (64 :: (esc (sb t) ++ [0, 1])).map (tn m)) ∧ Wrote po W W' := by
  have HB1 := hide (Box7.new W (.int .u8 4) (.bool false) (.int .i64 0) (.string t) (.slice none 0 0) (.slice none 0 0) (.slice none 0 0))
  have H := hide h
  have HB := hide hb
  clear h hb
  go_enter Try.func24, Try.ntmps24
  go_wp2
  go_quiet (fail)
  have HX : Hid (Below W.heap.size W ((W.alloc (.cells #[.int .u8 4, .bool false, .int .i64 0, .string t, .slice none 0 0, .slice none 0 0, .slice none 0 0] 32)).drewN nq)) := below_drewN (below_alloc _ _) _
  have HB2 := hide (HB1.out.below (below_drewN (Below.refl _ _) nq))
  obtain ⟨k0, k1, k2, k3, k4, k5, k6⟩ := HB2.out.cells
  have hsz : W.heap.size < ((W.alloc (.cells #[.int .u8 4, .bool false, .int .i64 0, .string t, .slice none 0 0, .slice none 0 0, .slice none 0 0] 32)).drewN nq).heap.size := HB2.out.lt
  generalize (W.alloc (.cells #[.int .u8 4, .bool false, .int .i64 0, .string t, .slice none 0 0, .slice none 0 0, .slice none 0 0] 32)).drewN nq = X at *
  obtain ⟨cc, Y, hcv, hrow, hbel, hlt⟩ := text_new t X.drew
  have HRow := hide hrow
  have HBel := hide hbel
  clear hrow hbel
  go_wp2_with fail
  go_region
  have HFr : Hid (Fr W.heap.size W Y) := ((Fr.mk HX.out (Nat.le_of_lt hsz)).drew).on HBel.out
  have HPy := hide (H.out.below HFr.out.below)
  have hoff : Off Y po (some ⟨X.heap.size, 0, none⟩) := by
    intro ad e
    cases e
    refine ⟨hlt, fun hf => ?_⟩
    have := H.out.wr.foot_lt ((foot_same (HFr.out.below.block po H.out.wr.lt)).1 hf)
    have hh : X.heap.size < W.heap.size := this
    omega
  have HOf := hide hoff
  clear hcv hoff k0 k1 k2 k3 k4 k5 k6
  go_wp2_with fail
  refine (put_any Y po pt q m 64 zs HPy.out (by omega) (by have := HB.out; omega)).mono ?_
  rintro e W1 ⟨rfl, hp1, ho1⟩
  have HP1 := hide hp1
  have HO1 := hide ho1
  clear hp1 ho1
  go_wp2_with fail
  refine (wcon_any W1 po pt q m _ _ _ _ (sb t) HP1.out (sb_len t) (HRow.out.wrote HOf.out HO1.out) (HOf.out.wrote HO1.out) (sb_byts t) (by omega) (by have := HB.out; simp; omega)).mono ?_
  rintro e W2 ⟨rfl, hp2, ho2⟩
  have HP2 := hide hp2
  have HO2 := hide ho2
  clear hp2 ho2
  go_wp2
  go_end0
  refine ⟨rfl, ?_, (Wrote.of_below H.out.wr.lt HFr.out.below).trans (HO1.out.trans HO2.out)⟩
  have := HP2.out
  simpa using this
end Go.Proofs.Ytegoeaofjnpehab
/- Contracts of One: a text, a number, rising or falling. -/
namespace Go.Proofs.Ytegoeaofjnpehab
open Go.RowKit
set_option linter.unusedVariables false

theorem new_wr (w : World) : Wr (w.alloc (.cells #[.slice none 0 0] 22)) w.heap.size [] :=
  ⟨.slice none 0 0, heap_alloc_new w _, Own.nil _, by simp [Value.ownBlock]⟩
theorem new_foot (w : World) (k : Nat) (h : foot (w.alloc (.cells #[.slice none 0 0] 22)) w.heap.size k) : k = w.heap.size := by
  rcases h with h | ⟨v, h1, h2⟩
  · exact h
  · rw [heap_alloc_new] at h1
    have e : v = .slice none 0 0 := by simpa using h1.symm
    rw [e] at h2
    simp [Value.ownBlock] at h2
theorem start_foot (w : World) (m : Int) (k : Nat) (h : foot (((w.alloc (.cells #[.slice none 0 0] 22)).alloc (.cells #[.int .u8 m] 5)).alloc (.cells #[.func (.func 36) #[] #[.pointer (some ⟨w.heap.size + 1, 0, none⟩)]] 55)) w.heap.size k) : k = w.heap.size := by
  have hb : Below (w.alloc (.cells #[.slice none 0 0] 22)).heap.size (w.alloc (.cells #[.slice none 0 0] 22)) (((w.alloc (.cells #[.slice none 0 0] 22)).alloc (.cells #[.int .u8 m] 5)).alloc (.cells #[.func (.func 36) #[] #[.pointer (some ⟨w.heap.size + 1, 0, none⟩)]] 55)) :=
    ((Below.refl _ _).alloc (Nat.le_refl _) _).alloc (by simp) _
  exact new_foot w k ((foot_same (hb.block _ (by simp))).1 h)
/-- a new place to put to. -/
theorem PutS.start (w : World) (m : Int) (hm : 0 ≤ m ∧ m ≤ 255) : PutS (((w.alloc (.cells #[.slice none 0 0] 22)).alloc (.cells #[.int .u8 m] 5)).alloc (.cells #[.func (.func 36) #[] #[.pointer (some ⟨w.heap.size + 1, 0, none⟩)]] 55)) w.heap.size (w.heap.size + 1 + 1) (w.heap.size + 1) m [] := by
  have hb : Below (w.alloc (.cells #[.slice none 0 0] 22)).heap.size (w.alloc (.cells #[.slice none 0 0] 22)) (((w.alloc (.cells #[.slice none 0 0] 22)).alloc (.cells #[.int .u8 m] 5)).alloc (.cells #[.func (.func 36) #[] #[.pointer (some ⟨w.heap.size + 1, 0, none⟩)]] 55)) :=
    ((Below.refl _ _).alloc (Nat.le_refl _) _).alloc (by simp) _
  have hf := start_foot w m
  refine ⟨(new_wr w).below hb, ?_, ?_, fun h => ?_, fun h => ?_, hm⟩
  · have := heap_alloc_new ((w.alloc (.cells #[.slice none 0 0] 22)).alloc (.cells #[.int .u8 m] 5)) (.cells #[.func (.func 36) #[] #[.pointer (some ⟨w.heap.size + 1, 0, none⟩)]] 55)
    simpa using this
  · have := heap_alloc_new (w.alloc (.cells #[.slice none 0 0] 22)) (.cells #[.int .u8 m] 5)
    rw [World.size_alloc] at this
    exact (Below.heap_alloc _ _ _ (by simp)).trans this
  · have := hf _ h; omega
  · have := hf _ h; omega

@[go_sem] theorem store_fn (P : Program) (w : World) (a : Addr) (m : Mode) (fn : Fn) (first cap : Array Value) : (store a (.func fn first cap) m).run P w = stored P w a (.func fn first cap) m := run_store P w a _ m rfl
set_option maxHeartbeats 1600000 in
set_option maxRecDepth 1000000 in
theorem one_leaf (d : Bool) (m k n : Int) (t : ByteArray) (ys : List Int) (w : World) (hm : 0 ≤ m ∧ m ≤ 255) (hy : ys.length ≤ 160)
    (HT : Hid (∀ W, Calls Try.prog 23 #[.bool d] W fun e w' => e = .returned (.func (.func 36) #[] #[.pointer (some ⟨W.heap.size, 0, none⟩)]) ∧ w' = W.alloc (.cells #[.int .u8 m] 5)))
    (HC : Hid (∀ W, Calls Try.prog 21 #[.agg #[.int .u8 k, .bool false, .int .i64 n, .string t, .slice none 0 0, .slice none 0 0, .slice none 0 0]] W fun e w' => e = .returned (.int .u16 0) ∧ Below W.heap.size W w'))
    (HD : Hid (∀ W, Calls Try.prog 22 #[.agg #[.int .u8 k, .bool false, .int .i64 n, .string t, .slice none 0 0, .slice none 0 0, .slice none 0 0]] W fun e w' => e = .returned (.bool false) ∧ Below W.heap.size W w'))
    (HW : Hid (∀ W po pt q, PutS W po pt q m [] → Calls Try.prog 24 #[.agg #[.int .u8 k, .bool false, .int .i64 n, .string t, .slice none 0 0, .slice none 0 0, .slice none 0 0], .func (.func 25) #[] #[.pointer (some ⟨po, 0, none⟩), .pointer (some ⟨pt, 0, none⟩)]] W fun e W' => e = .returned (.tuple #[]) ∧ PutS W' po pt q m (ys.map (tn m)) ∧ Wrote po W W')) :
    Calls Try.prog 12 #[.agg #[.int .u8 k, .bool false, .int .i64 n, .string t, .slice none 0 0, .slice none 0 0, .slice none 0 0], .bool d] w fun e w' => ∃ a c, e = .returned (.tuple #[.slice a ys.length c, .int .u16 0]) ∧ Row w' a (ys.map (tn m)) ∧ (a = none → ys.length = 0 ∧ c = 0) ∧ Below w.heap.size w w' := by
  have HB0 := hide (Box7.new w (.int .u8 k) (.bool false) (.int .i64 n) (.string t) (.slice none 0 0) (.slice none 0 0) (.slice none 0 0))
  have HF0 := hide ((Fr.refl w).alloc (.cells #[.int .u8 k, .bool false, .int .i64 n, .string t, .slice none 0 0, .slice none 0 0, .slice none 0 0] 32))
  go_enter Try.func12, Try.ntmps12
  go_wp2_with fail
  refine (HC.out _).mono ?_
  rintro e W1 ⟨rfl, hb⟩
  have HB1 := hide (HB0.out.below hb)
  have HF1 := hide (HF0.out.on hb)
  clear hb HB0 HF0
  generalize hbw : w.heap.size = b at *
  have HBW := hide hbw
  clear hbw
  obtain ⟨k0, k1, k2, k3, k4, k5, k6⟩ := HB1.out.cells
  go_wp2_with fail
  refine (HD.out _).mono ?_
  rintro e W2 ⟨rfl, hb⟩
  have HB2 := hide (HB1.out.below hb)
  have HF2 := hide (HF1.out.on hb)
  clear hb HB1 HF1 k0 k1 k2 k3 k4 k5 k6
  go_wp2_with fail
  refine (HT.out _).mono ?_
  rintro e W3 ⟨rfl, rfl⟩
  have HS := hide (PutS.start W2 m hm)
  have HF3 := hide (((HF2.out.alloc (.cells #[.slice none 0 0] 22)).alloc (.cells #[.int .u8 m] 5)).alloc (.cells #[.func (.func 36) #[] #[.pointer (some ⟨W2.heap.size + 1, 0, none⟩)]] 55))
  have HB3 := hide (((HB2.out.below (below_alloc _ (.cells #[.slice none 0 0] 22))).below (below_alloc _ (.cells #[.int .u8 m] 5))).below (below_alloc _ (.cells #[.func (.func 36) #[] #[.pointer (some ⟨W2.heap.size + 1, 0, none⟩)]] 55)))
  obtain ⟨k0, k1, k2, k3, k4, k5, k6⟩ := HB3.out.cells
  go_wp2_with fail
  refine (HW.out _ _ _ _ HS.out).mono ?_
  rintro e W4 ⟨rfl, hp, ho⟩
  have HF4 : Hid (Fr b w W4) := ⟨HF3.out.below.trans (ho.below (fun k hk => by have := start_foot W2 m k hk; have := HF2.out.size; omega) HF3.out.size), Nat.le_trans HF3.out.size ho.size⟩
  obtain ⟨va, hcell, hown, hap⟩ := hp.wr
  obtain ⟨a1, c1, rfl, hle, hmx, hnn, hrow, _⟩ := hown.shape
  have g0 := cell_of_one hcell
  have HRw := hide hrow
  have HNn := hide hnn
  rw [List.length_map] at g0 HNn
  have hlen : decide ((160 : Int) < (ys.length : Int)) = false := by simp; omega
  clear hcell hown hap hp ho hrow hnn k0 k1 k2 k3 k4 k5 k6
  go_wp2
  go_ret2
  exact ⟨a1, c1, rfl, HRw.out, HNn.out, by rw [HBW.out]; exact HF4.out.below⟩
/-- what a text and a number are written as. -/
def bT (t : ByteArray) : List Int := 64 :: (esc (sb t) ++ [0, 1])
def bI (n : Int) : List Int := 48 :: nbs (nX n) 8
theorem oneT_up (w : World) : Calls Try.prog 12 #[vT ⟨#[97]⟩, .bool false] w fun e w' => ∃ a c, e = .returned (.tuple #[.slice a (bT ⟨#[97]⟩).length c, .int .u16 0]) ∧ Row w' a ((bT ⟨#[97]⟩).map (tn 0)) ∧ (a = none → (bT ⟨#[97]⟩).length = 0 ∧ c = 0) ∧ Below w.heap.size w w' :=
  one_leaf false 0 4 0 ⟨#[97]⟩ (bT ⟨#[97]⟩) w (by omega) (by decide) (fun W => turning_up W) (fun W => checkT W) (fun W => hasdoc_leaf 4 _ _ _ _ _ W (by decide)) (fun W po pt q h => writeT W po pt q 0 ⟨#[97]⟩ [] h (by simp) (by decide))
theorem oneI_down (n : Int) (w : World) : Calls Try.prog 12 #[vI n, .bool true] w fun e w' => ∃ a c, e = .returned (.tuple #[.slice a (bI n).length c, .int .u16 0]) ∧ Row w' a ((bI n).map (tn 255)) ∧ (a = none → (bI n).length = 0 ∧ c = 0) ∧ Below w.heap.size w w' :=
  one_leaf true 255 3 n ⟨#[]⟩ (bI n) w (by omega) (by simp [bI, nbs_len]) (fun W => turning_down W) (fun W => checkI n W) (fun W => hasdoc_leaf 3 _ _ _ _ _ W (by decide)) (fun W po pt q h => writeI W po pt q 255 n [] h (by simp))
end Go.Proofs.Ytegoeaofjnpehab
/- Contract of Encode, of the known tuple. -/
namespace Go.Proofs.Ytegoeaofjnpehab
open Go.RowKit
set_option linter.unusedVariables false

set_option maxHeartbeats 800000 in
theorem falls_at (b o len cap i : Nat) (x : Bool) (w : World) (hi : i < len) (hlen : len ≤ 1000000) (hc : w.cell? ⟨b, o + i, none⟩ = some (.bool x)) :
    Calls Try.prog 19 #[.slice (some ⟨b, o, none⟩) len cap, .int .i64 (i : Int)] w fun e w' => e = .returned (.bool x) ∧ w' = w := by
  have hd : decide ((i : Int) < (len : Int)) = true := by simp; omega
  go_enter Try.func19, Try.ntmps19
  go_wp2
  go_ret
  exact ⟨rfl, rfl⟩
/-- the known tuple lies at bl, what falls of it at bd. -/
structure Kn (w : World) (bl bd : Nat) : Prop where
  l : w.heap[bl]? = some (.cells #[.int .u8 4, .bool false, .int .i64 0, .string ⟨#[97]⟩, .slice none 0 0, .slice none 0 0, .slice none 0 0, .int .u8 3, .bool false, .int .i64 1, .string ⟨#[]⟩, .slice none 0 0, .slice none 0 0, .slice none 0 0] 32 (0, 0))
  d : w.heap[bd]? = some (.cells #[.bool false, .bool true] 4 (0, 0))
theorem Kn.on {B bl bd : Nat} {w w' : World} (h : Kn w bl bd) (hb : Below B w w') (h1 : bl < B) (h2 : bd < B) : Kn w' bl bd := ⟨(hb.block _ h1).trans h.l, (hb.block _ h2).trans h.d⟩
theorem Kn.d0 {w : World} {bl bd : Nat} (h : Kn w bl bd) : w.cell? ⟨bd, 0 + 0, none⟩ = some (.bool false) := by simp [World.cell?, h.d]
theorem Kn.d1 {w : World} {bl bd : Nat} (h : Kn w bl bd) : w.cell? ⟨bd, 0 + 1, none⟩ = some (.bool true) := by simp [World.cell?, h.d]
theorem Kn.c {w : World} {bl bd : Nat} (h : Kn w bl bd) : w.cell? ⟨bl, 0, none⟩ = some (.int .u8 4) ∧ w.cell? ⟨bl, 1, none⟩ = some (.bool false) ∧ w.cell? ⟨bl, 2, none⟩ = some (.int .i64 0) ∧ w.cell? ⟨bl, 3, none⟩ = some (.string ⟨#[97]⟩) ∧ w.cell? ⟨bl, 4, none⟩ = some (.slice none 0 0) ∧ w.cell? ⟨bl, 5, none⟩ = some (.slice none 0 0) ∧ w.cell? ⟨bl, 6, none⟩ = some (.slice none 0 0) := by simp [World.cell?, h.l]
theorem Kn.c' {w : World} {bl bd : Nat} (h : Kn w bl bd) : w.cell? ⟨bl, 7, none⟩ = some (.int .u8 3) ∧ w.cell? ⟨bl, 8, none⟩ = some (.bool false) ∧ w.cell? ⟨bl, 9, none⟩ = some (.int .i64 1) ∧ w.cell? ⟨bl, 10, none⟩ = some (.string ⟨#[]⟩) ∧ w.cell? ⟨bl, 11, none⟩ = some (.slice none 0 0) ∧ w.cell? ⟨bl, 12, none⟩ = some (.slice none 0 0) ∧ w.cell? ⟨bl, 13, none⟩ = some (.slice none 0 0) := by simp [World.cell?, h.l]
/-- a row of one's own from B on. -/
structure OwnB (B : Nat) (w : World) (v : Value) (zs : List Int) : Prop where
  own : Own w v zs
  new : ∀ k, v.ownBlock = some k → B ≤ k
theorem OwnB.on {B : Nat} {w w' : World} {v : Value} {zs : List Int} (h : OwnB B w v zs) (hb : Below w.heap.size w w') : OwnB B w' v zs := ⟨h.own.of_block fun k hk => hb.block k (h.own.lt hk), h.new⟩
def k1 : List Int := (bT ⟨#[97]⟩).map (tn 0)
def k2 : List Int := (bI 1).map (tn 255)

set_option maxHeartbeats 3200000 in
set_option maxRecDepth 1000000 in
theorem encode_known (bl bd : Nat) (w : World) (hk : Kn w bl bd) :
    Calls Try.prog 9 #[.slice (some ⟨bl, 0, none⟩) 2 2, .slice (some ⟨bd, 0, none⟩) 2 2] w fun e w' => ∃ a c, e = .returned (.tuple #[.slice a (k1 ++ k2).length c, .int .u16 0]) ∧ Own w' (.slice a (k1 ++ k2).length c) (k1 ++ k2) ∧ Below w.heap.size w w' := by
  obtain ⟨i0, hi, hz0, hz1, hz2⟩ := info_parts Try.info5
  have hlt1 : bl < w.heap.size := lt_of_block hk.l
  have hlt2 : bd < w.heap.size := lt_of_block hk.d
  have HK := hide hk
  clear hk
  generalize hB : w.heap.size = B at *
  have HBB := hide hB
  have HF0 : Hid (Fr B w w) := by rw [← hB]; exact Fr.refl w
  clear hB
  go_enter Try.func9, Try.ntmps9
  go_wp2
  go_loopw [6, 16] (fun o i wr => ∃ (j : Nat) (ys : List Int), i = .int .i64 (j : Int) ∧ ((j = 0 ∧ ys = []) ∨ (j = 1 ∧ ys = k1) ∨ (j = 2 ∧ ys = k1 ++ k2)) ∧ OwnB B wr o ys ∧ Fr B w wr) (fun _ i _ => 2 - (intOf i).toNat)
  case atStart => exact ⟨0, [], rfl, .inl ⟨rfl, rfl⟩, ⟨Own.nil _, fun k h => by simp [Value.ownBlock] at h⟩, HF0.out⟩
  case round =>
    obtain ⟨j, ys, rfl, hj, hown, hfr⟩ := hrel
    have HF := hide hfr
    have HO := hide hown
    have HKr := hide (HK.out.on hfr.below hlt1 hlt2)
    obtain ⟨a1, n1, c1, rfl, HN1⟩ := hown.own.shape2
    clear hfr hown HF0
    rcases hj with ⟨rfl, rfl⟩ | ⟨rfl, rfl⟩ | ⟨rfl, rfl⟩
    · obtain ⟨q0, q1, q2, q3, q4, q5, q6⟩ := HKr.out.c
      have HB0 := hide (Box7.new wr (.int .u8 4) (.bool false) (.int .i64 0) (.string ⟨#[97]⟩) (.slice none 0 0) (.slice none 0 0) (.slice none 0 0))
      have HX0 := hide (below_alloc wr (.cells #[.int .u8 4, .bool false, .int .i64 0, .string ⟨#[97]⟩, .slice none 0 0, .slice none 0 0, .slice none 0 0] 32))
      go_wp2
      have HFX := hide (HF.out.on HX0.out)
      have HOX := hide (HO.out.on HX0.out)
      have HKX := hide (HK.out.on HFX.out.below hlt1 hlt2)
      generalize wr.alloc (.cells #[.int .u8 4, .bool false, .int .i64 0, .string ⟨#[97]⟩, .slice none 0 0, .slice none 0 0, .slice none 0 0] 32) = X at *
      generalize wr.heap.size = b at *
      have HBd := hide (HB0.out.below (Below.refl _ _).drew)
      obtain ⟨p0, p1, p2, p3, p4, p5, p6⟩ := HB0.out.cells
      have HC19 := hide (falls_at bd 0 2 2 0 false X.drew (by omega) (by omega) HKX.out.d0)
      clear q0 q1 q2 q3 q4 q5 q6 HX0 HF HO
      go_region_held3 (fun W => W.cell? ⟨b, 0, none⟩ = some (.int .u8 4) ∧ W.cell? ⟨b, 1, none⟩ = some (.bool false) ∧ W.cell? ⟨b, 2, none⟩ = some (.int .i64 0) ∧ W.cell? ⟨b, 3, none⟩ = some (.string ⟨#[97]⟩) ∧ W.cell? ⟨b, 4, none⟩ = some (.slice none 0 0) ∧ W.cell? ⟨b, 5, none⟩ = some (.slice none 0 0) ∧ W.cell? ⟨b, 6, none⟩ = some (.slice none 0 0)) ((refine ⟨?_, ?_, ?_, ?_, ?_, ?_, ?_⟩ <;> assumption)) ((first | (go_at_call 19; refine HC19.out.mono ?_; intro r' V1 hh; obtain ⟨rfl, rfl⟩ := hh) | (go_at_call 12; refine (oneT_up _).mono ?_; intro r' V2 hh; obtain ⟨a2, c2, rfl, hrow2, hnn2, hb2⟩ := hh; have HB2 := hide (HBd.out.below hb2); obtain ⟨s0, s1, s2, s3, s4, s5, s6⟩ := HB2.out.cells; have HF2 := hide (HFX.out.drew.on hb2); have HO2 := hide ((HOX.out.on (Below.refl _ _).drew).on hb2); have HR2 := hide hrow2; have HN2 := hide hnn2; clear hrow2 hnn2 hb2)))
      have HSr := hide (src_row V2 a2 (bT ⟨#[97]⟩).length c2 _ (by rw [List.length_map]) HN2.out HR2.out)
      generalize hL : (bT ⟨#[97]⟩).length = L2 at *
      go_wp2_with (at_builtin; refine wpList_append_src (by rfl) (.tmp 32) (.tmp 33) 22 22 (by rfl) i0 Try.underlying22 hi hz0 hz1 hz2 (.slice a1 n1 c1) [] (by rfl) HO2.out.own (.slice a2 L2 c2) L2 k1 (by rfl) HSr.out (by rw [← hL]; decide) ?_; intro v' w1 hown1 hg1 hf1; obtain ⟨a3, n3, c3, rfl, HN3⟩ := hown1.shape2; have HF3 := hide (HF2.out.grown hg1 HO2.out.new); have HO3 : Hid (OwnB B w1 (.slice a3 n3 c3) k1) := ⟨by simpa using hown1, fun k hk => (hf1 k hk).elim (HO2.out.new k) (fun hs => Nat.le_trans HF2.out.size hs)⟩; clear hown1 hg1 hf1)
      go_roundw
      case rel => exact ⟨1, k1, rfl, .inr (.inl ⟨rfl, rfl⟩), HO3.out, HF3.out⟩
      case measure => simp [intOf]
    · obtain ⟨q0, q1, q2, q3, q4, q5, q6⟩ := HKr.out.c'
      have HB0 := hide (Box7.new wr (.int .u8 3) (.bool false) (.int .i64 1) (.string ⟨#[]⟩) (.slice none 0 0) (.slice none 0 0) (.slice none 0 0))
      have HX0 := hide (below_alloc wr (.cells #[.int .u8 3, .bool false, .int .i64 1, .string ⟨#[]⟩, .slice none 0 0, .slice none 0 0, .slice none 0 0] 32))
      go_wp2
      have HFX := hide (HF.out.on HX0.out)
      have HOX := hide (HO.out.on HX0.out)
      have HKX := hide (HK.out.on HFX.out.below hlt1 hlt2)
      generalize wr.alloc (.cells #[.int .u8 3, .bool false, .int .i64 1, .string ⟨#[]⟩, .slice none 0 0, .slice none 0 0, .slice none 0 0] 32) = X at *
      generalize wr.heap.size = b at *
      have HBd := hide (HB0.out.below (Below.refl _ _).drew)
      obtain ⟨p0, p1, p2, p3, p4, p5, p6⟩ := HB0.out.cells
      have HC19 := hide (falls_at bd 0 2 2 1 true X.drew (by omega) (by omega) HKX.out.d1)
      clear q0 q1 q2 q3 q4 q5 q6 HX0 HF HO
      go_region_held3 (fun W => W.cell? ⟨b, 0, none⟩ = some (.int .u8 3) ∧ W.cell? ⟨b, 1, none⟩ = some (.bool false) ∧ W.cell? ⟨b, 2, none⟩ = some (.int .i64 1) ∧ W.cell? ⟨b, 3, none⟩ = some (.string ⟨#[]⟩) ∧ W.cell? ⟨b, 4, none⟩ = some (.slice none 0 0) ∧ W.cell? ⟨b, 5, none⟩ = some (.slice none 0 0) ∧ W.cell? ⟨b, 6, none⟩ = some (.slice none 0 0)) ((refine ⟨?_, ?_, ?_, ?_, ?_, ?_, ?_⟩ <;> assumption)) ((first | (go_at_call 19; refine HC19.out.mono ?_; intro r' V1 hh; obtain ⟨rfl, rfl⟩ := hh) | (go_at_call 12; refine (oneI_down 1 _).mono ?_; intro r' V2 hh; obtain ⟨a2, c2, rfl, hrow2, hnn2, hb2⟩ := hh; have HB2 := hide (HBd.out.below hb2); obtain ⟨s0, s1, s2, s3, s4, s5, s6⟩ := HB2.out.cells; have HF2 := hide (HFX.out.drew.on hb2); have HO2 := hide ((HOX.out.on (Below.refl _ _).drew).on hb2); have HR2 := hide hrow2; have HN2 := hide hnn2; clear hrow2 hnn2 hb2)))
      have HSr := hide (src_row V2 a2 (bI 1).length c2 _ (by rw [List.length_map]) HN2.out HR2.out)
      generalize hL : (bI 1).length = L2 at *
      go_wp2_with (at_builtin; refine wpList_append_src (by rfl) (.tmp 32) (.tmp 33) 22 22 (by rfl) i0 Try.underlying22 hi hz0 hz1 hz2 (.slice a1 n1 c1) k1 (by rfl) HO2.out.own (.slice a2 L2 c2) L2 k2 (by rfl) HSr.out (by rw [← hL]; decide) ?_; intro v' w1 hown1 hg1 hf1; obtain ⟨a3, n3, c3, rfl, HN3⟩ := hown1.shape2; have HF3 := hide (HF2.out.grown hg1 HO2.out.new); have HO3 : Hid (OwnB B w1 (.slice a3 n3 c3) (k1 ++ k2)) := ⟨hown1, fun k hk => (hf1 k hk).elim (HO2.out.new k) (fun hs => Nat.le_trans HF2.out.size hs)⟩; clear hown1 hg1 hf1)
      go_roundw
      case rel => exact ⟨2, k1 ++ k2, rfl, .inr (.inr ⟨rfl, rfl⟩), HO3.out, HF3.out⟩
      case measure => simp [intOf]
    · have HKL := hide (show (k1 ++ k2).length = 13 by decide)
      have hnl : n1 = 13 := HN1.out.trans HKL.out
      clear HN1
      go_wp2
      go_ret2
      refine ⟨a1, c1, by rw [HKL.out]; subst hnl; rfl, ?_, HF.out.below⟩
      rw [HKL.out]
      subst hnl
      exact HO.out.own
end Go.Proofs.Ytegoeaofjnpehab
