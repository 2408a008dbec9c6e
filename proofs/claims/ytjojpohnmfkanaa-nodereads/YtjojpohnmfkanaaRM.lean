/- The document's Decode, of any bytes. -/
import Derived.Test.YtjojpohnmfkanaaRK
import Derived.Test.YtjojpohnmfkanaaRL
import Derived.Test.YtjojpohnmfkanaaRJ
import Derived.Test.YtjojpohnmfkanaaKY
import Derived.Test.YtjojpohnmfkanaaZJa
import Derived.Test.YtjojpohnmfkanaaSY
namespace Go.Proofs.Ytjojpohnmfkanaa
open Go.RowKit
set_option linter.unusedVariables false

/-- what the document's Decode tells of bytes. -/
def RDO (kind : Nat) (zs : List Int) (w : World) (e : Ending) (w' : World) : Prop :=
  Below w.heap.size w w' ∧ ((∃ (leaf : Bool) (a2 : Option Addr) (n2 c2 : Nat) (ys : List En), e = .returned (.tuple #[.agg #[.bool leaf, .slice a2 n2 c2], .int .u16 0]) ∧ IsK kind zs leaf (ers ys) ∧ Ens w' a2 n2 c2 ys) ∨ (e = .returned (.tuple #[.agg #[.bool false, .slice none 0 0], .int .u16 90]) ∧ ∀ leaf es, ¬ IsK kind zs leaf es))
/-- an entry whose bytes lie in rows of their own. -/
structure En.Bs (y : En) (w : World) : Prop where
  key : Go.Proofs.Ytjojpohnmfkanaa.Own w (.slice y.ka y.e.key.length y.kc) y.e.key
  val : Go.Proofs.Ytjojpohnmfkanaa.Own w (.slice y.va y.e.val.length y.vc) y.e.val
  k8 : Byts y.e.key
  v8 : Byts y.e.val
  page : y.e.page < 4294967296
  size : y.e.size < 4294967296
theorem En.Bs.keep {y : En} {w w' : World} (h : y.Bs w) (hs : Kb8 w w') : y.Bs w' := ⟨own_keep h.key hs, own_keep h.val hs, h.k8, h.v8, h.page, h.size⟩
theorem En.Bs.ok {y : En} {w : World} (h : y.Bs w) : y.Ok w := ⟨own_inn h.key h.k8, own_inn h.val h.v8, h.page, h.size⟩
theorem Dr.other {W0 w : World} {p : Nat} {a : Option Addr} {n c o : Nat} {b : Bool} (h : Dr W0 w p a n c o b) {q : Nat} (hq : p ≠ q) (hl : W0.heap.size ≤ q) (j : Nat) (v : Value) : Dr W0 (w.setCell ⟨q, j, none⟩ v) p a n c o b :=
  ⟨(Below.heap_setCell _ _ _ _ hq).trans h.blk, h.low, h.bel.setCell (p := ⟨q, j, none⟩) hl _⟩
theorem dec_boxes (w : World) (leaf : Bool) (a : Option Addr) (n c : Nat) : ∃ w3, w3 = ((w.alloc (Obj.cells #[.bool false, .slice none 0 0] 25)).alloc (Obj.cells #[.bool leaf, .slice none 0 0] 25)).alloc (Obj.cells #[.slice a n c, .int .i64 0, .bool false] 75) ∧ Below w.heap.size w w3 ∧ w3.heap.size = w.heap.size + 3 ∧ w3.heap[w.heap.size]? = some (.cells #[.bool false, .slice none 0 0] 25 (0, 0)) ∧ w3.heap[w.heap.size + 1]? = some (.cells #[.bool leaf, .slice none 0 0] 25 (0, 0)) ∧ w3.heap[w.heap.size + 1 + 1]? = some (.cells #[.slice a n c, .int .i64 ((0 : Nat) : Int), .bool false] 75 (0, 0)) := by
  obtain ⟨h1, h2, h3, h4⟩ := pair_boxes w (.bool false) (.slice none 0 0) (.bool leaf) (.slice none 0 0)
  refine ⟨_, rfl, h1.alloc h1.size _, by simp, (Below.heap_alloc _ _ _ (by rw [h4]; omega)).trans h2, (Below.heap_alloc _ _ _ (by rw [h4]; omega)).trans h3, ?_⟩
  have := heap_alloc_new ((w.alloc (.cells #[.bool false, .slice none 0 0] 25)).alloc (.cells #[.bool leaf, .slice none 0 0] 25)) (.cells #[.slice a n c, .int .i64 0, .bool false] 75)
  rwa [h4] at this
theorem row_type {B : Nat} {w : World} {v : Value} {n : Nat} {cs : List Value} (h : w.ownsRow B 68 4 v n cs) {j : Nat} (hj : v.ownBlock = some j) : B ≤ j ∧ ∃ cur, w.heap[j]? = some (.cells cur 68 (0, 0)) := by
  rcases h.2 with ⟨rfl, _⟩ | ⟨g, cap, cur, rfl, hb, hg, _⟩
  · simp [Value.ownBlock] at hj
  · simp [Value.ownBlock] at hj; subst hj; exact ⟨hb, cur, hg⟩
/-- an entry that was read is laid behind the others. -/
theorem dec_end {i0 : TypeInfo} (hi : Try.prog.info? 68 = some i0) (hz0 : i0.zero = some (.agg #[.slice none 0 0, .slice none 0 0, .int .u32 0, .int .u32 0])) (hz1 : i0.size = 4) (hz2 : i0.bytes = 56)
    {leaf : Bool} {w wr WE : World} {a : Option Addr} {n c o o' : Nat} {b b' : Bool} {k : Nat} {ys : List En} {a3 : Option Addr} {c3 : Nat} {y : En} {B0 : Obj}
    (hk : k ≤ 70000) (hyk : ys.length = k) (hsz : w.heap.size + 3 ≤ wr.heap.size) (hX0 : wr.heap[w.heap.size]? = some (.cells #[.bool false, .slice none 0 0] 25 (0, 0))) (hX1 : wr.heap[w.heap.size + 1]? = some (.cells #[.bool leaf, .slice a3 k c3] 25 (0, 0)))
    (hrow : wr.ownsRow (w.heap.size + 3) 68 4 (.slice a3 k c3) k (rowc ys)) (heach : ∀ y ∈ ys, y.Bs wr) (hD0 : Dr w wr (w.heap.size + 1 + 1) a n c o b)
    (hT : Two (w.heap.size + 1 + 1) wr.heap.size (wr.alloc B0) WE) (hD : Dr w WE (w.heap.size + 1 + 1) a n c o' b') (hy : y.Bs WE) :
    ∃ a4 c4 w11, (Builtin.append_ #[23, 23] 23 #[.slice a3 k c3, .slice (some ⟨WE.heap.size, 0, none⟩) 1 1]).run Try.prog (WE.alloc (.cells #[.slice y.ka y.e.key.length y.kc, .slice y.va y.e.val.length y.vc, .int .u32 (y.e.page : Int), .int .u32 (y.e.size : Int)] 68)) = .ok (.slice a4 (k + 1) c4) w11 ∧ WE.heap[w.heap.size + 1]? = some (.cells #[.bool leaf, .slice a3 k c3] 25 (0, 0)) ∧ w11.heap[w.heap.size + 1]? = some (.cells #[.bool leaf, .slice a3 k c3] 25 (0, 0)) ∧
      (w11.setCell ⟨w.heap.size + 1, 1, none⟩ (.slice a4 (k + 1) c4)).heap[w.heap.size]? = some (.cells #[.bool false, .slice none 0 0] 25 (0, 0)) ∧ (w11.setCell ⟨w.heap.size + 1, 1, none⟩ (.slice a4 (k + 1) c4)).heap[w.heap.size + 1]? = some (.cells #[.bool leaf, .slice a4 (k + 1) c4] 25 (0, 0)) ∧ (w11.setCell ⟨w.heap.size + 1, 1, none⟩ (.slice a4 (k + 1) c4)).ownsRow (w.heap.size + 3) 68 4 (.slice a4 (k + 1) c4) (k + 1) (rowc (ys ++ [y])) ∧ (∀ z ∈ ys ++ [y], z.Bs (w11.setCell ⟨w.heap.size + 1, 1, none⟩ (.slice a4 (k + 1) c4))) ∧ Dr w (w11.setCell ⟨w.heap.size + 1, 1, none⟩ (.slice a4 (k + 1) c4)) (w.heap.size + 1 + 1) a n c o' b' ∧ w.heap.size + 3 ≤ (w11.setCell ⟨w.heap.size + 1, 1, none⟩ (.slice a4 (k + 1) c4)).heap.size := by
  have stay : ∀ j, j < wr.heap.size → j ≠ w.heap.size + 1 + 1 → WE.heap[j]? = wr.heap[j]? := fun j hj hne => (hT.block j (by simp; omega) hne (by omega)).trans (Below.heap_alloc _ _ _ hj)
  have hsE : wr.heap.size + 1 ≤ WE.heap.size := by have := hT.size; simpa using this
  have kb1 : Kb8 wr WE := fun j cur hj => stay j (lt_of_block hj) (fun e => by
    rw [e] at hj
    have := blk_type hj hD0.blk
    revert this
    decide)
  have hbl := below_alloc WE (.cells #[.slice y.ka y.e.key.length y.kc, .slice y.va y.e.val.length y.vc, .int .u32 (y.e.page : Int), .int .u32 (y.e.size : Int)] 68)
  have hX0E := (stay _ (by omega) (by omega)).trans hX0
  have hX1E := (stay _ (by omega) (by omega)).trans hX1
  have hrowT : (WE.alloc (.cells #[.slice y.ka y.e.key.length y.kc, .slice y.va y.e.val.length y.vc, .int .u32 (y.e.page : Int), .int .u32 (y.e.size : Int)] 68)).ownsRow (w.heap.size + 3) 68 4 (.slice a3 k c3) k (rowc ys) := row_of_block hrow fun j hj => by
    obtain ⟨h1, cur, h2⟩ := row_type hrow hj
    have h3 := lt_of_block h2
    exact (hbl.block j (by omega)).trans (stay j h3 (by omega))
  obtain ⟨v', w11, hrun, hown, hg, _⟩ := run_append_own (P := Try.prog) (WE.alloc (.cells #[.slice y.ka y.e.key.length y.kc, .slice y.va y.e.val.length y.vc, .int .u32 (y.e.page : Int), .int .u32 (y.e.size : Int)] 68)) (w.heap.size + 3) 23 23 68 i0 _ 4 56 Try.underlying23 hi hz0 hz1 hz2 (by rfl) (by omega) (.slice a3 k c3) k (rowc ys) hrowT ⟨WE.heap.size, 0, none⟩ 1 1 y.cells (by rfl) (box_news WE y) (cells_one y) (by unfold maxLen; omega) (by omega) (by simp; omega)
  obtain ⟨a4, c4, rfl⟩ : ∃ a4 c4, v' = .slice a4 (k + 1) c4 := by
    rcases hown.2 with ⟨rfl, h0⟩ | ⟨g5, cap, cur, rfl, _⟩
    · omega
    · exact ⟨_, cap, rfl⟩
  have stay11 : ∀ j, j < WE.heap.size → j < w.heap.size + 3 → w11.heap[j]? = WE.heap[j]? := fun j hj hj3 => (hg.block j (by simp; omega) (fun e => by have := (row_type hrowT e.symm).1; omega)).trans (hbl.block j hj)
  have kb2 : Kb8 WE w11 := fun j cur hj => by
    have h1 := (hbl.block j (lt_of_block hj)).trans hj
    refine (hg.block j (lt_of_block h1) (fun e => ?_)).trans (hbl.block j (lt_of_block hj))
    obtain ⟨_, cur', h2⟩ := row_type hrowT e.symm
    have := blk_type h1 h2
    revert this
    decide
  have hX0N := (stay11 _ (by omega) (by omega)).trans hX0E
  have hX1N := (stay11 _ (by omega) (by omega)).trans hX1E
  have kb3 : Kb8 w11 (w11.setCell ⟨w.heap.size + 1, 1, none⟩ (.slice a4 (k + 1) c4)) := Kb8.set hX1N (by decide) 1 _
  have hs11 : WE.heap.size + 1 ≤ w11.heap.size := by have := hg.size; simpa using this
  refine ⟨a4, c4, w11, hrun, hX1E, hX1N, (Below.heap_setCell _ _ _ _ (show w.heap.size ≠ w.heap.size + 1 by omega)).trans hX0N, by rw [heap_setCell_same _ _ 1 _ 25 _ hX1N]; rfl, ?_, fun z hz => ?_, ?_, by simp [World.setCell]; omega⟩
  · rw [rowc_app, rowc_one]
    refine row_of_block hown fun j hj => Below.heap_setCell _ _ _ _ (by have := (row_type hown hj).1; show j ≠ w.heap.size + 1; omega)
  · rcases List.mem_append.1 hz with hz | hz
    · exact ((heach z hz).keep kb1).keep (kb2.trans kb3)
    · simp at hz
      subst hz
      exact hy.keep (kb2.trans kb3)
  · have hd11 : Dr w w11 (w.heap.size + 1 + 1) a n c o' b' := ⟨(stay11 _ (by have := lt_of_block hD.blk; omega) (by omega)).trans hD.blk, hD.low, (hD.bel.trans (hbl.mono hD.bel.size)).grown hg (by simp; have := hD.bel.size; omega) (fun j hj => by have := (row_type hrowT hj).1; omega)⟩
    exact hd11.other (by omega) (by omega) 1 _
set_option maxHeartbeats 12800000 in
set_option maxRecDepth 1000000 in
theorem rdecode_leaf (a : Option Addr) (n c : Nat) (zs : List Int) (w : World) (h : Inn w a n c zs) (hl : n ≤ 100000) :
    Calls Try.prog 9 #[.int .u8 1, .slice a n c] w fun e w' => RDO 1 zs w e w' := by
  obtain ⟨i0, hi, hz0, hz1, hz2⟩ := info_parts Try.infoE
  have HIn := hide h
  have HLn := hide h.len
  have H8 := hide h.byts
  clear h
  go_enter Try.func9, Try.ntmps9
  go_wp2_with fail
  obtain ⟨W3, hW3, hB3, hs3, hb0, hb1, hb2⟩ := dec_boxes w true a n c
  rw [← hW3]
  clear hW3
  have HB3 := hide hB3
  have HX0 := hide hb0
  have HX1 := hide hb1
  have hD3 : Dr w W3 (w.heap.size + 1 + 1) a n c 0 false := ⟨hb2, by omega, hB3⟩
  have HD3 := hide hD3
  clear hB3 hb0 hb1 hb2 hD3
  refine (rnum_any w W3 (w.heap.size + 1 + 1) a n c 0 2 false zs HD3.out HIn.out hl (Nat.zero_le _) (by omega)).mono ?_
  rintro e w4 ⟨N, o0, b0, rfl, hnf, hd4, hg4⟩
  have HQ0 := hide (dq_begin (leaf := true) H8.out hnf.out)
  have hN : N < 65536 := (numF_bd H8.out (Nat.zero_le _) hnf.out).1
  have HD4 := hide hd4
  have HX0' := hide ((hg4.block _ (lt_of_block HX0.out) (by simp; omega)).trans HX0.out)
  have HX1' := hide ((hg4.block _ (lt_of_block HX1.out) (by simp)).trans HX1.out)
  have hs4 : w.heap.size + 3 ≤ w4.heap.size := by have := hg4.size; omega
  clear hd4 hg4 hnf HX0 HX1
  go_wp2
  go_loopw [9] (fun i wr => ∃ (k : Nat) (ys : List En) (o : Nat) (b : Bool) (a3 : Option Addr) (c3 : Nat), k ≤ N ∧ i = .int .i64 (k : Int) ∧ Hid (ys.length = k) ∧ Dq true zs N (ers ys) o b ∧ wr.heap[w.heap.size]? = some (.cells #[.bool false, .slice none 0 0] 25 (0, 0)) ∧ wr.heap[w.heap.size + 1]? = some (.cells #[.bool true, .slice a3 k c3] 25 (0, 0)) ∧ wr.ownsRow (w.heap.size + 3) 68 4 (.slice a3 k c3) k (rowc ys) ∧ (∀ y ∈ ys, y.Bs wr) ∧ Dr w wr (w.heap.size + 1 + 1) a n c o b ∧ w.heap.size + 3 ≤ wr.heap.size) (fun i _ => N - (intOf i).toNat)
  case atStart => exact ⟨0, [], o0, b0, none, 0, Nat.zero_le _, rfl, rfl, HQ0.out, HX0'.out, HX1'.out, ⟨rfl, .inl ⟨rfl, rfl⟩⟩, (by intro y hy; simp at hy), HD4.out, hs4⟩
  case round =>
    obtain ⟨k, ys, o, b, a3, c3, hk, rfl, hyk, hdq, hx0, hx1, hrow, heach, hdr, hsz⟩ := hrel
    have HDq := hide hdq
    have HX0 := hide hx0
    have HX1 := hide hx1
    have HRw := hide hrow
    have HEa := hide heach
    have HDr := hide hdr
    obtain ⟨r0, r1, r2⟩ := cells_three hdr.blk
    obtain ⟨n0, n1, -⟩ := cells_two hx1
    have hol : o ≤ n := by have := hdq.le; have := HLn.out; omega
    clear hdq hx0 hx1 hrow heach hdr HX0' HX1' HD4 HQ0 HD3 HB3
    by_cases hgo : k < N ∧ b = false
    · obtain ⟨hkN, hbf⟩ := hgo
      subst hbf
      have d1 : (k : Int) < (N : Int) := by omega
      have d2 : decide (k < N) = true := decide_eq_true hkN
      have hbE := below_alloc wr (.cells #[.slice none 0 0, .slice none 0 0, .int .u32 0, .int .u32 0] 68)
      have hE0 := heap_alloc_new wr (.cells #[.slice none 0 0, .slice none 0 0, .int .u32 0, .int .u32 0] 68)
      have HBE := hide hbE
      have HE0 := hide hE0
      have hpE : wr.heap.size ≠ w.heap.size + 1 + 1 := by omega
      go_wp2_with fail
      refine (rnum_any w _ (w.heap.size + 1 + 1) a n c o 1 false zs (HDr.out.on hbE) HIn.out hl hol (by omega)).mono ?_
      rintro e w5 ⟨v1, o1, b1, rfl, hf1, hd5, hg5⟩
      obtain ⟨hv1, ho1a, ho1b⟩ := numF_bd H8.out (by rw [HLn.out]; exact hol) hf1.out
      rw [HLn.out] at ho1b
      have HF1 := hf1
      have HD5 := hide hd5
      have HT5 : Hid (Two (w.heap.size + 1 + 1) wr.heap.size (wr.alloc (.cells #[.slice none 0 0, .slice none 0 0, .int .u32 0, .int .u32 0] 68)) w5) := Two.of_grown hg5
      have HE5 := hide ((hg5.block _ (lt_of_block HE0.out) (by simpa using hpE)).trans HE0.out)
      have hs5 : wr.heap.size + 1 ≤ w5.heap.size := by have := hg5.size; simpa using this
      clear hbE hE0 hf1 hd5 hg5 r0 r1 r2 n0 n1
      go_wp2_with fail
      refine (rbytes_any w w5 (w.heap.size + 1 + 1) a n c o1 v1 b1 zs HD5.out HIn.out hl ho1b (by omega)).mono ?_
      rintro e w6 ⟨a6, c6, key, o2, b2, rfl, hf2, hown6, hnew6, hd6, hg6⟩
      obtain ⟨hk8, hkl, ho2a, ho2b⟩ := bytF_bd H8.out (by rw [HLn.out]; exact ho1b) hf2.out
      rw [HLn.out] at ho2b
      have HF2 := hf2
      have HD6 := hide hd6
      have HK8 := hide hk8
      have HT6 : Hid (Two (w.heap.size + 1 + 1) wr.heap.size (wr.alloc (.cells #[.slice none 0 0, .slice none 0 0, .int .u32 0, .int .u32 0] 68)) w6) := HT5.out.trans (Two.of_grown hg6)
      have hE6 := (hg6.block _ (lt_of_block HE5.out) (by simpa using hpE)).trans HE5.out
      have HE6 := hide hE6
      have hs6 : w5.heap.size ≤ w6.heap.size := hg6.size
      obtain ⟨x0, x1, x2, x3⟩ := cells_fourN hE6
      have xf0 := frozen_blk (j := 0) hE6
      have HE7 : Hid ((w6.setCell ⟨wr.heap.size, 0, none⟩ (.slice a6 key.length c6)).heap[wr.heap.size]? = some (.cells #[.slice a6 key.length c6, .slice none 0 0, .int .u32 0, .int .u32 0] 68 (0, 0))) := by rw [Hid, heap_setCell_same _ _ 0 _ 68 _ hE6]; rfl
      have HT7 : Hid (Two (w.heap.size + 1 + 1) wr.heap.size (wr.alloc (.cells #[.slice none 0 0, .slice none 0 0, .int .u32 0, .int .u32 0] 68)) (w6.setCell ⟨wr.heap.size, 0, none⟩ (.slice a6 key.length c6))) := HT6.out.trans (Two.set w6 0 _)
      have HD7 : Hid (Dr w (w6.setCell ⟨wr.heap.size, 0, none⟩ (.slice a6 key.length c6)) (w.heap.size + 1 + 1) a n c o2 b2) := hd6.other (by omega) (by omega) 0 _
      have HO7 : Hid (Own (w6.setCell ⟨wr.heap.size, 0, none⟩ (.slice a6 key.length c6)) (.slice a6 key.length c6) key) := hown6.of_block fun j hj => Below.heap_setCell _ _ _ _ (by have := hnew6 j hj; show j ≠ wr.heap.size; omega)
      have HNk : Hid (∀ j, (Value.slice a6 key.length c6).ownBlock = some j → wr.heap.size < j) := hide fun j hj => by have := hnew6 j hj; omega
      have HNb : Hid ((w6.setCell ⟨wr.heap.size, 0, none⟩ (.slice a6 key.length c6)).heap[w.heap.size + 1]? = some (.cells #[.bool true, .slice a3 k c3] 25 (0, 0))) := (HT7.out.block _ (by have := lt_of_block HX1.out; simp; omega) (by omega) (by have := lt_of_block HX1.out; omega)).trans ((HBE.out.block _ (lt_of_block HX1.out)).trans HX1.out)
      obtain ⟨n0, n1, -⟩ := cells_two HNb.out
      clear hf2 hown6 hnew6 hd6 hg6 hE6 hk8
      go_wp2_with fail
      clear n0 n1 x0 x1 x2 x3 xf0 HT6 HE6 HD6 HT5 HE5 HD5
      generalize w6.setCell ⟨wr.heap.size, 0, none⟩ (.slice a6 key.length c6) = W7 at HE7 HT7 HD7 HO7 HNb ⊢
      refine (rnum_any w W7 (w.heap.size + 1 + 1) a n c o2 1 b2 zs HD7.out HIn.out hl ho2b (by omega)).mono ?_
      rintro e w8 ⟨v2, o3, b3, rfl, hf3, hd8, hg8⟩
      obtain ⟨hv2, ho3a, ho3b⟩ := numF_bd H8.out (by rw [HLn.out]; exact ho2b) hf3.out
      rw [HLn.out] at ho3b
      have HF3 := hf3
      have HD8 := hide hd8
      have HT8 : Hid (Two (w.heap.size + 1 + 1) wr.heap.size (wr.alloc (.cells #[.slice none 0 0, .slice none 0 0, .int .u32 0, .int .u32 0] 68)) w8) := HT7.out.trans (Two.of_grown hg8)
      have HE8 := hide ((hg8.block _ (lt_of_block HE7.out) (by simpa using hpE)).trans HE7.out)
      have HO8 := hide (HO7.out.of_block fun j hj => hg8.block j (HO7.out.lt hj) (by have := HNk.out j hj; simp; omega))
      have hs8 : wr.heap.size + 1 ≤ w8.heap.size := by have := lt_of_block HE8.out; omega
      clear hf3 hd8 hg8 HE7 HT7 HD7 HO7 HNb
      by_cases h255 : v2 = 255
      rotate_left
      · have d3 : ((v2 : Int) != 255) = true := by simp; omega
        have d4 : ¬ (v2 : Int) = 255 := by omega
        go_wp2_with fail
        refine (rbytes_any w w8 (w.heap.size + 1 + 1) a n c o3 v2 b3 zs HD8.out HIn.out hl ho3b (by omega)).mono ?_
        rintro e w9 ⟨a9, c9, val, o4, b4, rfl, hf4, hown9, hnew9, hd9, hg9⟩
        obtain ⟨hv8, hvl, ho4a, ho4b⟩ := bytF_bd H8.out (by rw [HLn.out]; exact ho3b) hf4.out
        have hE9 := (hg9.block _ (lt_of_block HE8.out) (by simpa using hpE)).trans HE8.out
        have HO9 := HO8.out.of_block fun j hj => hg9.block j (HO8.out.lt hj) (by have := HNk.out j hj; simp; omega)
        obtain ⟨x0, x1, x2, x3⟩ := cells_fourN hE9
        have xf1 := frozen_blk (j := 1) hE9
        obtain ⟨y, hy⟩ : ∃ y : En, y = ⟨⟨key, val, 0, 0⟩, a6, c6, a9, c9⟩ := ⟨_, rfl⟩
        have HEe : Hid ((w9.setCell ⟨wr.heap.size, 1, none⟩ (.slice a9 val.length c9)).heap[wr.heap.size]? = some (.cells #[.slice y.ka y.e.key.length y.kc, .slice y.va y.e.val.length y.vc, .int .u32 (y.e.page : Int), .int .u32 (y.e.size : Int)] 68 (0, 0))) := by rw [Hid, heap_setCell_same _ _ 1 _ 68 _ hE9, hy]; rfl
        have HTe : Hid (Two (w.heap.size + 1 + 1) wr.heap.size (wr.alloc (.cells #[.slice none 0 0, .slice none 0 0, .int .u32 0, .int .u32 0] 68)) (w9.setCell ⟨wr.heap.size, 1, none⟩ (.slice a9 val.length c9))) := (HT8.out.trans (Two.of_grown hg9)).trans (Two.set w9 1 _)
        have HDe : Hid (Dr w (w9.setCell ⟨wr.heap.size, 1, none⟩ (.slice a9 val.length c9)) (w.heap.size + 1 + 1) a n c o4 b4) := hd9.other (by omega) (by omega) 1 _
        have HBy : Hid (y.Bs (w9.setCell ⟨wr.heap.size, 1, none⟩ (.slice a9 val.length c9))) := by
          rw [hy]
          exact ⟨HO9.of_block fun j hj => Below.heap_setCell _ _ _ _ (by have := HNk.out j hj; show j ≠ wr.heap.size; omega), hown9.of_block fun j hj => Below.heap_setCell _ _ _ _ (by have := hnew9 j hj; show j ≠ wr.heap.size; omega), HK8.out, hv8, by simp, by simp⟩
        have HEnt : Hid (EntR true zs o false y.e o4 b4) := by
          rw [hy]
          exact ⟨v1, o1, b1, key, o2, b2, HF1.out, HF2.out, by rw [if_pos rfl]; exact ⟨v2, o3, b3, HF3.out, .inl ⟨h255, val, hf4.out, rfl⟩⟩⟩
        clear hf4 hown9 hnew9 hd9 hg9 hE9 HO9 hv8 HT8 HE8 HD8 HO8 hy
        obtain ⟨WE, hWE⟩ : ∃ WE, WE = w9.setCell ⟨wr.heap.size, 1, none⟩ (.slice a9 val.length c9) := ⟨_, rfl⟩
        rw [← hWE] at HEe HTe HDe HBy
        obtain ⟨a4, c4, w11, hrun, hnE, hn11, hrest⟩ := dec_end hi hz0 hz1 hz2 (by omega) hyk.out hsz HX0.out HX1.out HRw.out HEa.out HDr.out HTe.out HDe.out HBy.out
        have HRest := hide hrest
        obtain ⟨m0, m1, -⟩ := cells_two hnE
        obtain ⟨e0, e1, e2, e3⟩ := cells_fourN HEe.out
        obtain ⟨g0, g1, -⟩ := cells_two hn11
        have gf1 := frozen_blk (j := 1) hn11
        have HRun := hide hrun
        have HEn2 := HEnt
        rw [hWE] at m0 m1 e0 e1 e2 e3 hrun
        rw [show (w9.setCell ⟨wr.heap.size, 1, none⟩ (.slice a9 val.length c9)).heap.size = w9.heap.size from by simp [World.setCell]] at hrun
        clear hrest hnE hn11 hWE
        go_wp2_with (at_builtin; refine wpList_run_append (by rfl) (.tmp 71) (.tmp 73) 23 (by rfl) (by rfl) (by rfl) hrun ?_)
        go_roundw
        case rel =>
          obtain ⟨r1, r2, r3, r4, r5, r6⟩ := HRest.out
          exact ⟨k + 1, ys ++ [y], _, _, a4, c4, by omega, by go_num, by rw [Hid]; simp [hyk.out], by rw [ers_app]; exact HDq.out.step H8.out (by rw [ers_len, hyk.out]; exact hkN) HEn2.out, r1, r2, r3, r4, r5, r6⟩
        case measure => simp [intOf]; omega
      · subst h255
        go_wp2_with fail
        refine (rnum_any w w8 (w.heap.size + 1 + 1) a n c o3 4 b3 zs HD8.out HIn.out hl ho3b (by omega)).mono ?_
        rintro e w9 ⟨s, o4, b4, rfl, hf4, hd9, hg9⟩
        obtain ⟨hsb, ho4a, ho4b⟩ := numF_bd H8.out (by rw [HLn.out]; exact ho3b) hf4.out
        rw [HLn.out] at ho4b
        have hE9 := (hg9.block _ (lt_of_block HE8.out) (by simpa using hpE)).trans HE8.out
        have HO9 := HO8.out.of_block fun j hj => hg9.block j (HO8.out.lt hj) (by have := HNk.out j hj; simp; omega)
        obtain ⟨x0, x1, x2, x3⟩ := cells_fourN hE9
        have xf3 := frozen_blk (j := 3) hE9
        have hws : IntKind.u32.wrap (s : Int) = (s : Int) := by simp [IntKind.wrap, IntKind.bits, IntKind.signed]; omega
        have HFs := hf4
        have HEa1 : Hid ((w9.setCell ⟨wr.heap.size, 3, none⟩ (.int .u32 (s : Int))).heap[wr.heap.size]? = some (.cells #[.slice a6 key.length c6, .slice none 0 0, .int .u32 0, .int .u32 (s : Int)] 68 (0, 0))) := by rw [Hid, heap_setCell_same _ _ 3 _ 68 _ hE9]; rfl
        have HTa : Hid (Two (w.heap.size + 1 + 1) wr.heap.size (wr.alloc (.cells #[.slice none 0 0, .slice none 0 0, .int .u32 0, .int .u32 0] 68)) (w9.setCell ⟨wr.heap.size, 3, none⟩ (.int .u32 (s : Int)))) := (HT8.out.trans (Two.of_grown hg9)).trans (Two.set w9 3 _)
        have HDa : Hid (Dr w (w9.setCell ⟨wr.heap.size, 3, none⟩ (.int .u32 (s : Int))) (w.heap.size + 1 + 1) a n c o4 b4) := hd9.other (by omega) (by omega) 3 _
        have HOa : Hid (Own (w9.setCell ⟨wr.heap.size, 3, none⟩ (.int .u32 (s : Int))) (.slice a6 key.length c6) key) := HO9.of_block fun j hj => Below.heap_setCell _ _ _ _ (by have := HNk.out j hj; show j ≠ wr.heap.size; omega)
        clear hf4 hd9 hg9 hE9 HO9 HT8 HE8 HD8 HO8
        go_wp2_with fail
        generalize w9.setCell ⟨wr.heap.size, 3, none⟩ (.int .u32 (s : Int)) = WA at HEa1 HTa HDa HOa ⊢
        clear x0 x1 x2 x3 xf3 hws
        refine (rnum_any w WA (w.heap.size + 1 + 1) a n c o4 4 b4 zs HDa.out HIn.out hl ho4b (by omega)).mono ?_
        rintro e w10 ⟨pg, o5, b5, rfl, hf5, hd10, hg10⟩
        obtain ⟨hpb, ho5a, ho5b⟩ := numF_bd H8.out (by rw [HLn.out]; exact ho4b) hf5.out
        have hE10 := (hg10.block _ (lt_of_block HEa1.out) (by simpa using hpE)).trans HEa1.out
        have HO10 := HOa.out.of_block fun j hj => hg10.block j (HOa.out.lt hj) (by have := HNk.out j hj; simp; omega)
        obtain ⟨x0, x1, x2, x3⟩ := cells_fourN hE10
        have xf2 := frozen_blk (j := 2) hE10
        have hwp : IntKind.u32.wrap (pg : Int) = (pg : Int) := by simp [IntKind.wrap, IntKind.bits, IntKind.signed]; omega
        obtain ⟨y, hy⟩ : ∃ y : En, y = ⟨⟨key, [], pg, s⟩, a6, c6, none, 0⟩ := ⟨_, rfl⟩
        have HEe : Hid ((w10.setCell ⟨wr.heap.size, 2, none⟩ (.int .u32 (pg : Int))).heap[wr.heap.size]? = some (.cells #[.slice y.ka y.e.key.length y.kc, .slice y.va y.e.val.length y.vc, .int .u32 (y.e.page : Int), .int .u32 (y.e.size : Int)] 68 (0, 0))) := by rw [Hid, heap_setCell_same _ _ 2 _ 68 _ hE10, hy]; rfl
        have HTe : Hid (Two (w.heap.size + 1 + 1) wr.heap.size (wr.alloc (.cells #[.slice none 0 0, .slice none 0 0, .int .u32 0, .int .u32 0] 68)) (w10.setCell ⟨wr.heap.size, 2, none⟩ (.int .u32 (pg : Int)))) := (HTa.out.trans (Two.of_grown hg10)).trans (Two.set w10 2 _)
        have HDe : Hid (Dr w (w10.setCell ⟨wr.heap.size, 2, none⟩ (.int .u32 (pg : Int))) (w.heap.size + 1 + 1) a n c o5 b5) := hd10.other (by omega) (by omega) 2 _
        have HBy : Hid (y.Bs (w10.setCell ⟨wr.heap.size, 2, none⟩ (.int .u32 (pg : Int)))) := by
          rw [hy]
          exact ⟨HO10.of_block fun j hj => Below.heap_setCell _ _ _ _ (by have := HNk.out j hj; show j ≠ wr.heap.size; omega), Own.nil _, HK8.out, by intro c hc; simp at hc, by simp only []; omega, by simp only []; omega⟩
        have HEnt : Hid (EntR true zs o false y.e o5 b5) := by
          rw [hy]
          exact ⟨v1, o1, b1, key, o2, b2, HF1.out, HF2.out, by rw [if_pos rfl]; exact ⟨255, o3, b3, HF3.out, .inr ⟨rfl, s, pg, o4, b4, HFs.out, hf5.out, rfl⟩⟩⟩
        clear hf5 hd10 hg10 hE10 HO10 HTa HEa1 HDa HOa hy
        obtain ⟨WE, hWE⟩ : ∃ WE, WE = w10.setCell ⟨wr.heap.size, 2, none⟩ (.int .u32 (pg : Int)) := ⟨_, rfl⟩
        rw [← hWE] at HEe HTe HDe HBy
        obtain ⟨a4, c4, w11, hrun, hnE, hn11, hrest⟩ := dec_end hi hz0 hz1 hz2 (by omega) hyk.out hsz HX0.out HX1.out HRw.out HEa.out HDr.out HTe.out HDe.out HBy.out
        have HRest := hide hrest
        obtain ⟨m0, m1, -⟩ := cells_two hnE
        obtain ⟨e0, e1, e2, e3⟩ := cells_fourN HEe.out
        obtain ⟨g0, g1, -⟩ := cells_two hn11
        have gf1 := frozen_blk (j := 1) hn11
        have HRun := hide hrun
        have HEn2 := HEnt
        rw [hWE] at m0 m1 e0 e1 e2 e3 hrun
        rw [show (w10.setCell ⟨wr.heap.size, 2, none⟩ (.int .u32 (pg : Int))).heap.size = w10.heap.size from by simp [World.setCell]] at hrun
        clear hrest hnE hn11 hWE
        go_wp2_with (at_builtin; refine wpList_run_append (by rfl) (.tmp 71) (.tmp 73) 23 (by rfl) (by rfl) (by rfl) hrun ?_)
        go_roundw
        case rel =>
          obtain ⟨r1, r2, r3, r4, r5, r6⟩ := HRest.out
          exact ⟨k + 1, ys ++ [y], _, _, a4, c4, by omega, by go_num, by rw [Hid]; simp [hyk.out], by rw [ers_app]; exact HDq.out.step H8.out (by rw [ers_len, hyk.out]; exact hkN) HEn2.out, r1, r2, r3, r4, r5, r6⟩
        case measure => simp [intOf]; omega
    · have hens : Ens wr a3 k c3 ys := row_ens2 hyk.out HRw.out (fun y hy => (HEa.out y hy).ok)
      have hwt : wts (ers ys) ≤ 100000 := by have h1 := HDq.out.w; have h2 := HDq.out.le; have h3 := HLn.out; omega
      have HRe := hide (rencode_all true a3 k c3 ys wr hens (by omega) (by omega))
      have HEby := hide (eb_byts true (ers ys) fun e he => by
        obtain ⟨x, hx, rfl⟩ := List.mem_map.1 he
        exact ⟨(HEa.out x hx).k8, (HEa.out x hx).v8⟩)
      have HEns := hide hens
      have HBw := hide HDr.out.bel
      clear hens hwt
      by_cases hkN : k < N
      · have hbt : b = true := by cases b; exact absurd ⟨hkN, rfl⟩ hgo; rfl
        subst hbt
        have d1 : (k : Int) < (N : Int) := by omega
        have d2 : decide (k < N) = true := decide_eq_true hkN
        clear hgo
        go_wp2_with fail
        refine HRe.out.mono ?_
        rintro e w6 ⟨a6, c6, rfl, h6⟩
        have hb6 := h6.bel
        have HX6 := hide ((hb6.block _ (lt_of_block HX0.out)).trans HX0.out)
        have HD6 := hide (HDr.out.on hb6)
        obtain ⟨K1, hK1⟩ : ∃ K1, K1 = chk true (ers ys) := ⟨_, rfl⟩
        obtain ⟨L1, hL1⟩ : ∃ L1, L1 = (eb true (ers ys)).length := ⟨_, rfl⟩
        rw [← hK1, ← hL1]
        obtain ⟨s0, s1, s2⟩ := cells_three HD6.out.blk
        have HNo := hide HDq.out.none_bad
        have HBB := hide (HBw.out.trans (hb6.mono HBw.out.size))
        clear hK1 hL1 h6 hb6 r0 r1 r2 n0 n1
        obtain ⟨t0, t1, -⟩ := cells_two HX6.out
        have tf0 := frozen_blk (j := 0) HX6.out
        have tf1 := frozen_blk (j := 1) HX6.out
        go_wp2
        have hf := two_set (u := .bool false) (v := .slice none 0 0) HX6.out
        obtain ⟨q0, q1, -⟩ := cells_two hf
        refine bodyPost_ret (v := .tuple #[.agg #[.bool false, .slice none 0 0], .int .u16 90]) ?_ rfl ?_
        · simp [results, Try.results9, go_sem, q0, q1]
        · exact ⟨(HBB.out.setCell (p := ⟨w.heap.size, 0, none⟩) (Nat.le_refl _) _).setCell (p := ⟨w.heap.size, 1, none⟩) (Nat.le_refl _) _, .inr ⟨rfl, fun l es hk => by
            rcases hk.1 with ⟨h1, h2⟩ | ⟨h1, h2⟩
            · subst h2; exact HNo.out es hk.2
            · omega⟩⟩
      · obtain rfl : k = N := by omega
        clear hgo
        go_wp2_with fail
        refine HRe.out.mono ?_
        rintro e w6 ⟨a6, c6, rfl, h6⟩
        cases b with
        | true =>
          have hb6 := h6.bel
          have HX6 := hide ((hb6.block _ (lt_of_block HX0.out)).trans HX0.out)
          have HD6 := hide (HDr.out.on hb6)
          obtain ⟨K1, hK1⟩ : ∃ K1, K1 = chk true (ers ys) := ⟨_, rfl⟩
          obtain ⟨L1, hL1⟩ : ∃ L1, L1 = (eb true (ers ys)).length := ⟨_, rfl⟩
          rw [← hK1, ← hL1]
          obtain ⟨s0, s1, s2⟩ := cells_three HD6.out.blk
          have HNo := hide HDq.out.none_bad
          have HBB := hide (HBw.out.trans (hb6.mono HBw.out.size))
          clear hK1 hL1 h6 hb6 r0 r1 r2 n0 n1
          obtain ⟨t0, t1, -⟩ := cells_two HX6.out
          have tf0 := frozen_blk (j := 0) HX6.out
          have tf1 := frozen_blk (j := 1) HX6.out
          go_wp2
          have hf := two_set (u := .bool false) (v := .slice none 0 0) HX6.out
          obtain ⟨q0, q1, -⟩ := cells_two hf
          refine bodyPost_ret (v := .tuple #[.agg #[.bool false, .slice none 0 0], .int .u16 90]) ?_ rfl ?_
          · simp [results, Try.results9, go_sem, q0, q1]
          · exact ⟨(HBB.out.setCell (p := ⟨w.heap.size, 0, none⟩) (Nat.le_refl _) _).setCell (p := ⟨w.heap.size, 1, none⟩) (Nat.le_refl _) _, .inr ⟨rfl, fun l es hk => by
              rcases hk.1 with ⟨h1, h2⟩ | ⟨h1, h2⟩
              · subst h2; exact HNo.out es hk.2
              · omega⟩⟩
        | false =>
          have hb6 := h6.bel
          have HX6 := hide ((hb6.block _ (lt_of_block HX0.out)).trans HX0.out)
          have HN6 := hide ((hb6.block _ (lt_of_block HX1.out)).trans HX1.out)
          have HD6 := hide (HDr.out.on hb6)
          have HBB := hide (HBw.out.trans (hb6.mono HBw.out.size))
          have HB6k := hide hb6
          have HRw6 : Hid (w6.ownsRow (w.heap.size + 3) 68 4 (.slice a3 k c3) k (rowc ys)) := row_of_block HRw.out fun j hj => hb6.block j (by obtain ⟨_, cur, h2⟩ := row_type HRw.out hj; exact lt_of_block h2)
          obtain ⟨s0, s1, s2⟩ := cells_three HD6.out.blk
          obtain ⟨t0, t1, -⟩ := cells_two HX6.out
          have tf0 := frozen_blk (j := 0) HX6.out
          have tf1 := frozen_blk (j := 1) HX6.out
          obtain ⟨m0, m1, -⟩ := cells_two HN6.out
          have HWh : Hid (∀ es, IsNode true zs es → es = ers ys) := hide fun es hk => HDq.out.whole (by rw [ers_len, hyk.out]; exact Nat.le_refl _) hk
          by_cases hc : chk true (ers ys) = 0
          rotate_left
          · have HNo : Hid (∀ es, ¬ IsNode true zs es) := hide fun es hk => hc (by rw [← HWh.out es hk]; exact hk.2.1)
            obtain ⟨K1, hK1⟩ : ∃ K1, K1 = chk true (ers ys) := ⟨_, rfl⟩
            obtain ⟨L1, hL1⟩ : ∃ L1, L1 = (eb true (ers ys)).length := ⟨_, rfl⟩
            rw [← hK1, ← hL1]
            rw [← hK1] at hc
            have d3 : ¬ (K1 : Int) = 0 := by omega
            have d4 : ((K1 : Int) != 0) = true := by simp; omega
            clear hK1 hL1 h6 hb6 r0 r1 r2 n0 n1
            go_wp2
            have hf := two_set (u := .bool false) (v := .slice none 0 0) HX6.out
            obtain ⟨q0, q1, -⟩ := cells_two hf
            refine bodyPost_ret (v := .tuple #[.agg #[.bool false, .slice none 0 0], .int .u16 90]) ?_ rfl ?_
            · simp [results, Try.results9, go_sem, q0, q1]
            · exact ⟨(HBB.out.setCell (p := ⟨w.heap.size, 0, none⟩) (Nat.le_refl _) _).setCell (p := ⟨w.heap.size, 1, none⟩) (Nat.le_refl _) _, .inr ⟨rfl, fun l es hk => by
                rcases hk.1 with ⟨h1, h2⟩ | ⟨h1, h2⟩
                · subst h2; exact HNo.out es hk.2
                · omega⟩⟩
          · have hI1 := own_inn h6.own HEby.out
            have hI2 : Inn w6 a n c zs := HIn.out.below HBB.out
            have HTe := hide (text_eq (eb true (ers ys)) zs HEby.out H8.out)
            have HEb : Hid (eb true (ers ys) = nenc true (ers ys)) := if_pos hc
            have HCk := hide hc
            rw [hc]
            obtain ⟨EE, hEE⟩ : ∃ EE, EE = eb true (ers ys) := ⟨_, rfl⟩
            rw [← hEE] at hI1 HTe HEb ⊢
            have tx1 := text_inn hI1
            have tx2 := text_inn hI2
            clear hEE hI1 hI2 hc h6 hb6 r0 r1 r2 n0 n1
            by_cases heq : EE = zs
            · have te := HTe.out
              rw [decide_eq_true heq] at te
              have HEq := hide heq
              clear heq
              go_wp2
              have hf := two_set (u := .bool true) (v := .slice a3 k c3) HX6.out
              obtain ⟨q0, q1, -⟩ := cells_two hf
              refine bodyPost_ret (v := .tuple #[.agg #[.bool true, .slice a3 k c3], .int .u16 0]) ?_ rfl ?_
              · simp [results, Try.results9, go_sem, q0, q1]
              · refine ⟨(HBB.out.setCell (p := ⟨w.heap.size, 0, none⟩) (Nat.le_refl _) _).setCell (p := ⟨w.heap.size, 1, none⟩) (Nat.le_refl _) _, .inl ⟨true, a3, k, c3, ys, rfl, ⟨.inl ⟨rfl, rfl⟩, by rw [← HEq.out]; exact HEb.out, HCk.out, fun e he => ?_⟩, ?_⟩⟩
                · obtain ⟨x, hx, rfl⟩ := List.mem_map.1 he
                  exact ⟨(HEa.out x hx).k8, (HEa.out x hx).v8⟩
                · have h0 : (w6.setCell ⟨w.heap.size, 0, none⟩ (.bool true)).heap[w.heap.size]? = some (.cells #[.bool true, .slice none 0 0] 25 (0, 0)) := by rw [heap_setCell_same _ _ 0 _ 25 _ HX6.out]; rfl
                  have kb : Kb8 w6 ((w6.setCell ⟨w.heap.size, 0, none⟩ (.bool true)).setCell ⟨w.heap.size, 1, none⟩ (.slice a3 k c3)) := (Kb8.set HX6.out (by decide) 0 _).trans (Kb8.set h0 (by decide) 1 _)
                  refine row_ens2 hyk.out (row_of_block HRw6.out fun j hj => two_other (by have := (row_type HRw.out hj).1; omega)) fun y hy => (((HEa.out y hy).keep (Kb8.below HB6k.out)).keep kb).ok
            · have te := HTe.out
              rw [decide_eq_false heq] at te
              have HNo : Hid (∀ es, ¬ IsNode true zs es) := hide fun es hk => heq (by rw [HEb.out, ← HWh.out es hk]; exact hk.1.symm)
              clear heq
              go_wp2
              have hf := two_set (u := .bool false) (v := .slice none 0 0) HX6.out
              obtain ⟨q0, q1, -⟩ := cells_two hf
              refine bodyPost_ret (v := .tuple #[.agg #[.bool false, .slice none 0 0], .int .u16 90]) ?_ rfl ?_
              · simp [results, Try.results9, go_sem, q0, q1]
              · exact ⟨(HBB.out.setCell (p := ⟨w.heap.size, 0, none⟩) (Nat.le_refl _) _).setCell (p := ⟨w.heap.size, 1, none⟩) (Nat.le_refl _) _, .inr ⟨rfl, fun l es hk => by
                  rcases hk.1 with ⟨h1, h2⟩ | ⟨h1, h2⟩
                  · subst h2; exact HNo.out es hk.2
                  · omega⟩⟩
set_option maxHeartbeats 12800000 in
set_option maxRecDepth 1000000 in
theorem rdecode_branch (a : Option Addr) (n c : Nat) (zs : List Int) (w : World) (h : Inn w a n c zs) (hl : n ≤ 100000) :
    Calls Try.prog 9 #[.int .u8 2, .slice a n c] w fun e w' => RDO 2 zs w e w' := by
  obtain ⟨i0, hi, hz0, hz1, hz2⟩ := info_parts Try.infoE
  have HIn := hide h
  have HLn := hide h.len
  have H8 := hide h.byts
  clear h
  go_enter Try.func9, Try.ntmps9
  go_wp2_with fail
  obtain ⟨W3, hW3, hB3, hs3, hb0, hb1, hb2⟩ := dec_boxes w false a n c
  rw [← hW3]
  clear hW3
  have HB3 := hide hB3
  have HX0 := hide hb0
  have HX1 := hide hb1
  have hD3 : Dr w W3 (w.heap.size + 1 + 1) a n c 0 false := ⟨hb2, by omega, hB3⟩
  have HD3 := hide hD3
  clear hB3 hb0 hb1 hb2 hD3
  refine (rnum_any w W3 (w.heap.size + 1 + 1) a n c 0 2 false zs HD3.out HIn.out hl (Nat.zero_le _) (by omega)).mono ?_
  rintro e w4 ⟨N, o0, b0, rfl, hnf, hd4, hg4⟩
  have HQ0 := hide (dq_begin (leaf := false) H8.out hnf.out)
  have hN : N < 65536 := (numF_bd H8.out (Nat.zero_le _) hnf.out).1
  have HD4 := hide hd4
  have HX0' := hide ((hg4.block _ (lt_of_block HX0.out) (by simp; omega)).trans HX0.out)
  have HX1' := hide ((hg4.block _ (lt_of_block HX1.out) (by simp)).trans HX1.out)
  have hs4 : w.heap.size + 3 ≤ w4.heap.size := by have := hg4.size; omega
  clear hd4 hg4 hnf HX0 HX1
  go_wp2
  go_loopw [9] (fun i wr => ∃ (k : Nat) (ys : List En) (o : Nat) (b : Bool) (a3 : Option Addr) (c3 : Nat), k ≤ N ∧ i = .int .i64 (k : Int) ∧ Hid (ys.length = k) ∧ Dq false zs N (ers ys) o b ∧ wr.heap[w.heap.size]? = some (.cells #[.bool false, .slice none 0 0] 25 (0, 0)) ∧ wr.heap[w.heap.size + 1]? = some (.cells #[.bool false, .slice a3 k c3] 25 (0, 0)) ∧ wr.ownsRow (w.heap.size + 3) 68 4 (.slice a3 k c3) k (rowc ys) ∧ (∀ y ∈ ys, y.Bs wr) ∧ Dr w wr (w.heap.size + 1 + 1) a n c o b ∧ w.heap.size + 3 ≤ wr.heap.size) (fun i _ => N - (intOf i).toNat)
  case atStart => exact ⟨0, [], o0, b0, none, 0, Nat.zero_le _, rfl, rfl, HQ0.out, HX0'.out, HX1'.out, ⟨rfl, .inl ⟨rfl, rfl⟩⟩, (by intro y hy; simp at hy), HD4.out, hs4⟩
  case round =>
    obtain ⟨k, ys, o, b, a3, c3, hk, rfl, hyk, hdq, hx0, hx1, hrow, heach, hdr, hsz⟩ := hrel
    have HDq := hide hdq
    have HX0 := hide hx0
    have HX1 := hide hx1
    have HRw := hide hrow
    have HEa := hide heach
    have HDr := hide hdr
    obtain ⟨r0, r1, r2⟩ := cells_three hdr.blk
    obtain ⟨n0, n1, -⟩ := cells_two hx1
    have hol : o ≤ n := by have := hdq.le; have := HLn.out; omega
    clear hdq hx0 hx1 hrow heach hdr HX0' HX1' HD4 HQ0 HD3 HB3
    by_cases hgo : k < N ∧ b = false
    · obtain ⟨hkN, hbf⟩ := hgo
      subst hbf
      have d1 : (k : Int) < (N : Int) := by omega
      have d2 : decide (k < N) = true := decide_eq_true hkN
      have hbE := below_alloc wr (.cells #[.slice none 0 0, .slice none 0 0, .int .u32 0, .int .u32 0] 68)
      have hE0 := heap_alloc_new wr (.cells #[.slice none 0 0, .slice none 0 0, .int .u32 0, .int .u32 0] 68)
      have HBE := hide hbE
      have HE0 := hide hE0
      have hpE : wr.heap.size ≠ w.heap.size + 1 + 1 := by omega
      go_wp2_with fail
      refine (rnum_any w _ (w.heap.size + 1 + 1) a n c o 1 false zs (HDr.out.on hbE) HIn.out hl hol (by omega)).mono ?_
      rintro e w5 ⟨v1, o1, b1, rfl, hf1, hd5, hg5⟩
      obtain ⟨hv1, ho1a, ho1b⟩ := numF_bd H8.out (by rw [HLn.out]; exact hol) hf1.out
      rw [HLn.out] at ho1b
      have HF1 := hf1
      have HD5 := hide hd5
      have HT5 : Hid (Two (w.heap.size + 1 + 1) wr.heap.size (wr.alloc (.cells #[.slice none 0 0, .slice none 0 0, .int .u32 0, .int .u32 0] 68)) w5) := Two.of_grown hg5
      have HE5 := hide ((hg5.block _ (lt_of_block HE0.out) (by simpa using hpE)).trans HE0.out)
      have hs5 : wr.heap.size + 1 ≤ w5.heap.size := by have := hg5.size; simpa using this
      clear hbE hE0 hf1 hd5 hg5 r0 r1 r2 n0 n1
      go_wp2_with fail
      refine (rbytes_any w w5 (w.heap.size + 1 + 1) a n c o1 v1 b1 zs HD5.out HIn.out hl ho1b (by omega)).mono ?_
      rintro e w6 ⟨a6, c6, key, o2, b2, rfl, hf2, hown6, hnew6, hd6, hg6⟩
      obtain ⟨hk8, hkl, ho2a, ho2b⟩ := bytF_bd H8.out (by rw [HLn.out]; exact ho1b) hf2.out
      rw [HLn.out] at ho2b
      have HF2 := hf2
      have HD6 := hide hd6
      have HK8 := hide hk8
      have HT6 : Hid (Two (w.heap.size + 1 + 1) wr.heap.size (wr.alloc (.cells #[.slice none 0 0, .slice none 0 0, .int .u32 0, .int .u32 0] 68)) w6) := HT5.out.trans (Two.of_grown hg6)
      have hE6 := (hg6.block _ (lt_of_block HE5.out) (by simpa using hpE)).trans HE5.out
      have HE6 := hide hE6
      have hs6 : w5.heap.size ≤ w6.heap.size := hg6.size
      obtain ⟨x0, x1, x2, x3⟩ := cells_fourN hE6
      have xf0 := frozen_blk (j := 0) hE6
      have HE7 : Hid ((w6.setCell ⟨wr.heap.size, 0, none⟩ (.slice a6 key.length c6)).heap[wr.heap.size]? = some (.cells #[.slice a6 key.length c6, .slice none 0 0, .int .u32 0, .int .u32 0] 68 (0, 0))) := by rw [Hid, heap_setCell_same _ _ 0 _ 68 _ hE6]; rfl
      have HT7 : Hid (Two (w.heap.size + 1 + 1) wr.heap.size (wr.alloc (.cells #[.slice none 0 0, .slice none 0 0, .int .u32 0, .int .u32 0] 68)) (w6.setCell ⟨wr.heap.size, 0, none⟩ (.slice a6 key.length c6))) := HT6.out.trans (Two.set w6 0 _)
      have HD7 : Hid (Dr w (w6.setCell ⟨wr.heap.size, 0, none⟩ (.slice a6 key.length c6)) (w.heap.size + 1 + 1) a n c o2 b2) := hd6.other (by omega) (by omega) 0 _
      have HO7 : Hid (Own (w6.setCell ⟨wr.heap.size, 0, none⟩ (.slice a6 key.length c6)) (.slice a6 key.length c6) key) := hown6.of_block fun j hj => Below.heap_setCell _ _ _ _ (by have := hnew6 j hj; show j ≠ wr.heap.size; omega)
      have HNk : Hid (∀ j, (Value.slice a6 key.length c6).ownBlock = some j → wr.heap.size < j) := hide fun j hj => by have := hnew6 j hj; omega
      have HNb : Hid ((w6.setCell ⟨wr.heap.size, 0, none⟩ (.slice a6 key.length c6)).heap[w.heap.size + 1]? = some (.cells #[.bool false, .slice a3 k c3] 25 (0, 0))) := (HT7.out.block _ (by have := lt_of_block HX1.out; simp; omega) (by omega) (by have := lt_of_block HX1.out; omega)).trans ((HBE.out.block _ (lt_of_block HX1.out)).trans HX1.out)
      obtain ⟨n0, n1, -⟩ := cells_two HNb.out
      clear hf2 hown6 hnew6 hd6 hg6 hE6 hk8
      go_wp2_with fail
      clear n0 n1 x0 x1 x2 x3 xf0 HT6 HE6 HD6 HT5 HE5 HD5
      generalize w6.setCell ⟨wr.heap.size, 0, none⟩ (.slice a6 key.length c6) = W7 at HE7 HT7 HD7 HO7 HNb ⊢
      refine (rnum_any w W7 (w.heap.size + 1 + 1) a n c o2 4 b2 zs HD7.out HIn.out hl ho2b (by omega)).mono ?_
      rintro e w10 ⟨pg, o5, b5, rfl, hf5, hd10, hg10⟩
      obtain ⟨hpb, ho5a, ho5b⟩ := numF_bd H8.out (by rw [HLn.out]; exact ho2b) hf5.out
      have hE10 := (hg10.block _ (lt_of_block HE7.out) (by simpa using hpE)).trans HE7.out
      have HO10 := HO7.out.of_block fun j hj => hg10.block j (HO7.out.lt hj) (by have := HNk.out j hj; simp; omega)
      obtain ⟨x0, x1, x2, x3⟩ := cells_fourN hE10
      have xf2 := frozen_blk (j := 2) hE10
      have hwp : IntKind.u32.wrap (pg : Int) = (pg : Int) := by simp [IntKind.wrap, IntKind.bits, IntKind.signed]; omega
      obtain ⟨y, hy⟩ : ∃ y : En, y = ⟨⟨key, [], pg, 0⟩, a6, c6, none, 0⟩ := ⟨_, rfl⟩
      have HEe : Hid ((w10.setCell ⟨wr.heap.size, 2, none⟩ (.int .u32 (pg : Int))).heap[wr.heap.size]? = some (.cells #[.slice y.ka y.e.key.length y.kc, .slice y.va y.e.val.length y.vc, .int .u32 (y.e.page : Int), .int .u32 (y.e.size : Int)] 68 (0, 0))) := by rw [Hid, heap_setCell_same _ _ 2 _ 68 _ hE10, hy]; rfl
      have HTe : Hid (Two (w.heap.size + 1 + 1) wr.heap.size (wr.alloc (.cells #[.slice none 0 0, .slice none 0 0, .int .u32 0, .int .u32 0] 68)) (w10.setCell ⟨wr.heap.size, 2, none⟩ (.int .u32 (pg : Int)))) := (HT7.out.trans (Two.of_grown hg10)).trans (Two.set w10 2 _)
      have HDe : Hid (Dr w (w10.setCell ⟨wr.heap.size, 2, none⟩ (.int .u32 (pg : Int))) (w.heap.size + 1 + 1) a n c o5 b5) := hd10.other (by omega) (by omega) 2 _
      have HBy : Hid (y.Bs (w10.setCell ⟨wr.heap.size, 2, none⟩ (.int .u32 (pg : Int)))) := by
        rw [hy]
        exact ⟨HO10.of_block fun j hj => Below.heap_setCell _ _ _ _ (by have := HNk.out j hj; show j ≠ wr.heap.size; omega), Own.nil _, HK8.out, by intro c hc; simp at hc, by simp only []; omega, by simp only []; omega⟩
      have HEnt : Hid (EntR false zs o false y.e o5 b5) := by
        rw [hy]
        exact ⟨v1, o1, b1, key, o2, b2, HF1.out, HF2.out, by rw [if_neg (by simp)]; exact ⟨pg, hf5.out, rfl⟩⟩
      clear hf5 hd10 hg10 hE10 HO10 HT7 HE7 HD7 HO7 HNb hy
      obtain ⟨WE, hWE⟩ : ∃ WE, WE = w10.setCell ⟨wr.heap.size, 2, none⟩ (.int .u32 (pg : Int)) := ⟨_, rfl⟩
      rw [← hWE] at HEe HTe HDe HBy
      obtain ⟨a4, c4, w11, hrun, hnE, hn11, hrest⟩ := dec_end hi hz0 hz1 hz2 (by omega) hyk.out hsz HX0.out HX1.out HRw.out HEa.out HDr.out HTe.out HDe.out HBy.out
      have HRest := hide hrest
      obtain ⟨m0, m1, -⟩ := cells_two hnE
      obtain ⟨e0, e1, e2, e3⟩ := cells_fourN HEe.out
      obtain ⟨g0, g1, -⟩ := cells_two hn11
      have gf1 := frozen_blk (j := 1) hn11
      have HRun := hide hrun
      have HEn2 := HEnt
      rw [hWE] at m0 m1 e0 e1 e2 e3 hrun
      rw [show (w10.setCell ⟨wr.heap.size, 2, none⟩ (.int .u32 (pg : Int))).heap.size = w10.heap.size from by simp [World.setCell]] at hrun
      clear hrest hnE hn11 hWE
      go_wp2_with (at_builtin; refine wpList_run_append (by rfl) (.tmp 71) (.tmp 73) 23 (by rfl) (by rfl) (by rfl) hrun ?_)
      go_roundw
      case rel =>
        obtain ⟨r1, r2, r3, r4, r5, r6⟩ := HRest.out
        exact ⟨k + 1, ys ++ [y], _, _, a4, c4, by omega, by go_num, by rw [Hid]; simp [hyk.out], by rw [ers_app]; exact HDq.out.step H8.out (by rw [ers_len, hyk.out]; exact hkN) HEn2.out, r1, r2, r3, r4, r5, r6⟩
      case measure => simp [intOf]; omega
    · have hens : Ens wr a3 k c3 ys := row_ens2 hyk.out HRw.out (fun y hy => (HEa.out y hy).ok)
      have hwt : wts (ers ys) ≤ 100000 := by have h1 := HDq.out.w; have h2 := HDq.out.le; have h3 := HLn.out; omega
      have HRe := hide (rencode_all false a3 k c3 ys wr hens (by omega) (by omega))
      have HEby := hide (eb_byts false (ers ys) fun e he => by
        obtain ⟨x, hx, rfl⟩ := List.mem_map.1 he
        exact ⟨(HEa.out x hx).k8, (HEa.out x hx).v8⟩)
      have HEns := hide hens
      have HBw := hide HDr.out.bel
      clear hens hwt
      by_cases hkN : k < N
      · have hbt : b = true := by cases b; exact absurd ⟨hkN, rfl⟩ hgo; rfl
        subst hbt
        have d1 : (k : Int) < (N : Int) := by omega
        have d2 : decide (k < N) = true := decide_eq_true hkN
        clear hgo
        go_wp2_with fail
        refine HRe.out.mono ?_
        rintro e w6 ⟨a6, c6, rfl, h6⟩
        have hb6 := h6.bel
        have HX6 := hide ((hb6.block _ (lt_of_block HX0.out)).trans HX0.out)
        have HD6 := hide (HDr.out.on hb6)
        obtain ⟨K1, hK1⟩ : ∃ K1, K1 = chk false (ers ys) := ⟨_, rfl⟩
        obtain ⟨L1, hL1⟩ : ∃ L1, L1 = (eb false (ers ys)).length := ⟨_, rfl⟩
        rw [← hK1, ← hL1]
        obtain ⟨s0, s1, s2⟩ := cells_three HD6.out.blk
        have HNo := hide HDq.out.none_bad
        have HBB := hide (HBw.out.trans (hb6.mono HBw.out.size))
        clear hK1 hL1 h6 hb6 r0 r1 r2 n0 n1
        obtain ⟨t0, t1, -⟩ := cells_two HX6.out
        have tf0 := frozen_blk (j := 0) HX6.out
        have tf1 := frozen_blk (j := 1) HX6.out
        go_wp2
        have hf := two_set (u := .bool false) (v := .slice none 0 0) HX6.out
        obtain ⟨q0, q1, -⟩ := cells_two hf
        refine bodyPost_ret (v := .tuple #[.agg #[.bool false, .slice none 0 0], .int .u16 90]) ?_ rfl ?_
        · simp [results, Try.results9, go_sem, q0, q1]
        · exact ⟨(HBB.out.setCell (p := ⟨w.heap.size, 0, none⟩) (Nat.le_refl _) _).setCell (p := ⟨w.heap.size, 1, none⟩) (Nat.le_refl _) _, .inr ⟨rfl, fun l es hk => by
            rcases hk.1 with ⟨h1, h2⟩ | ⟨h1, h2⟩
            · omega
            · subst h2; exact HNo.out es hk.2⟩⟩
      · obtain rfl : k = N := by omega
        clear hgo
        go_wp2_with fail
        refine HRe.out.mono ?_
        rintro e w6 ⟨a6, c6, rfl, h6⟩
        cases b with
        | true =>
          have hb6 := h6.bel
          have HX6 := hide ((hb6.block _ (lt_of_block HX0.out)).trans HX0.out)
          have HD6 := hide (HDr.out.on hb6)
          obtain ⟨K1, hK1⟩ : ∃ K1, K1 = chk false (ers ys) := ⟨_, rfl⟩
          obtain ⟨L1, hL1⟩ : ∃ L1, L1 = (eb false (ers ys)).length := ⟨_, rfl⟩
          rw [← hK1, ← hL1]
          obtain ⟨s0, s1, s2⟩ := cells_three HD6.out.blk
          have HNo := hide HDq.out.none_bad
          have HBB := hide (HBw.out.trans (hb6.mono HBw.out.size))
          clear hK1 hL1 h6 hb6 r0 r1 r2 n0 n1
          obtain ⟨t0, t1, -⟩ := cells_two HX6.out
          have tf0 := frozen_blk (j := 0) HX6.out
          have tf1 := frozen_blk (j := 1) HX6.out
          go_wp2
          have hf := two_set (u := .bool false) (v := .slice none 0 0) HX6.out
          obtain ⟨q0, q1, -⟩ := cells_two hf
          refine bodyPost_ret (v := .tuple #[.agg #[.bool false, .slice none 0 0], .int .u16 90]) ?_ rfl ?_
          · simp [results, Try.results9, go_sem, q0, q1]
          · exact ⟨(HBB.out.setCell (p := ⟨w.heap.size, 0, none⟩) (Nat.le_refl _) _).setCell (p := ⟨w.heap.size, 1, none⟩) (Nat.le_refl _) _, .inr ⟨rfl, fun l es hk => by
              rcases hk.1 with ⟨h1, h2⟩ | ⟨h1, h2⟩
              · omega
              · subst h2; exact HNo.out es hk.2⟩⟩
        | false =>
          have hb6 := h6.bel
          have HX6 := hide ((hb6.block _ (lt_of_block HX0.out)).trans HX0.out)
          have HN6 := hide ((hb6.block _ (lt_of_block HX1.out)).trans HX1.out)
          have HD6 := hide (HDr.out.on hb6)
          have HBB := hide (HBw.out.trans (hb6.mono HBw.out.size))
          have HB6k := hide hb6
          have HRw6 : Hid (w6.ownsRow (w.heap.size + 3) 68 4 (.slice a3 k c3) k (rowc ys)) := row_of_block HRw.out fun j hj => hb6.block j (by obtain ⟨_, cur, h2⟩ := row_type HRw.out hj; exact lt_of_block h2)
          obtain ⟨s0, s1, s2⟩ := cells_three HD6.out.blk
          obtain ⟨t0, t1, -⟩ := cells_two HX6.out
          have tf0 := frozen_blk (j := 0) HX6.out
          have tf1 := frozen_blk (j := 1) HX6.out
          obtain ⟨m0, m1, -⟩ := cells_two HN6.out
          have HWh : Hid (∀ es, IsNode false zs es → es = ers ys) := hide fun es hk => HDq.out.whole (by rw [ers_len, hyk.out]; exact Nat.le_refl _) hk
          by_cases hc : chk false (ers ys) = 0
          rotate_left
          · have HNo : Hid (∀ es, ¬ IsNode false zs es) := hide fun es hk => hc (by rw [← HWh.out es hk]; exact hk.2.1)
            obtain ⟨K1, hK1⟩ : ∃ K1, K1 = chk false (ers ys) := ⟨_, rfl⟩
            obtain ⟨L1, hL1⟩ : ∃ L1, L1 = (eb false (ers ys)).length := ⟨_, rfl⟩
            rw [← hK1, ← hL1]
            rw [← hK1] at hc
            have d3 : ¬ (K1 : Int) = 0 := by omega
            have d4 : ((K1 : Int) != 0) = true := by simp; omega
            clear hK1 hL1 h6 hb6 r0 r1 r2 n0 n1
            go_wp2
            have hf := two_set (u := .bool false) (v := .slice none 0 0) HX6.out
            obtain ⟨q0, q1, -⟩ := cells_two hf
            refine bodyPost_ret (v := .tuple #[.agg #[.bool false, .slice none 0 0], .int .u16 90]) ?_ rfl ?_
            · simp [results, Try.results9, go_sem, q0, q1]
            · exact ⟨(HBB.out.setCell (p := ⟨w.heap.size, 0, none⟩) (Nat.le_refl _) _).setCell (p := ⟨w.heap.size, 1, none⟩) (Nat.le_refl _) _, .inr ⟨rfl, fun l es hk => by
                rcases hk.1 with ⟨h1, h2⟩ | ⟨h1, h2⟩
                · omega
                · subst h2; exact HNo.out es hk.2⟩⟩
          · have hI1 := own_inn h6.own HEby.out
            have hI2 : Inn w6 a n c zs := HIn.out.below HBB.out
            have HTe := hide (text_eq (eb false (ers ys)) zs HEby.out H8.out)
            have HEb : Hid (eb false (ers ys) = nenc false (ers ys)) := if_pos hc
            have HCk := hide hc
            rw [hc]
            obtain ⟨EE, hEE⟩ : ∃ EE, EE = eb false (ers ys) := ⟨_, rfl⟩
            rw [← hEE] at hI1 HTe HEb ⊢
            have tx1 := text_inn hI1
            have tx2 := text_inn hI2
            clear hEE hI1 hI2 hc h6 hb6 r0 r1 r2 n0 n1
            by_cases heq : EE = zs
            · have te := HTe.out
              rw [decide_eq_true heq] at te
              have HEq := hide heq
              clear heq
              go_wp2
              have hf := two_set (u := .bool false) (v := .slice a3 k c3) HX6.out
              obtain ⟨q0, q1, -⟩ := cells_two hf
              refine bodyPost_ret (v := .tuple #[.agg #[.bool false, .slice a3 k c3], .int .u16 0]) ?_ rfl ?_
              · simp [results, Try.results9, go_sem, q0, q1]
              · refine ⟨(HBB.out.setCell (p := ⟨w.heap.size, 0, none⟩) (Nat.le_refl _) _).setCell (p := ⟨w.heap.size, 1, none⟩) (Nat.le_refl _) _, .inl ⟨false, a3, k, c3, ys, rfl, ⟨.inr ⟨rfl, rfl⟩, by rw [← HEq.out]; exact HEb.out, HCk.out, fun e he => ?_⟩, ?_⟩⟩
                · obtain ⟨x, hx, rfl⟩ := List.mem_map.1 he
                  exact ⟨(HEa.out x hx).k8, (HEa.out x hx).v8⟩
                · have h0 : (w6.setCell ⟨w.heap.size, 0, none⟩ (.bool false)).heap[w.heap.size]? = some (.cells #[.bool false, .slice none 0 0] 25 (0, 0)) := by rw [heap_setCell_same _ _ 0 _ 25 _ HX6.out]; rfl
                  have kb : Kb8 w6 ((w6.setCell ⟨w.heap.size, 0, none⟩ (.bool false)).setCell ⟨w.heap.size, 1, none⟩ (.slice a3 k c3)) := (Kb8.set HX6.out (by decide) 0 _).trans (Kb8.set h0 (by decide) 1 _)
                  refine row_ens2 hyk.out (row_of_block HRw6.out fun j hj => two_other (by have := (row_type HRw.out hj).1; omega)) fun y hy => (((HEa.out y hy).keep (Kb8.below HB6k.out)).keep kb).ok
            · have te := HTe.out
              rw [decide_eq_false heq] at te
              have HNo : Hid (∀ es, ¬ IsNode false zs es) := hide fun es hk => heq (by rw [HEb.out, ← HWh.out es hk]; exact hk.1.symm)
              clear heq
              go_wp2
              have hf := two_set (u := .bool false) (v := .slice none 0 0) HX6.out
              obtain ⟨q0, q1, -⟩ := cells_two hf
              refine bodyPost_ret (v := .tuple #[.agg #[.bool false, .slice none 0 0], .int .u16 90]) ?_ rfl ?_
              · simp [results, Try.results9, go_sem, q0, q1]
              · exact ⟨(HBB.out.setCell (p := ⟨w.heap.size, 0, none⟩) (Nat.le_refl _) _).setCell (p := ⟨w.heap.size, 1, none⟩) (Nat.le_refl _) _, .inr ⟨rfl, fun l es hk => by
                  rcases hk.1 with ⟨h1, h2⟩ | ⟨h1, h2⟩
                  · omega
                  · subst h2; exact HNo.out es hk.2⟩⟩
set_option maxHeartbeats 1600000 in
set_option maxRecDepth 1000000 in
theorem rdecode_kind (kind : Nat) (a : Option Addr) (n c : Nat) (zs : List Int) (w : World) (h1 : kind ≠ 1) (h2 : kind ≠ 2) :
    Calls Try.prog 9 #[.int .u8 (kind : Int), .slice a n c] w fun e w' => RDO kind zs w e w' := by
  have hX := heap_alloc_new w (.cells #[.bool false, .slice none 0 0] 25)
  have HX6 := hide hX
  have HBB := hide (below_alloc w (.cells #[.bool false, .slice none 0 0] 25))
  obtain ⟨t0, t1, -⟩ := cells_two hX
  have tf0 := frozen_blk (j := 0) hX
  have tf1 := frozen_blk (j := 1) hX
  have d1 : ¬ (kind : Int) = 1 := by omega
  have d2 : ¬ (kind : Int) = 2 := by omega
  have d3 : ((kind : Int) != 1) = true := by simp; omega
  have d4 : ((kind : Int) != 2) = true := by simp; omega
  clear hX
  go_enter Try.func9, Try.ntmps9
  go_wp2
  have hf := two_set (u := .bool false) (v := .slice none 0 0) HX6.out
  obtain ⟨q0, q1, -⟩ := cells_two hf
  refine bodyPost_ret (v := .tuple #[.agg #[.bool false, .slice none 0 0], .int .u16 90]) ?_ rfl ?_
  · simp [results, Try.results9, go_sem]
  · refine ⟨?_, .inr ⟨rfl, fun l es hk => by rcases hk.1 with ⟨h, _⟩ | ⟨h, _⟩ <;> omega⟩⟩
    first | exact (HBB.out.setCell (p := ⟨w.heap.size, 0, none⟩) (Nat.le_refl _) _).setCell (p := ⟨w.heap.size, 1, none⟩) (Nat.le_refl _) _ | exact HBB.out
theorem rdecode_any (kind : Nat) (a : Option Addr) (n c : Nat) (zs : List Int) (w : World) (h : Inn w a n c zs) (hl : n ≤ 100000) :
    Calls Try.prog 9 #[.int .u8 (kind : Int), .slice a n c] w fun e w' => RDO kind zs w e w' := by
  by_cases h1 : kind = 1
  · subst h1; exact rdecode_leaf a n c zs w h hl
  · by_cases h2 : kind = 2
    · subst h2; exact rdecode_branch a n c zs w h hl
    · exact rdecode_kind kind a n c zs w h1 h2
end Go.Proofs.Ytjojpohnmfkanaa
