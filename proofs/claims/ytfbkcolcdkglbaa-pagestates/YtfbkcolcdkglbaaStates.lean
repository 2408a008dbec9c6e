/- The Go function PageStates answers true for every state and bytes that are handed in, and leaves the bytes as they were: a state is made a sector, and any bytes are a state, or refused, as the chapter says; of any two pages the one that counts is the one that it says. No condition. -/
import Derived.Test.YtfbkcolcdkglbaaQH
import Derived.Test.YtfbkcolcdkglbaaSA
namespace Go.Proofs.Ytfbkcolcdkglbaa.States
open Go.ChangeShapes Go.WideShapes Go.ChangeAt Go.RowKit
set_option linter.unusedVariables false

set_option maxHeartbeats 6400000 in
set_option maxRecDepth 1000000 in
theorem walk_y (g r f p k : Nat) (a b : Option Addr) (n c m d : Nat) (xs ys : List Int) (w : World) (hx : Inn w a n c xs) (hy : Inn w b m d ys) (h1 : n ≤ 20000) (h2 : m ≤ 20000) (hm : (Pg.M.mk g r f p k).May)
    (gx rx fx px kx ex : Nat) (HX : ∀ W, Below w.heap.size w W → Calls Try.prog 22 #[.slice a n c] W fun e w' => e = .returned (.tuple #[.agg #[.int .u64 (gx : Int), .int .u32 (rx : Int), .int .u32 (fx : Int), .int .u32 (px : Int), .int .u64 (kx : Int)], .int .u16 (ex : Int)]) ∧ Below W.heap.size W w')
    (HX' : ∀ W, Below w.heap.size w W → Calls Try.prog 23 #[.slice a n c] W fun e w' => e = .returned (.tuple #[.agg #[.int .u64 (gx : Int), .int .u32 (rx : Int), .int .u32 (fx : Int), .int .u32 (px : Int), .int .u64 (kx : Int)], .int .u16 (ex : Int)]) ∧ Below W.heap.size W w')
    (gz rz fz pz kz ez : Nat) (HZ : ∀ W a' c', Below w.heap.size w W → Inn W a' n c' xs → Calls Try.prog 24 #[.slice a' n c', .slice b m d] W fun e w' => e = .returned (.tuple #[.agg #[.int .u64 (gz : Int), .int .u32 (rz : Int), .int .u32 (fz : Int), .int .u32 (pz : Int), .int .u64 (kz : Int)], .int .u16 (ez : Int)]) ∧ Below W.heap.size W w')
    (HZ' : ∀ W, Below w.heap.size w W → Calls Try.prog 25 #[.slice a n c, .slice b m d] W fun e w' => e = .returned (.tuple #[.agg #[.int .u64 (gz : Int), .int .u32 (rz : Int), .int .u32 (fz : Int), .int .u32 (pz : Int), .int .u64 (kz : Int)], .int .u16 (ez : Int)]) ∧ Below W.heap.size W w') :
    Calls Try.prog 5 #[.agg #[.int .u64 (g : Int), .int .u32 (r : Int), .int .u32 (f : Int), .int .u32 (p : Int), .int .u64 (k : Int)], .slice a n c, .slice b m d] w fun e w' => e = .returned (.bool true) ∧ Below w.heap.size w w' := by
  have d1 : (n : Int) ≤ 20000 := by omega
  have d2 : (m : Int) ≤ 20000 := by omega
  have hcap := hx.cap
  have hcap2 := hy.cap
  have hmax2 := hy.max
  have HX := hide HX
  have HX' := hide HX'
  have HZ := hide HZ
  have HZ' := hide HZ'
  obtain ⟨i0, hi, hz0, hz1, hz2⟩ := info_parts Try.info5
  have HP : Hid (∀ W, Calls Try.prog 20 #[.agg #[.int .u64 (g : Int), .int .u32 (r : Int), .int .u32 (f : Int), .int .u32 (p : Int), .int .u64 (k : Int)]] W fun e w' => ∃ v, e = .returned (.tuple #[v, .int .u16 0]) ∧ Made W v (Pg.mt ⟨g, r, f, p, k⟩) w') := hide fun W => put_ok ⟨g, r, f, p, k⟩ W hm
  have HP' : Hid (∀ W, Calls Try.prog 21 #[.agg #[.int .u64 (g : Int), .int .u32 (r : Int), .int .u32 (f : Int), .int .u32 (p : Int), .int .u64 (k : Int)]] W fun e w' => ∃ v, e = .returned (.tuple #[v, .int .u16 0]) ∧ Made W v (Pg.mt ⟨g, r, f, p, k⟩) w') := hide fun W => rputm_ok ⟨g, r, f, p, k⟩ W hm
  have HM8 : Hid (Byts (Pg.mt ⟨g, r, f, p, k⟩)) := hide (Pg.mt_b8 _)
  have HMl : Hid ((Pg.mt ⟨g, r, f, p, k⟩).length = 128) := hide (Pg.mt_length _)
  have HGm : Hid (Pg.get (Pg.mt ⟨g, r, f, p, k⟩ ++ ys) = some ⟨g, r, f, p, k⟩) := hide (Pg.get_mt _ hm _)
  have hSm : sameB (Pg.mt ⟨g, r, f, p, k⟩) (Pg.mt ⟨g, r, f, p, k⟩) = true := by unfold sameB; simp
  generalize Pg.mt ⟨g, r, f, p, k⟩ = S at *
  have HB := hide (below_alloc w (.cells #[.int .u64 (g : Int), .int .u32 (r : Int), .int .u32 (f : Int), .int .u32 (p : Int), .int .u64 (k : Int)] 64))
  have HQ := hide (heap_alloc_new w (.cells #[.int .u64 (g : Int), .int .u32 (r : Int), .int .u32 (f : Int), .int .u32 (p : Int), .int .u64 (k : Int)] 64))
  have HS0 : Hid ((w.alloc (.cells #[.int .u64 (g : Int), .int .u32 (r : Int), .int .u32 (f : Int), .int .u32 (p : Int), .int .u64 (k : Int)] 64)).heap.size = w.heap.size + 1) := by rw [Hid]; simp
  have HIx := hide (hx.below HB.out)
  have HIy := hide (hy.below HB.out)
  clear hx hy hm HS0
  go_enter Try.func5, Try.ntmps5
  go_wp2_with fail
  refine (HP.out _).mono ?_
  rintro e w1 ⟨v1, rfl, hm1⟩
  obtain ⟨a1, n1, c1, rfl, -⟩ := hm1.1.shape2
  have hb := hm1.2.2
  have HB := hide (HB.out.trans (hb.mono HB.out.size))
  have HQ := hide ((hb.block _ (lt_of_block HQ.out)).trans HQ.out)
  have HIx := hide (HIx.out.below hb)
  have HIy := hide (HIy.out.below hb)
  have HM1 := hide hm1.1
  have HMn := hide hm1.2.1
  clear hb hm1
  obtain ⟨y0, y1, y2, y3, y4⟩ := five HQ.out
  go_wp2_with fail
  refine (HP'.out _).mono ?_
  clear y0 y1 y2 y3 y4
  rintro e w2 ⟨v2, rfl, hm2⟩
  obtain ⟨a2, n2, c2, rfl, -⟩ := hm2.1.shape2
  have hb := hm2.2.2
  have HB := hide (HB.out.trans (hb.mono HB.out.size))
  have HQ := hide ((hb.block _ (lt_of_block HQ.out)).trans HQ.out)
  have HM1 := hide (HM1.out.below hb)
  have HIx := hide (HIx.out.below hb)
  have HIy := hide (HIy.out.below hb)
  have HM2 := hide hm2.1
  clear hb hm2
  go_wp2_with fail
  refine (HX.out _ HB.out).mono ?_
  rintro e w3 ⟨rfl, hb⟩
  have hb := hb.trans ((below_alloc w3 (.cells #[.int .u64 (gx : Int), .int .u32 (rx : Int), .int .u32 (fx : Int), .int .u32 (px : Int), .int .u64 (kx : Int)] 64)).mono hb.size)
  have HB := hide (HB.out.trans (hb.mono HB.out.size))
  have HQ := hide ((hb.block _ (lt_of_block HQ.out)).trans HQ.out)
  have HM1 := hide (HM1.out.below hb)
  have HM2 := hide (HM2.out.below hb)
  have HIx := hide (HIx.out.below hb)
  have HIy := hide (HIy.out.below hb)
  have HQx := hide (heap_alloc_new w3 (.cells #[.int .u64 (gx : Int), .int .u32 (rx : Int), .int .u32 (fx : Int), .int .u32 (px : Int), .int .u64 (kx : Int)] 64))
  clear hb
  go_wp2_with fail
  refine (HX'.out _ HB.out).mono ?_
  rintro e w4 ⟨rfl, hb⟩
  have hb := hb.trans ((below_alloc w4 (.cells #[.int .u64 (gx : Int), .int .u32 (rx : Int), .int .u32 (fx : Int), .int .u32 (px : Int), .int .u64 (kx : Int)] 64)).mono hb.size)
  have HB := hide (HB.out.trans (hb.mono HB.out.size))
  have HQ := hide ((hb.block _ (lt_of_block HQ.out)).trans HQ.out)
  have HQx := hide ((hb.block _ (lt_of_block HQx.out)).trans HQx.out)
  have HM1 := hide (HM1.out.below hb)
  have HM2 := hide (HM2.out.below hb)
  have HIx := hide (HIx.out.below hb)
  have HIy := hide (HIy.out.below hb)
  have HQy := hide (heap_alloc_new w4 (.cells #[.int .u64 (gx : Int), .int .u32 (rx : Int), .int .u32 (fx : Int), .int .u32 (px : Int), .int .u64 (kx : Int)] 64))
  clear hb
  go_wp2_with fail
  refine (lent_made HIx.out (by omega)).mono ?_
  rintro e w5 ⟨rfl, how, hb⟩
  have HB := hide (HB.out.trans (hb.mono HB.out.size))
  have HQ := hide ((hb.block _ (lt_of_block HQ.out)).trans HQ.out)
  have HQx := hide ((hb.block _ (lt_of_block HQx.out)).trans HQx.out)
  have HQy := hide ((hb.block _ (lt_of_block HQy.out)).trans HQy.out)
  have HM1 := hide (HM1.out.below hb)
  have HM2 := hide (HM2.out.below hb)
  have HIx := hide (HIx.out.below hb)
  have HIy := hide (HIy.out.below hb)
  have HLe := hide how
  clear hb how
  generalize (w4.alloc (.cells #[.int .u64 (gx : Int), .int .u32 (rx : Int), .int .u32 (fx : Int), .int .u32 (px : Int), .int .u64 (kx : Int)] 64)).heap.size = gL at *
  go_wp2_with fail
  refine (HZ.out _ _ _ HB.out (lent_inn HLe.out HIx.out.len HIx.out.byts (by omega))).mono ?_
  rintro e w6 ⟨rfl, hb⟩
  have hb := hb.trans ((below_alloc w6 (.cells #[.int .u64 (gz : Int), .int .u32 (rz : Int), .int .u32 (fz : Int), .int .u32 (pz : Int), .int .u64 (kz : Int)] 64)).mono hb.size)
  have HB := hide (HB.out.trans (hb.mono HB.out.size))
  have HQ := hide ((hb.block _ (lt_of_block HQ.out)).trans HQ.out)
  have HQx := hide ((hb.block _ (lt_of_block HQx.out)).trans HQx.out)
  have HQy := hide ((hb.block _ (lt_of_block HQy.out)).trans HQy.out)
  have HM1 := hide (HM1.out.below hb)
  have HM2 := hide (HM2.out.below hb)
  have HLe := hide (HLe.out.below hb)
  have HIx := hide (HIx.out.below hb)
  have HIy := hide (HIy.out.below hb)
  have HQz := hide (heap_alloc_new w6 (.cells #[.int .u64 (gz : Int), .int .u32 (rz : Int), .int .u32 (fz : Int), .int .u32 (pz : Int), .int .u64 (kz : Int)] 64))
  clear hb
  go_wp2_with fail
  refine (whole_any gL a n c xs _ HIx.out.len (by omega) (lent_row HLe.out) HIx.out.row).mono ?_
  rintro e w7 ⟨rfl, hb⟩
  have HB := hide (HB.out.trans (hb.mono HB.out.size))
  have HQ := hide ((hb.block _ (lt_of_block HQ.out)).trans HQ.out)
  have HQx := hide ((hb.block _ (lt_of_block HQx.out)).trans HQx.out)
  have HQy := hide ((hb.block _ (lt_of_block HQy.out)).trans HQy.out)
  have HQz := hide ((hb.block _ (lt_of_block HQz.out)).trans HQz.out)
  have HM1 := hide (HM1.out.below hb)
  have HM2 := hide (HM2.out.below hb)
  have HLe := hide (HLe.out.below hb)
  have HIx := hide (HIx.out.below hb)
  have HIy := hide (HIy.out.below hb)
  clear hb HLe
  go_wp2_with fail
  refine (HZ'.out _ HB.out).mono ?_
  rintro e w8 ⟨rfl, hb⟩
  have hb := hb.trans ((below_alloc w8 (.cells #[.int .u64 (gz : Int), .int .u32 (rz : Int), .int .u32 (fz : Int), .int .u32 (pz : Int), .int .u64 (kz : Int)] 64)).mono hb.size)
  have HB := hide (HB.out.trans (hb.mono HB.out.size))
  have HQ := hide ((hb.block _ (lt_of_block HQ.out)).trans HQ.out)
  have HQx := hide ((hb.block _ (lt_of_block HQx.out)).trans HQx.out)
  have HQy := hide ((hb.block _ (lt_of_block HQy.out)).trans HQy.out)
  have HQz := hide ((hb.block _ (lt_of_block HQz.out)).trans HQz.out)
  have HM1 := hide (HM1.out.below hb)
  have HM2 := hide (HM2.out.below hb)
  have HIx := hide (HIx.out.below hb)
  have HIy := hide (HIy.out.below hb)
  have HQv := hide (heap_alloc_new w8 (.cells #[.int .u64 (gz : Int), .int .u32 (rz : Int), .int .u32 (fz : Int), .int .u32 (pz : Int), .int .u64 (kz : Int)] 64))
  clear hb
  clear HX HX' HZ HZ' HP HP'
  go_wp2_with fail
  refine (known_any _).mono ?_
  rintro e w9 ⟨rfl, hb⟩
  have HB := hide (HB.out.trans (hb.mono HB.out.size))
  have HQ := hide ((hb.block _ (lt_of_block HQ.out)).trans HQ.out)
  have HQx := hide ((hb.block _ (lt_of_block HQx.out)).trans HQx.out)
  have HQy := hide ((hb.block _ (lt_of_block HQy.out)).trans HQy.out)
  have HQz := hide ((hb.block _ (lt_of_block HQz.out)).trans HQz.out)
  have HQv := hide ((hb.block _ (lt_of_block HQv.out)).trans HQv.out)
  have HM1 := hide (HM1.out.below hb)
  have HM2 := hide (HM2.out.below hb)
  have HIx := hide (HIx.out.below hb)
  have HIy := hide (HIy.out.below hb)
  clear hb
  go_wp2_with fail
  refine (same_inn (own_inn HM1.out HM8.out) (own_inn HM2.out HM8.out)).mono ?_
  rintro e w10 ⟨rfl, hb⟩
  rw [hSm]
  have HB := hide (HB.out.trans (hb.mono HB.out.size))
  have HQ := hide ((hb.block _ (lt_of_block HQ.out)).trans HQ.out)
  have HQx := hide ((hb.block _ (lt_of_block HQx.out)).trans HQx.out)
  have HQy := hide ((hb.block _ (lt_of_block HQy.out)).trans HQy.out)
  have HQz := hide ((hb.block _ (lt_of_block HQz.out)).trans HQz.out)
  have HQv := hide ((hb.block _ (lt_of_block HQv.out)).trans HQv.out)
  have HM1 := hide (HM1.out.below hb)
  have HM2 := hide (HM2.out.below hb)
  have HIx := hide (HIx.out.below hb)
  have HIy := hide (HIy.out.below hb)
  clear hb
  obtain ⟨x0, x1, x2, x3, x4⟩ := five HQx.out
  obtain ⟨y0, y1, y2, y3, y4⟩ := five HQy.out
  obtain ⟨z0, z1, z2, z3, z4⟩ := five HQz.out
  obtain ⟨v0, v1, v2, v3, v4⟩ := five HQv.out
  have HSrc := hide (src_row w10 b m d ys HIy.out.len HIy.out.bare HIy.out.row)
  have HLn : Hid (S.length + m ≤ 140737488355328) := by rw [Hid, HMl.out]; omega
  go_wp2_with (at_builtin; refine wpList_append_src (by rfl) (.tmp 108) (.tmp 109) 23 23 (by rfl) i0 Try.underlying23 hi hz0 hz1 hz2 (.slice a1 n1 c1) S (by rfl) HM1.out (.slice b m d) m ys (by rfl) HSrc.out HLn.out ?_; intro v' w11 hown1 hg1 hf1; obtain ⟨a3, n3, c3, rfl, -⟩ := hown1.shape2; have HO1 := hide hown1; have HG1 := hide hg1; clear hown1 hg1 hf1)
  clear x0 x1 x2 x3 x4 y0 y1 y2 y3 y4 z0 z1 z2 z3 z4 v0 v1 v2 v3 v4
  have hk : ∀ j, (Value.slice a1 n1 c1).ownBlock = some j → w.heap.size + 1 ≤ j := fun j hj => by have := HMn.out j hj; simpa using this
  have HB := hide (HB.out.grown HG1.out HB.out.size (fun j hj => by have := hk j hj; omega))
  have HQ := hide ((HG1.out.block _ (lt_of_block HQ.out) (fun e => by have := hk _ e.symm; omega)).trans HQ.out)
  have HIn := hide (own_inn HO1.out (HM8.out.append HIy.out.byts))
  clear hk HG1 HO1 HQx HQy HQz HQv HM1 HM2
  refine (get_inn HIn.out).mono ?_
  rintro e w12 ⟨hyy, -, hb⟩
  obtain rfl := hyy _ HGm.out
  simp only [mv]
  have hb := hb.trans ((below_alloc w12 (.cells #[.int .u64 (g : Int), .int .u32 (r : Int), .int .u32 (f : Int), .int .u32 (p : Int), .int .u64 (k : Int)] 64)).mono hb.size)
  have HB := hide (HB.out.trans (hb.mono HB.out.size))
  have hq := (hb.block _ (lt_of_block HQ.out)).trans HQ.out
  obtain ⟨x0, x1, x2, x3, x4⟩ := five hq
  clear hb hq hyy
  go_wp2
  go_ret
  exact ⟨rfl, HB.out⟩

set_option maxHeartbeats 6400000 in
set_option maxRecDepth 1000000 in
theorem walk_n (g r f p k : Nat) (a b : Option Addr) (n c m d : Nat) (xs ys : List Int) (w : World) (hx : Inn w a n c xs) (hy : Inn w b m d ys) (h1 : n ≤ 20000) (h2 : m ≤ 20000) (hm : ¬ (Pg.M.mk g r f p k).May)
    (gx rx fx px kx ex : Nat) (HX : ∀ W, Below w.heap.size w W → Calls Try.prog 22 #[.slice a n c] W fun e w' => e = .returned (.tuple #[.agg #[.int .u64 (gx : Int), .int .u32 (rx : Int), .int .u32 (fx : Int), .int .u32 (px : Int), .int .u64 (kx : Int)], .int .u16 (ex : Int)]) ∧ Below W.heap.size W w')
    (HX' : ∀ W, Below w.heap.size w W → Calls Try.prog 23 #[.slice a n c] W fun e w' => e = .returned (.tuple #[.agg #[.int .u64 (gx : Int), .int .u32 (rx : Int), .int .u32 (fx : Int), .int .u32 (px : Int), .int .u64 (kx : Int)], .int .u16 (ex : Int)]) ∧ Below W.heap.size W w')
    (gz rz fz pz kz ez : Nat) (HZ : ∀ W a' c', Below w.heap.size w W → Inn W a' n c' xs → Calls Try.prog 24 #[.slice a' n c', .slice b m d] W fun e w' => e = .returned (.tuple #[.agg #[.int .u64 (gz : Int), .int .u32 (rz : Int), .int .u32 (fz : Int), .int .u32 (pz : Int), .int .u64 (kz : Int)], .int .u16 (ez : Int)]) ∧ Below W.heap.size W w')
    (HZ' : ∀ W, Below w.heap.size w W → Calls Try.prog 25 #[.slice a n c, .slice b m d] W fun e w' => e = .returned (.tuple #[.agg #[.int .u64 (gz : Int), .int .u32 (rz : Int), .int .u32 (fz : Int), .int .u32 (pz : Int), .int .u64 (kz : Int)], .int .u16 (ez : Int)]) ∧ Below W.heap.size W w') :
    Calls Try.prog 5 #[.agg #[.int .u64 (g : Int), .int .u32 (r : Int), .int .u32 (f : Int), .int .u32 (p : Int), .int .u64 (k : Int)], .slice a n c, .slice b m d] w fun e w' => e = .returned (.bool true) ∧ Below w.heap.size w w' := by
  have d1 : (n : Int) ≤ 20000 := by omega
  have d2 : (m : Int) ≤ 20000 := by omega
  have hcap := hx.cap
  have hcap2 := hy.cap
  have hmax2 := hy.max
  have HX := hide HX
  have HX' := hide HX'
  have HZ := hide HZ
  have HZ' := hide HZ'
  have HP : Hid (∀ W, Calls Try.prog 20 #[.agg #[.int .u64 (g : Int), .int .u32 (r : Int), .int .u32 (f : Int), .int .u32 (p : Int), .int .u64 (k : Int)]] W fun e w' => e = .returned (.tuple #[.slice none 0 0, .int .u16 80]) ∧ Below W.heap.size W w') := hide fun W => put_no ⟨g, r, f, p, k⟩ W hm
  have HP' : Hid (∀ W, Calls Try.prog 21 #[.agg #[.int .u64 (g : Int), .int .u32 (r : Int), .int .u32 (f : Int), .int .u32 (p : Int), .int .u64 (k : Int)]] W fun e w' => e = .returned (.tuple #[.slice none 0 0, .int .u16 80]) ∧ Below W.heap.size W w') := hide fun W => rputm_no ⟨g, r, f, p, k⟩ W hm
  have hSm : sameB [] [] = true := rfl
  have HB := hide (below_alloc w (.cells #[.int .u64 (g : Int), .int .u32 (r : Int), .int .u32 (f : Int), .int .u32 (p : Int), .int .u64 (k : Int)] 64))
  have HQ := hide (heap_alloc_new w (.cells #[.int .u64 (g : Int), .int .u32 (r : Int), .int .u32 (f : Int), .int .u32 (p : Int), .int .u64 (k : Int)] 64))
  have HS0 : Hid ((w.alloc (.cells #[.int .u64 (g : Int), .int .u32 (r : Int), .int .u32 (f : Int), .int .u32 (p : Int), .int .u64 (k : Int)] 64)).heap.size = w.heap.size + 1) := by rw [Hid]; simp
  have HIx := hide (hx.below HB.out)
  have HIy := hide (hy.below HB.out)
  clear hx hy hm HS0
  go_enter Try.func5, Try.ntmps5
  go_wp2_with fail
  refine (HP.out _).mono ?_
  rintro e w1 ⟨rfl, hb⟩
  have HB := hide (HB.out.trans (hb.mono HB.out.size))
  have HQ := hide ((hb.block _ (lt_of_block HQ.out)).trans HQ.out)
  have HIx := hide (HIx.out.below hb)
  have HIy := hide (HIy.out.below hb)
  clear hb
  obtain ⟨y0, y1, y2, y3, y4⟩ := five HQ.out
  go_wp2_with fail
  refine (HP'.out _).mono ?_
  clear y0 y1 y2 y3 y4
  rintro e w2 ⟨rfl, hb⟩
  have HB := hide (HB.out.trans (hb.mono HB.out.size))
  have HQ := hide ((hb.block _ (lt_of_block HQ.out)).trans HQ.out)
  have HIx := hide (HIx.out.below hb)
  have HIy := hide (HIy.out.below hb)
  clear hb
  go_wp2_with fail
  refine (HX.out _ HB.out).mono ?_
  rintro e w3 ⟨rfl, hb⟩
  have hb := hb.trans ((below_alloc w3 (.cells #[.int .u64 (gx : Int), .int .u32 (rx : Int), .int .u32 (fx : Int), .int .u32 (px : Int), .int .u64 (kx : Int)] 64)).mono hb.size)
  have HB := hide (HB.out.trans (hb.mono HB.out.size))
  have HQ := hide ((hb.block _ (lt_of_block HQ.out)).trans HQ.out)
  have HIx := hide (HIx.out.below hb)
  have HIy := hide (HIy.out.below hb)
  have HQx := hide (heap_alloc_new w3 (.cells #[.int .u64 (gx : Int), .int .u32 (rx : Int), .int .u32 (fx : Int), .int .u32 (px : Int), .int .u64 (kx : Int)] 64))
  clear hb
  go_wp2_with fail
  refine (HX'.out _ HB.out).mono ?_
  rintro e w4 ⟨rfl, hb⟩
  have hb := hb.trans ((below_alloc w4 (.cells #[.int .u64 (gx : Int), .int .u32 (rx : Int), .int .u32 (fx : Int), .int .u32 (px : Int), .int .u64 (kx : Int)] 64)).mono hb.size)
  have HB := hide (HB.out.trans (hb.mono HB.out.size))
  have HQ := hide ((hb.block _ (lt_of_block HQ.out)).trans HQ.out)
  have HQx := hide ((hb.block _ (lt_of_block HQx.out)).trans HQx.out)
  have HIx := hide (HIx.out.below hb)
  have HIy := hide (HIy.out.below hb)
  have HQy := hide (heap_alloc_new w4 (.cells #[.int .u64 (gx : Int), .int .u32 (rx : Int), .int .u32 (fx : Int), .int .u32 (px : Int), .int .u64 (kx : Int)] 64))
  clear hb
  go_wp2_with fail
  refine (lent_made HIx.out (by omega)).mono ?_
  rintro e w5 ⟨rfl, how, hb⟩
  have HB := hide (HB.out.trans (hb.mono HB.out.size))
  have HQ := hide ((hb.block _ (lt_of_block HQ.out)).trans HQ.out)
  have HQx := hide ((hb.block _ (lt_of_block HQx.out)).trans HQx.out)
  have HQy := hide ((hb.block _ (lt_of_block HQy.out)).trans HQy.out)
  have HIx := hide (HIx.out.below hb)
  have HIy := hide (HIy.out.below hb)
  have HLe := hide how
  clear hb how
  generalize (w4.alloc (.cells #[.int .u64 (gx : Int), .int .u32 (rx : Int), .int .u32 (fx : Int), .int .u32 (px : Int), .int .u64 (kx : Int)] 64)).heap.size = gL at *
  go_wp2_with fail
  refine (HZ.out _ _ _ HB.out (lent_inn HLe.out HIx.out.len HIx.out.byts (by omega))).mono ?_
  rintro e w6 ⟨rfl, hb⟩
  have hb := hb.trans ((below_alloc w6 (.cells #[.int .u64 (gz : Int), .int .u32 (rz : Int), .int .u32 (fz : Int), .int .u32 (pz : Int), .int .u64 (kz : Int)] 64)).mono hb.size)
  have HB := hide (HB.out.trans (hb.mono HB.out.size))
  have HQ := hide ((hb.block _ (lt_of_block HQ.out)).trans HQ.out)
  have HQx := hide ((hb.block _ (lt_of_block HQx.out)).trans HQx.out)
  have HQy := hide ((hb.block _ (lt_of_block HQy.out)).trans HQy.out)
  have HLe := hide (HLe.out.below hb)
  have HIx := hide (HIx.out.below hb)
  have HIy := hide (HIy.out.below hb)
  have HQz := hide (heap_alloc_new w6 (.cells #[.int .u64 (gz : Int), .int .u32 (rz : Int), .int .u32 (fz : Int), .int .u32 (pz : Int), .int .u64 (kz : Int)] 64))
  clear hb
  go_wp2_with fail
  refine (whole_any gL a n c xs _ HIx.out.len (by omega) (lent_row HLe.out) HIx.out.row).mono ?_
  rintro e w7 ⟨rfl, hb⟩
  have HB := hide (HB.out.trans (hb.mono HB.out.size))
  have HQ := hide ((hb.block _ (lt_of_block HQ.out)).trans HQ.out)
  have HQx := hide ((hb.block _ (lt_of_block HQx.out)).trans HQx.out)
  have HQy := hide ((hb.block _ (lt_of_block HQy.out)).trans HQy.out)
  have HQz := hide ((hb.block _ (lt_of_block HQz.out)).trans HQz.out)
  have HLe := hide (HLe.out.below hb)
  have HIx := hide (HIx.out.below hb)
  have HIy := hide (HIy.out.below hb)
  clear hb HLe
  go_wp2_with fail
  refine (HZ'.out _ HB.out).mono ?_
  rintro e w8 ⟨rfl, hb⟩
  have hb := hb.trans ((below_alloc w8 (.cells #[.int .u64 (gz : Int), .int .u32 (rz : Int), .int .u32 (fz : Int), .int .u32 (pz : Int), .int .u64 (kz : Int)] 64)).mono hb.size)
  have HB := hide (HB.out.trans (hb.mono HB.out.size))
  have HQ := hide ((hb.block _ (lt_of_block HQ.out)).trans HQ.out)
  have HQx := hide ((hb.block _ (lt_of_block HQx.out)).trans HQx.out)
  have HQy := hide ((hb.block _ (lt_of_block HQy.out)).trans HQy.out)
  have HQz := hide ((hb.block _ (lt_of_block HQz.out)).trans HQz.out)
  have HIx := hide (HIx.out.below hb)
  have HIy := hide (HIy.out.below hb)
  have HQv := hide (heap_alloc_new w8 (.cells #[.int .u64 (gz : Int), .int .u32 (rz : Int), .int .u32 (fz : Int), .int .u32 (pz : Int), .int .u64 (kz : Int)] 64))
  clear hb
  clear HX HX' HZ HZ' HP HP'
  go_wp2_with fail
  refine (known_any _).mono ?_
  rintro e w9 ⟨rfl, hb⟩
  have HB := hide (HB.out.trans (hb.mono HB.out.size))
  have HQ := hide ((hb.block _ (lt_of_block HQ.out)).trans HQ.out)
  have HQx := hide ((hb.block _ (lt_of_block HQx.out)).trans HQx.out)
  have HQy := hide ((hb.block _ (lt_of_block HQy.out)).trans HQy.out)
  have HQz := hide ((hb.block _ (lt_of_block HQz.out)).trans HQz.out)
  have HQv := hide ((hb.block _ (lt_of_block HQv.out)).trans HQv.out)
  have HIx := hide (HIx.out.below hb)
  have HIy := hide (HIy.out.below hb)
  clear hb
  go_wp2_with fail
  refine (same_inn (inn_nil _) (inn_nil _)).mono ?_
  rintro e w10 ⟨rfl, hb⟩
  rw [hSm]
  have HB := hide (HB.out.trans (hb.mono HB.out.size))
  have HQ := hide ((hb.block _ (lt_of_block HQ.out)).trans HQ.out)
  have HQx := hide ((hb.block _ (lt_of_block HQx.out)).trans HQx.out)
  have HQy := hide ((hb.block _ (lt_of_block HQy.out)).trans HQy.out)
  have HQz := hide ((hb.block _ (lt_of_block HQz.out)).trans HQz.out)
  have HQv := hide ((hb.block _ (lt_of_block HQv.out)).trans HQv.out)
  have HIx := hide (HIx.out.below hb)
  have HIy := hide (HIy.out.below hb)
  clear hb
  obtain ⟨x0, x1, x2, x3, x4⟩ := five HQx.out
  obtain ⟨y0, y1, y2, y3, y4⟩ := five HQy.out
  obtain ⟨z0, z1, z2, z3, z4⟩ := five HQz.out
  obtain ⟨v0, v1, v2, v3, v4⟩ := five HQv.out
  go_wp2
  go_ret
  exact ⟨rfl, HB.out⟩

set_option maxHeartbeats 1600000 in
set_option maxRecDepth 1000000 in
theorem walk_big (g r f p k : Nat) (a b : Option Addr) (n c m d : Nat) (w : World) (h1 : n ≤ 9223372036854775807) (h2 : m ≤ 9223372036854775807) (h : (20000 : Int) < (n : Int) ∨ ((n : Int) ≤ 20000 ∧ (20000 : Int) < (m : Int))) :
    Calls Try.prog 5 #[.agg #[.int .u64 (g : Int), .int .u32 (r : Int), .int .u32 (f : Int), .int .u32 (p : Int), .int .u64 (k : Int)], .slice a n c, .slice b m d] w fun e w' => e = .returned (.bool true) ∧ Below w.heap.size w w' := by
  rcases h with h | ⟨h, h'⟩
  all_goals
    go_enter Try.func5, Try.ntmps5
    go_wp2
    go_ret
    exact ⟨rfl, below_alloc _ _⟩

theorem walk (m0 : Pg.M) (a1 : Option Addr) (len1 cap1 : Nat) (z1 : List Int) (a2 : Option Addr) (len2 cap2 : Nat) (z2 : List Int) (w : World) (w0 : m0.Fit) (w1 : IsRow .u8 w a1 len1 cap1 z1) (w2 : IsRow .u8 w a2 len2 cap2 z2) :
    Calls Try.prog 5 #[mv m0, .slice a1 len1 cap1, .slice a2 len2 cap2] w fun e w' => e = .returned (.bool true) ∧ Below w.heap.size w w' := by
  obtain ⟨g, r, f, p, k⟩ := m0
  have hx := isrow_inn w1
  have hy := isrow_inn w2
  by_cases h1 : len1 ≤ 20000
  · by_cases h2 : len2 ≤ 20000
    · obtain ⟨⟨gx, rx, fx, px, kx⟩, ex, HX, HX'⟩ := get_both hx
      have HZ := fun W a' c' (hb : Below w.heap.size w W) (hi : Inn W a' len1 c' (z1.take len1)) => best_inn hi (hy.below hb)
      have HZ' := fun W (hb : Below w.heap.size w W) => rbest_any (hx.below hb) (hy.below hb)
      generalize bst (z1.take len1) (z2.take len2) = BB at *
      obtain ⟨⟨gz, rz, fz, pz, kz⟩, ez⟩ := BB
      by_cases hm : (Pg.M.mk g r f p k).May
      · exact walk_y g r f p k a1 a2 len1 cap1 len2 cap2 _ _ w hx hy h1 h2 hm gx rx fx px kx ex HX HX' gz rz fz pz kz ez HZ HZ'
      · exact walk_n g r f p k a1 a2 len1 cap1 len2 cap2 _ _ w hx hy h1 h2 hm gx rx fx px kx ex HX HX' gz rz fz pz kz ez HZ HZ'
    · exact walk_big g r f p k a1 a2 len1 cap1 len2 cap2 w (by have := hx.cap; have := hx.max; omega) (by have := hy.cap; have := hy.max; omega) (.inr ⟨by omega, by omega⟩)
  · exact walk_big g r f p k a1 a2 len1 cap1 len2 cap2 w (by have := hx.cap; have := hx.max; omega) (by have := hy.cap; have := hy.max; omega) (.inl (by omega))

set_option maxHeartbeats 1600000 in
set_option maxRecDepth 100000 in
theorem lifted (os : Os) (started : os.Started) (H : Type) (enc : TypeId × Value → H) :
    ReturnsInHanded {} Try.checked os 5 .any (Rows.pageStatesSpec.pre6 enc Try.prog Try.f5 Rows.pageStatesRow.domain false) (Rows.pageStatesSpec.post enc Try.prog Try.f5 false true false false) := by
  refine returnsInHanded_of_change (C := Try.checked) own started (by kernel_rfl) Try.func5
    (ChangeSpec.witness6 (enc := enc) (C := Try.checked) false ⟨#[], #[.agg #[.int .u64 0, .int .u32 0, .int .u32 0, .int .u32 0, .int .u64 0], .slice none 0 0, .slice none 0 0], []⟩ 8 (by kernel_rfl) (by kernel_rfl) (by kernel_rfl) (by kernel_rfl)) ?_
  intro W base args ds gs before hval0 hW hcnd _
  have hval : ∀ (j : Nat) t v, Try.f5.params[j]? = some t → args[j]? = some v → Value.okWide Try.prog W .any base t v := hval0
  have hW' := hW
  obtain ⟨p, q, hA0, hV, rfl, hfz, hnd⟩ := hW
  have hA : DataW.TrodAll enc Try.prog W 0 (fun _ => true) true Try.f5.params.toList args.toList ds p := hA0
  rw [Try.params5] at hA hval
  obtain ⟨v0, vs0, d0, ds0, p0, q0, hargs, rfl, rfl, h0, r0⟩ := trodAll_cons hA
  obtain ⟨v1, vs1, d1, ds1, p1, q1, rfl, rfl, rfl, h1, r1⟩ := trodAll_cons r0
  obtain ⟨v2, vs2, d2, ds2, p2, q2, rfl, rfl, rfl, h2, r2⟩ := trodAll_cons r1
  obtain ⟨rfl, rfl, rfl⟩ := trodAll_nil r2
  obtain rfl : args = #[v0, v1, v2] := by cases args; simp_all
  obtain ⟨rfl, rfl⟩ := trodVars_none hV
  have k0 := h0
  have lt0 : ∀ x ∈ p0, x.block < W.heap.size := by obtain ⟨m, hm⟩ := k0; exact DataW.trod_lt m _ _ _ hm
  obtain ⟨m0, rfl, w0⟩ := open_meta (hval 0 64 v0 rfl rfl) h0
  obtain ⟨a1, len1, cap1, rfl⟩ := okWide_slice Try.underlying23 (hval 1 23 v1 rfl rfl)
  have k1 := h1
  have lt1 : ∀ x ∈ p1, x.block < W.heap.size := by obtain ⟨m, hm⟩ := k1; exact DataW.trod_lt m _ _ _ hm
  obtain ⟨z1, w1⟩ : ∃ zs, IsRow .u8 W a1 len1 cap1 zs := by
    obtain ⟨fuel, hf⟩ := h1
    rcases open_ints Try.underlying23 Try.underlying5 (by kernel_rfl) hf with ⟨hcs, _⟩ | ⟨x, l, c, zs, hcs, _, hl, hm, hz, _, hcell, hwz⟩
    · simp [Value.cells] at hcs
      obtain ⟨rfl, rfl, rfl⟩ := hcs
      exact ⟨[], .inl ⟨rfl, rfl, rfl, rfl⟩⟩
    · simp [Value.cells] at hcs
      obtain ⟨rfl, rfl, rfl⟩ := hcs
      exact ⟨zs, .inr ⟨_, rfl, hl, hm, by simpa using hz, hcell, hwz⟩⟩
  obtain ⟨a2, len2, cap2, rfl⟩ := okWide_slice Try.underlying23 (hval 2 23 v2 rfl rfl)
  have k2 := h2
  have lt2 : ∀ x ∈ p2, x.block < W.heap.size := by obtain ⟨m, hm⟩ := k2; exact DataW.trod_lt m _ _ _ hm
  obtain ⟨z2, w2⟩ : ∃ zs, IsRow .u8 W a2 len2 cap2 zs := by
    obtain ⟨fuel, hf⟩ := h2
    rcases open_ints Try.underlying23 Try.underlying5 (by kernel_rfl) hf with ⟨hcs, _⟩ | ⟨x, l, c, zs, hcs, _, hl, hm, hz, _, hcell, hwz⟩
    · simp [Value.cells] at hcs
      obtain ⟨rfl, rfl, rfl⟩ := hcs
      exact ⟨[], .inl ⟨rfl, rfl, rfl, rfl⟩⟩
    · simp [Value.cells] at hcs
      obtain ⟨rfl, rfl, rfl⟩ := hcs
      exact ⟨zs, .inr ⟨_, rfl, hl, hm, by simpa using hz, hcell, hwz⟩⟩
  clear hA0 hval0
  have hwk := walk m0 a1 len1 cap1 z1 a2 len2 cap2 z2 W w0 w1 w2
  refine hwk.mono fun e W' ⟨he, bel⟩ => ?_
  subst he
  exact ⟨_, rfl, _, _, _, [], _, [], hW', trodAll_mk1 (shut_bool Try.underlying4 _), (trodAll_cons_mk (Below.trod laidOut (by kernel_rfl) (of_decide_eq_true (by kernel_rfl)) k0 bel lt0) (trodAll_cons_mk (Below.trod laidOut (by kernel_rfl) (of_decide_eq_true (by kernel_rfl)) k1 bel lt1) (trodAll_cons_mk (Below.trod laidOut (by kernel_rfl) (of_decide_eq_true (by kernel_rfl)) k2 bel lt2) trodAll_mk0))), rfl, bel.frame _, fun h => by cases h⟩

theorem over : Rows.pageStatesRow.holds Try.pinned (OpenSpec.ofChange Rows.pageStatesSpec) :=
  OpenClaim.holds_of_wide 5 Try.f5 rfl rfl rfl rfl rfl rfl rfl ⟨rfl, rfl, rfl, rfl, rfl⟩ rfl rfl rfl rfl rfl (by kernel_rfl) Try.func5 (by kernel_rfl)
    (of_decide_eq_true (by kernel_rfl)) (by unfold Func.isWrapper; first | (rw [if_pos (by decide +kernel)]; kernel_rfl) | (rw [if_neg (by decide +kernel)]; exact ⟨rfl, rfl⟩))
    (fun os started H enc _ => lifted os started H enc)

end Go.Proofs.Ytfbkcolcdkglbaa.States
namespace Go.Proofs.Ytfbkcolcdkglbaa
theorem pageStates_holds : Rows.PageStatesSaid := States.over
#print axioms pageStates_holds
end Go.Proofs.Ytfbkcolcdkglbaa
