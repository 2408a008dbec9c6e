/- The Go function NodeSizes answers true for every node and entry that are handed in, and leaves them as they were: a node's bytes are as many as Size says; one entry more makes it greater by that entry alone. No condition. -/
import Derived.Test.YtepaohiacfmababMU
import Derived.Test.YtepaohiacfmababSY
namespace Go.Proofs.Ytepaohiacfmabab.Sizes
open Go.ChangeShapes Go.WideShapes Go.ChangeAt Go.RowKit
set_option linter.unusedVariables false

theorem array4 {α : Type} {a : Array α} (h : a.size = 4) : ∃ x y z u, a = #[x, y, z, u] := by
  obtain ⟨l⟩ := a
  match l, h with
  | [x, y, z, u], _ => exact ⟨x, y, z, u, rfl⟩
set_option maxRecDepth 1000000 in
theorem entry_open {H : Type} {enc : TypeId × Value → H} {W : World} {base0 : Nat} {r : Reach} {v : Value} {d : DataW H} {p : List MemPlace} (hval : Value.okWide Try.prog W r base0 28 v) (h : DataW.Trod enc Try.prog W 0 (fun _ => true) true 28 v d p) (hsz : (d.weights Try.prog 28).all (· ≤ reachBytes) = true) :
    ∃ x : En, v = x.v ∧ x.Ok W ∧ x.e.key.length ≤ 140737488355328 ∧ x.e.val.length ≤ 140737488355328 := by
  obtain ⟨cs, rfl, hs2⟩ := okWide_struct Try.underlying28 hval
  obtain ⟨c0, c1, c2, c3, rfl⟩ := array4 (hs2.trans cellsE)
  obtain ⟨fuel, hf⟩ := h
  obtain ⟨xs, n, -, hxy, -, hlen, hx⟩ := DataW.trod_struct Try.underlying28 hf
  match xs, hlen with
  | [y0, y1, y2, y3], _ =>
    have g0 : DataW.trod enc Try.prog W 0 (fun _ => true) true n 25 [c0] = some y0 := by have h := hx 0 _ rfl; simpa [Value.cells, cellsB] using h
    have g1 : DataW.trod enc Try.prog W 0 (fun _ => true) true n 25 [c1] = some y1 := by have h := hx 1 _ rfl; simpa [Value.cells, cellsB] using h
    have g2 : DataW.trod enc Try.prog W 0 (fun _ => true) true n 26 [c2] = some y2 := by have h := hx 2 _ rfl; simpa [Value.cells, cellsU] using h
    have g3 : DataW.trod enc Try.prog W 0 (fun _ => true) true n 26 [c3] = some y3 := by have h := hx 3 _ rfl; simpa [Value.cells, cellsU] using h
    obtain ⟨ka, kc, key, rfl, ik, sk⟩ := one_bytes g0
    obtain ⟨va, vc, val, rfl, iv, sv⟩ := one_bytes g1
    obtain ⟨P, r2, _, w2⟩ := DataW.trod_int Try.underlying26 g2
    obtain ⟨S, r3, _, w3⟩ := DataW.trod_int Try.underlying26 g3
    simp only [List.cons.injEq, and_true] at r2 r3
    subst r2 r3
    have b2 := bounds_u32 w2
    have b3 := bounds_u32 w3
    obtain ⟨P, rfl⟩ := Int.eq_ofNat_of_zero_le b2.1
    obtain ⟨S, rfl⟩ := Int.eq_ofNat_of_zero_le b3.1
    have hd : d = .agg [y0.1, y1.1, y2.1, y3.1] := by have := congrArg Prod.fst hxy; simpa using this
    subst hd
    rw [DataW.weights, Try.underlying28] at hsz
    simp only [List.map_cons, List.map_nil, DataW.weightsEach] at hsz
    have hall := List.all_eq_true.1 hsz
    refine ⟨⟨⟨key, val, P, S⟩, ka, kc, va, vc⟩, rfl, ⟨ik, iv, by simp only []; omega, by simp only []; omega⟩, ?_, ?_⟩
    · rcases sk with h0 | ⟨e, s, hd, hle⟩
      · simp only []; omega
      · have h1 := hall _ (List.mem_append.2 (.inl (by rw [hd]; exact slice_wt e s)))
        have h2 := of_decide_eq_true h1
        unfold reachBytes at h2
        simp only []; omega
    · rcases sv with h0 | ⟨e, s, hd, hle⟩
      · simp only []; omega
      · have h1 := hall _ (List.mem_append.2 (.inr (List.mem_append.2 (.inl (by rw [hd]; exact slice_wt e s)))))
        have h2 := of_decide_eq_true h1
        unfold reachBytes at h2
        simp only []; omega
theorem node_entry (w : World) (a b : Value) (x : En) : ∃ w1, w1 = (w.alloc (.cells #[a, b] 24)).alloc (.cells #[.slice x.ka x.e.key.length x.kc, .slice x.va x.e.val.length x.vc, .int .u32 (x.e.page : Int), .int .u32 (x.e.size : Int)] 28) ∧ Below w.heap.size w w1 ∧ w1.heap[w.heap.size]? = some (.cells #[a, b] 24 (0, 0)) ∧ w1.heap[w.heap.size + 1]? = some (.cells #[.slice x.ka x.e.key.length x.kc, .slice x.va x.e.val.length x.vc, .int .u32 (x.e.page : Int), .int .u32 (x.e.size : Int)] 28 (0, 0)) ∧ w1.heap.size = w.heap.size + 2 := by
  refine ⟨_, rfl, two_alloc _ _, (Below.heap_alloc _ _ _ (by simp)).trans (heap_alloc_new w _), ?_, by simp⟩
  have := heap_alloc_new (w.alloc (.cells #[a, b] 24)) (.cells #[.slice x.ka x.e.key.length x.kc, .slice x.va x.e.val.length x.vc, .int .u32 (x.e.page : Int), .int .u32 (x.e.size : Int)] 28)
  rwa [World.size_alloc] at this
set_option maxHeartbeats 3200000 in
set_option maxRecDepth 1000000 in
theorem walk (leaf : Bool) (a : Option Addr) (n c : Nat) (xs : List En) (x : En) (w : World) (h : Ens w a n c xs) (hs : Szd xs) (hx : x.Ok w) (hx1 : x.e.key.length ≤ 140737488355328) (hx2 : x.e.val.length ≤ 140737488355328) :
    Calls Try.prog 3 #[.agg #[.bool leaf, .slice a n c], .agg #[.slice x.ka x.e.key.length x.kc, .slice x.va x.e.val.length x.vc, .int .u32 (x.e.page : Int), .int .u32 (x.e.size : Int)]] w fun e w' => e = .returned (.bool true) ∧ Below w.heap.size w w' := by
  obtain ⟨w1, hw1, hB, hb0, hb1, hs1⟩ := node_entry w (.bool leaf) (.slice a n c) x
  have HB := hide hB
  have HB0 := hide hb0
  have HB1 := hide hb1
  have HS1 := hide hs1
  have HE := hide h
  have HX := hide hx
  have HM := hide (much_any leaf a n c xs _ (h.below hB) hs)
  obtain ⟨n0, n1, -⟩ := cells_two hb0
  obtain ⟨y0, y1, y2, y3, -⟩ := cells_four hb1
  have hnl := h.len
  rw [hw1] at n0 n1 y0 y1 y2 y3
  clear h hs hx hB hb0 hb1 hs1
  go_enter Try.func3, Try.ntmps3
  go_wp2_with fail
  rw [← hw1] at *
  clear hw1
  refine HM.out.mono ?_
  rintro e w2 ⟨b, rfl, hb, hb2⟩
  have HW2 := hide hb2
  have HBb := hide hb
  have HN2 := hide ((hb2.block _ (lt_of_block HB0.out)).trans HB0.out)
  have HX2 := hide ((hb2.block _ (lt_of_block HB1.out)).trans HB1.out)
  obtain ⟨m0, m1, -⟩ := cells_two HN2.out
  obtain ⟨z0, z1, z2, z3, -⟩ := cells_four HX2.out
  have HBa := hide (HB.out.trans (hb2.mono HB.out.size))
  clear hb hb2 HM n0 n1 y0 y1 y2 y3
  cases b with
  | true =>
    go_wp2_with (go_at_call 5; refine (known_any _).mono ?_; rintro e w3 ⟨rfl, hb3⟩)
    go_ret
    exact ⟨rfl, HBa.out.trans (hb3.mono HBa.out.size)⟩
  | false =>
    by_cases hk2 : x.e.key.length + x.e.val.length ≤ 20000
    · have d1 : ¬ (20000 : Int) < (x.e.key.length : Int) + (x.e.val.length : Int) := by omega
      have HBd := hide (HBb.out rfl)
      go_wp2_with (go_at_call 5; refine (known_any _).mono ?_; rintro e w3 ⟨rfl, hb3⟩; have HN3 := hide ((hb3.block _ (lt_of_block HN2.out)).trans HN2.out); have HX3 := hide ((hb3.block _ (lt_of_block HX2.out)).trans HX2.out); have HB3 := hide (HBa.out.trans (hb3.mono HBa.out.size)); clear m0 m1 z0 z1 z2 z3 hb3; obtain ⟨m0, m1, -⟩ := cells_two HN3.out; obtain ⟨z0, z1, z2, z3, -⟩ := cells_four HX3.out)
      refine (encode_any leaf a n c xs w3 (HE.out.below HB3.out) (by have := HBd.out.1; omega) (by have := HBd.out.2; omega)).mono ?_
      rintro e w4 ⟨a4, n4, c4, rfl, hl4, hb4⟩
      have HN4 := hide ((hb4.block _ (lt_of_block HN3.out)).trans HN3.out)
      have HX4 := hide ((hb4.block _ (lt_of_block HX3.out)).trans HX3.out)
      have HB4 := hide (HB3.out.trans (hb4.mono HB3.out.size))
      clear m0 m1 z0 z1 z2 z3 hb4
      obtain ⟨m0, m1, -⟩ := cells_two HN4.out
      obtain ⟨z0, z1, z2, z3, -⟩ := cells_four HX4.out
      have HLn := hide hnl
      by_cases hc : chk leaf (ers xs) = 0
      · have hn4 := hl4 hc
        subst hn4
        rw [hc]
        clear hl4
        have HCk := hide (fun (W : World) (hW : Below w.heap.size w W) => check_any leaf a n c xs W (HE.out.below hW) (by have := HBd.out.1; omega) (by have := HBd.out.2; omega))
        rw [hc] at HCk
        go_wp2_with fail
        refine (size_any leaf a n c xs _ (HE.out.below HB4.out) (by have := HBd.out.1; omega) (by have := HBd.out.2; omega)).mono ?_
        rintro e w5 ⟨rfl, hb5⟩
        have HN5 := hide ((hb5.block _ (lt_of_block HN4.out)).trans HN4.out)
        have HX5 := hide ((hb5.block _ (lt_of_block HX4.out)).trans HX4.out)
        have HB5 := hide (HB4.out.trans (hb5.mono HB4.out.size))
        clear m0 m1 z0 z1 z2 z3 hb5
        obtain ⟨m0, m1, -⟩ := cells_two HN5.out
        obtain ⟨z0, z1, z2, z3, -⟩ := cells_four HX5.out
        obtain ⟨hA5, hB5, b0, b1, b2, bs⟩ := boxes_enn w5 (.slice x.ka x.e.key.length x.kc) (.slice x.va x.e.val.length x.vc) (.int .u32 (x.e.page : Int)) (.int .u32 (x.e.size : Int)) (.bool leaf) (.slice (some ⟨w5.heap.size, 0, none⟩) 1 1) (.bool leaf) (.slice none 0 0)
        obtain ⟨i0, hi, hz0, hz1, hz2⟩ := info_parts Try.infoE
        have HB6 := hide (HB5.out.trans (hB5.mono HB5.out.size))
        have hlt := lt_of_block HN5.out
        have hlt2 := lt_of_block HX5.out
        obtain ⟨a6, c6, w6, run1, hown6, hb6⟩ := app_first hi hz0 hz1 hz2 (HE.out.below HB6.out) (show n ≤ 1000000 by have := HBd.out.1; omega)
        rw [bs] at hown6 hb6
        have nA := (hA5.block _ hlt).trans HN5.out
        have nB := (hB5.block _ hlt).trans HN5.out
        obtain ⟨p0, p1, -⟩ := cells_two nA
        obtain ⟨q0, q1, -⟩ := cells_two nB
        obtain ⟨q2, q3, -⟩ := cells_two b2
        have n6 := (hb6.block w.heap.size (by omega)).trans nB
        have x6 := (hb6.block (w.heap.size + 1) (by omega)).trans ((hB5.block _ hlt2).trans HX5.out)
        have o6 := (hb6.block w5.heap.size (by omega)).trans b0
        have o6' := (hb6.block (w5.heap.size + 1) (by omega)).trans b1
        have r6 := (hb6.block (w5.heap.size + 1 + 1) (by omega)).trans b2
        have hsz6 : w5.heap.size + 3 ≤ w6.heap.size := by have := hb6.size; omega
        obtain ⟨u0, u1, -⟩ := cells_two r6
        have u2 := frozen_blk (j := 1) r6
        have sne : w.heap.size + 1 ≠ w5.heap.size + 1 + 1 := by omega
        have sne' := Ne.symm sne
        have x7 : (w6.setCell ⟨w5.heap.size + 1 + 1, 1, none⟩ (.slice a6 n c6)).heap[w.heap.size + 1]? = some (.cells #[.slice x.ka x.e.key.length x.kc, .slice x.va x.e.val.length x.vc, .int .u32 (x.e.page : Int), .int .u32 (x.e.size : Int)] 28 (0, 0)) := (Below.heap_setCell _ _ _ _ sne).trans x6
        have r7 := one_set (v := .slice a6 n c6) r6
        obtain ⟨y0, y1, y2, y3, -⟩ := cells_four x6
        obtain ⟨f0, f1, f2, f3, -⟩ := cells_four x7
        obtain ⟨v0, v1, -⟩ := cells_two r7
        have hown7 : (w6.setCell ⟨w5.heap.size + 1 + 1, 1, none⟩ (.slice a6 n c6)).ownsRow (w5.heap.size + 3) 28 4 (.slice a6 n c6) n (rowc xs) := row_of_block hown6 fun k hk => Below.heap_setCell _ _ _ _ (by have := (row_base hown6 hk).1; show k ≠ w5.heap.size + 1 + 1; omega)
        have hown8 := row_of_block (w' := (w6.setCell ⟨w5.heap.size + 1 + 1, 1, none⟩ (.slice a6 n c6)).alloc (.cells #[.slice x.ka x.e.key.length x.kc, .slice x.va x.e.val.length x.vc, .int .u32 (x.e.page : Int), .int .u32 (x.e.size : Int)] 28)) hown7 fun k hk => Below.heap_alloc _ _ _ (row_base hown7 hk).2
        have hsz7 : (w6.setCell ⟨w5.heap.size + 1 + 1, 1, none⟩ (.slice a6 n c6)).heap.size = w6.heap.size := by simp [World.setCell]
        obtain ⟨a9, c9, w9, run2, hown9, hb9⟩ := app_second hi hz0 hz1 hz2 HLn.out hown8 (by simp; omega) (show n ≤ 1000000 by have := HBd.out.1; omega) (box_news _ x)
        rw [hsz7] at run2
        have r9 := (hb9.block (w5.heap.size + 1 + 1) (by omega)).trans ((Below.heap_alloc _ _ _ (by rw [hsz7]; omega)).trans r7)
        have n9 := (hb9.block (w.heap.size) (by omega)).trans ((Below.heap_alloc _ _ _ (by rw [hsz7]; omega)).trans ((Below.heap_setCell _ _ _ _ (by show w.heap.size ≠ w5.heap.size + 1 + 1; omega)).trans n6))
        have o9 := (hb9.block (w5.heap.size) (by omega)).trans ((Below.heap_alloc _ _ _ (by rw [hsz7]; omega)).trans ((Below.heap_setCell _ _ _ _ (by show w5.heap.size ≠ w5.heap.size + 1 + 1; omega)).trans o6))
        have o9' := (hb9.block (w5.heap.size + 1) (by omega)).trans ((Below.heap_alloc _ _ _ (by rw [hsz7]; omega)).trans ((Below.heap_setCell _ _ _ _ (by show w5.heap.size + 1 ≠ w5.heap.size + 1 + 1; omega)).trans o6'))
        obtain ⟨g0, g1, -⟩ := cells_two r9
        have g2 := frozen_blk (j := 1) r9
        have r10 := one_set (v := .slice a9 (n + 1) c9) r9
        have n10 : (w9.setCell ⟨w5.heap.size + 1 + 1, 1, none⟩ (.slice a9 (n + 1) c9)).heap[w.heap.size]? = _ := (Below.heap_setCell _ _ _ _ (by show w.heap.size ≠ w5.heap.size + 1 + 1; omega)).trans n9
        have o10 : (w9.setCell ⟨w5.heap.size + 1 + 1, 1, none⟩ (.slice a9 (n + 1) c9)).heap[w5.heap.size]? = _ := (Below.heap_setCell _ _ _ _ (by show w5.heap.size ≠ w5.heap.size + 1 + 1; omega)).trans o9
        have o10' : (w9.setCell ⟨w5.heap.size + 1 + 1, 1, none⟩ (.slice a9 (n + 1) c9)).heap[w5.heap.size + 1]? = _ := (Below.heap_setCell _ _ _ _ (by show w5.heap.size + 1 ≠ w5.heap.size + 1 + 1; omega)).trans o9'
        have hB10 : Below w.heap.size w (w9.setCell ⟨w5.heap.size + 1 + 1, 1, none⟩ (.slice a9 (n + 1) c9)) := ((((HB6.out.trans (hb6.mono (by omega))).setCell (p := ⟨w5.heap.size + 1 + 1, 1, none⟩) (show w.heap.size ≤ w5.heap.size + 1 + 1 by omega) _).alloc (by rw [hsz7]; omega) _).trans (hb9.mono (by omega))).setCell (p := ⟨w5.heap.size + 1 + 1, 1, none⟩) (show w.heap.size ≤ w5.heap.size + 1 + 1 by omega) _
        have hown10 : (w9.setCell ⟨w5.heap.size + 1 + 1, 1, none⟩ (.slice a9 (n + 1) c9)).ownsRow (w5.heap.size + 3) 28 4 (.slice a9 (n + 1) c9) (n + 1) (rowc (xs ++ [x])) := row_of_block hown9 fun k hk => Below.heap_setCell _ _ _ _ (by have := (row_base hown9 hk).1; show k ≠ w5.heap.size + 1 + 1; omega)
        have hlx : (xs ++ [x]).length = n + 1 := by rw [List.length_append, HLn.out]; rfl
        have hE10 : Ens (w9.setCell ⟨w5.heap.size + 1 + 1, 1, none⟩ (.slice a9 (n + 1) c9)) a9 (n + 1) c9 (xs ++ [x]) := row_ens2 hlx hown10 (by intro y hy; rcases List.mem_append.1 hy with hy | hy; exact (HE.out.each y hy).below hB10; rw [List.mem_singleton.1 hy]; exact HX.out.below hB10)
        have hO10 : Ens (w9.setCell ⟨w5.heap.size + 1 + 1, 1, none⟩ (.slice a9 (n + 1) c9)) (some ⟨w5.heap.size, 0, none⟩) 1 1 [x] := ⟨rfl, Nat.le_refl _, by omega, by (intro e; cases e), .inr ⟨w5.heap.size, 0, rfl, lt_of_block o10, fun j u hu => by obtain ⟨k0, k1, k2, k3, -⟩ := cells_four o10; rw [rowc_one] at hu; (match j, hu with | 0, hu => simp [En.cells] at hu; subst hu; exact k0 | 1, hu => simp [En.cells] at hu; subst hu; exact k1 | 2, hu => simp [En.cells] at hu; subst hu; exact k2 | 3, hu => simp [En.cells] at hu; subst hu; exact k3 | (j + 4), hu => simp [En.cells] at hu)⟩, by intro y hy; rw [List.mem_singleton.1 hy]; exact HX.out.below hB10⟩
        have HR10 := hide r10
        have HN10 := hide n10
        have HO10b := hide o10'
        have HB10 := hide hB10
        have HE10 := hide hE10
        have HO10 := hide hO10
        obtain ⟨h0, h1, -⟩ := cells_two r10
        obtain ⟨h2, h3, -⟩ := cells_two n10
        obtain ⟨h4, h5, -⟩ := cells_two o10'
        clear r10 n10 o10 o10' hB10 hE10 hO10 hown10 hown9 hown8 hown7 hown6 hb9 hb6 r9 n9 o9 o9' n6 x6 o6 o6' r6 x7 r7 nA nB b0 b1 b2 bs hA5 hB5
        go_wp2_with (at_builtin; (first | refine wpList_run_append (by rfl) (.tmp 49) (.tmp 51) 22 (by rfl) (by rfl) (by rfl) run1 ?_ | (refine wpList_run_append (by rfl) (.tmp 55) (.tmp 57) 22 (by rfl) (by rfl) (by rfl) run2 ?_)))
        clear run1 run2 u0 u1 u2 y0 y1 y2 y3 f0 f1 f2 f3 v0 v1 g0 g1 g2 p0 p1 q0 q1 q2 q3 m0 m1 z0 z1 z2 z3 hlx hsz7 hsz6 sne sne'
        generalize (w9.setCell ⟨w5.heap.size + 1 + 1, 1, none⟩ (.slice a9 (n + 1) c9)) = WF at *
        have hl1 : (xs ++ [x]).length ≤ 501 := by have := HBd.out.1; have := HLn.out; rw [List.length_append]; simp; omega
        have hN : ((nsz leaf (ers (xs ++ [x])) : Nat) : Int) = ((nsz leaf (ers xs) : Nat) : Int) + ((nsz leaf (ers [x]) : Nat) : Int) - 2 := by have := nsz_snoc leaf xs x; omega
        have hN1 : nsz leaf (ers xs) ≤ 100000 := by have := nsz_bound leaf (ers xs) 500 20000 (by rw [ers_len]; have := HBd.out.1; have := HLn.out; omega) HBd.out.2; omega
        have hN2 : nsz leaf (ers [x]) ≤ 100000 := by have := nsz_bound leaf (ers [x]) 1 20000 (by rw [ers_len]; simp) (by rw [wts_one]; omega); omega
        have HS1 := hide (size_any leaf a9 (n + 1) c9 (xs ++ [x]) WF.drew (HE10.out.below (Below.refl _ _).drew) (by have := HBd.out.1; omega) (by rw [wts_snoc2]; have := HBd.out.2; omega))
        rw [hN] at HS1
        have HS2 := hide (fun (W : World) (hW : Below WF.heap.size WF W) => size_any leaf a n c xs W (HE.out.below (HB10.out.trans (hW.mono HB10.out.size))) (by have := HBd.out.1; omega) (by have := HBd.out.2; omega))
        have HS3 := hide (fun (W : World) (hW : Below WF.heap.size WF W) => size_any leaf (some ⟨w5.heap.size, 0, none⟩) 1 1 [x] W (HO10.out.below hW) (by omega) (by rw [wts_one]; omega))
        generalize nsz leaf (ers xs) = N1 at *
        generalize nsz leaf (ers [x]) = N2 at *
        have wr1 : IntKind.i64.wrap ((N1 : Int) + (N2 : Int)) = (N1 : Int) + (N2 : Int) := by rw [IntKind.wrap_i64] <;> omega
        have wr2 : IntKind.i64.wrap ((N1 : Int) + (N2 : Int) - 2) = (N1 : Int) + (N2 : Int) - 2 := by rw [IntKind.wrap_i64] <;> omega
        have qe : ((N1 : Int) + (N2 : Int) - 2 == (N1 : Int) + (N2 : Int) - 2) = true := beq_self_eq_true _
        clear hN
        have HSm : Hid (∀ W, Below WF.heap.size WF W → W.cell? ⟨w5.heap.size + 1 + 1, 0, none⟩ = some (.bool leaf) ∧ W.cell? ⟨w5.heap.size + 1 + 1, 1, none⟩ = some (.slice a9 (n + 1) c9) ∧ W.cell? ⟨w.heap.size, 0, none⟩ = some (.bool leaf) ∧ W.cell? ⟨w.heap.size, 1, none⟩ = some (.slice a n c) ∧ W.cell? ⟨w5.heap.size + 1, 0, none⟩ = some (.bool leaf) ∧ W.cell? ⟨w5.heap.size + 1, 1, none⟩ = some (.slice (some ⟨w5.heap.size, 0, none⟩) 1 1)) := hide fun W hW => ⟨one_below1 h0 hW, one_below1 h1 hW, one_below1 h2 hW, one_below1 h3 hW, one_below1 h4 hW, one_below1 h5 hW⟩
        have M1 := hide trivial
        go_wp2
        go_region_held3 (fun W => W.cell? ⟨w5.heap.size + 1 + 1, 0, none⟩ = some (.bool leaf) ∧ W.cell? ⟨w5.heap.size + 1 + 1, 1, none⟩ = some (.slice a9 (n + 1) c9) ∧ W.cell? ⟨w.heap.size, 0, none⟩ = some (.bool leaf) ∧ W.cell? ⟨w.heap.size, 1, none⟩ = some (.slice a n c) ∧ W.cell? ⟨w5.heap.size + 1, 0, none⟩ = some (.bool leaf) ∧ W.cell? ⟨w5.heap.size + 1, 1, none⟩ = some (.slice (some ⟨w5.heap.size, 0, none⟩) 1 1)) ((first | (refine ⟨?_, ?_, ?_, ?_, ?_, ?_⟩ <;> assumption) | exact HSm.out _ ((Below.refl _ _).drew))) ((first | (go_at_call 7; have hmk := M1; clear hmk M1; refine HS1.out.mono ?_; intro r' wa hh; obtain ⟨rfl, hq⟩ := hh; have HBx : Hid (Below WF.heap.size WF wa) := hide ((Below.refl _ _).drew.trans hq); clear hq; have M2 := hide trivial; clear h0 h1 h2 h3 h4 h5; obtain ⟨h0, h1, h2, h3, h4, h5⟩ := HSm.out wa HBx.out) | (go_at_call 7; have hmk := M2; clear hmk M2; refine (HS2.out wa HBx.out).mono ?_; intro r' wb hh; obtain ⟨rfl, hq⟩ := hh; have HBy : Hid (Below WF.heap.size WF wb) := hide (HBx.out.trans (hq.mono HBx.out.size)); clear hq; have M3 := hide trivial; clear h0 h1 h2 h3 h4 h5; obtain ⟨h0, h1, h2, h3, h4, h5⟩ := HSm.out wb HBy.out) | (go_at_call 7; have hmk := M3; clear hmk M3; refine (HS3.out wb HBy.out).mono ?_; intro r' wc hh; obtain ⟨rfl, hq⟩ := hh; have HBz : Hid (Below WF.heap.size WF wc) := hide (HBy.out.trans (hq.mono HBy.out.size)); clear hq; have M4 := hide trivial; clear h0 h1 h2 h3 h4 h5; obtain ⟨h0, h1, h2, h3, h4, h5⟩ := HSm.out wc HBz.out) | (go_at_call 8; have hmk := M4; clear hmk M4; refine (HCk.out wc (HB10.out.trans (HBz.out.mono HB10.out.size))).mono ?_; intro r' wd hh; obtain ⟨rfl, hq⟩ := hh; have HBv : Hid (Below WF.heap.size WF wd) := hide (HBz.out.trans (hq.mono HBz.out.size)); clear hq; clear h0 h1 h2 h3 h4 h5; obtain ⟨h0, h1, h2, h3, h4, h5⟩ := HSm.out wd HBv.out)))
        go_wp2
        go_ret
        exact ⟨rfl, HB10.out.trans (HBv.out.mono HB10.out.size)⟩
      · have hc' : ¬ ((chk leaf (ers xs) : Nat) : Int) = 0 := by omega
        have HCk := hide (fun (W : World) (hW : Below w.heap.size w W) => check_any leaf a n c xs W (HE.out.below hW) (by have := HBd.out.1; omega) (by have := HBd.out.2; omega))
        obtain ⟨hA5, hB5, b0, b1, b2, bs⟩ := boxes_enn w4 (.slice x.ka x.e.key.length x.kc) (.slice x.va x.e.val.length x.vc) (.int .u32 (x.e.page : Int)) (.int .u32 (x.e.size : Int)) (.bool leaf) (.slice (some ⟨w4.heap.size, 0, none⟩) 1 1) (.bool leaf) (.slice none 0 0)
        obtain ⟨i0, hi, hz0, hz1, hz2⟩ := info_parts Try.infoE
        have HB6 := hide (HB4.out.trans (hB5.mono HB4.out.size))
        have hlt := lt_of_block HN4.out
        have hlt2 := lt_of_block HX4.out
        obtain ⟨a6, c6, w6, run1, hown6, hb6⟩ := app_first hi hz0 hz1 hz2 (HE.out.below HB6.out) (show n ≤ 1000000 by have := HBd.out.1; omega)
        rw [bs] at hown6 hb6
        have nA := (hA5.block _ hlt).trans HN4.out
        have nB := (hB5.block _ hlt).trans HN4.out
        obtain ⟨p0, p1, -⟩ := cells_two nA
        obtain ⟨q0, q1, -⟩ := cells_two nB
        obtain ⟨q2, q3, -⟩ := cells_two b2
        have n6 := (hb6.block w.heap.size (by omega)).trans nB
        have x6 := (hb6.block (w.heap.size + 1) (by omega)).trans ((hB5.block _ hlt2).trans HX4.out)
        have o6 := (hb6.block w4.heap.size (by omega)).trans b0
        have o6' := (hb6.block (w4.heap.size + 1) (by omega)).trans b1
        have r6 := (hb6.block (w4.heap.size + 1 + 1) (by omega)).trans b2
        have hsz6 : w4.heap.size + 3 ≤ w6.heap.size := by have := hb6.size; omega
        obtain ⟨u0, u1, -⟩ := cells_two r6
        have u2 := frozen_blk (j := 1) r6
        have sne : w.heap.size + 1 ≠ w4.heap.size + 1 + 1 := by omega
        have sne' := Ne.symm sne
        have x7 : (w6.setCell ⟨w4.heap.size + 1 + 1, 1, none⟩ (.slice a6 n c6)).heap[w.heap.size + 1]? = some (.cells #[.slice x.ka x.e.key.length x.kc, .slice x.va x.e.val.length x.vc, .int .u32 (x.e.page : Int), .int .u32 (x.e.size : Int)] 28 (0, 0)) := (Below.heap_setCell _ _ _ _ sne).trans x6
        have r7 := one_set (v := .slice a6 n c6) r6
        obtain ⟨y0, y1, y2, y3, -⟩ := cells_four x6
        obtain ⟨f0, f1, f2, f3, -⟩ := cells_four x7
        obtain ⟨v0, v1, -⟩ := cells_two r7
        have hown7 : (w6.setCell ⟨w4.heap.size + 1 + 1, 1, none⟩ (.slice a6 n c6)).ownsRow (w4.heap.size + 3) 28 4 (.slice a6 n c6) n (rowc xs) := row_of_block hown6 fun k hk => Below.heap_setCell _ _ _ _ (by have := (row_base hown6 hk).1; show k ≠ w4.heap.size + 1 + 1; omega)
        have hown8 := row_of_block (w' := (w6.setCell ⟨w4.heap.size + 1 + 1, 1, none⟩ (.slice a6 n c6)).alloc (.cells #[.slice x.ka x.e.key.length x.kc, .slice x.va x.e.val.length x.vc, .int .u32 (x.e.page : Int), .int .u32 (x.e.size : Int)] 28)) hown7 fun k hk => Below.heap_alloc _ _ _ (row_base hown7 hk).2
        have hsz7 : (w6.setCell ⟨w4.heap.size + 1 + 1, 1, none⟩ (.slice a6 n c6)).heap.size = w6.heap.size := by simp [World.setCell]
        obtain ⟨a9, c9, w9, run2, hown9, hb9⟩ := app_second hi hz0 hz1 hz2 HLn.out hown8 (by simp; omega) (show n ≤ 1000000 by have := HBd.out.1; omega) (box_news _ x)
        rw [hsz7] at run2
        have r9 := (hb9.block (w4.heap.size + 1 + 1) (by omega)).trans ((Below.heap_alloc _ _ _ (by rw [hsz7]; omega)).trans r7)
        have n9 := (hb9.block (w.heap.size) (by omega)).trans ((Below.heap_alloc _ _ _ (by rw [hsz7]; omega)).trans ((Below.heap_setCell _ _ _ _ (by show w.heap.size ≠ w4.heap.size + 1 + 1; omega)).trans n6))
        have o9 := (hb9.block (w4.heap.size) (by omega)).trans ((Below.heap_alloc _ _ _ (by rw [hsz7]; omega)).trans ((Below.heap_setCell _ _ _ _ (by show w4.heap.size ≠ w4.heap.size + 1 + 1; omega)).trans o6))
        have o9' := (hb9.block (w4.heap.size + 1) (by omega)).trans ((Below.heap_alloc _ _ _ (by rw [hsz7]; omega)).trans ((Below.heap_setCell _ _ _ _ (by show w4.heap.size + 1 ≠ w4.heap.size + 1 + 1; omega)).trans o6'))
        obtain ⟨g0, g1, -⟩ := cells_two r9
        have g2 := frozen_blk (j := 1) r9
        have r10 := one_set (v := .slice a9 (n + 1) c9) r9
        have n10 : (w9.setCell ⟨w4.heap.size + 1 + 1, 1, none⟩ (.slice a9 (n + 1) c9)).heap[w.heap.size]? = _ := (Below.heap_setCell _ _ _ _ (by show w.heap.size ≠ w4.heap.size + 1 + 1; omega)).trans n9
        have o10 : (w9.setCell ⟨w4.heap.size + 1 + 1, 1, none⟩ (.slice a9 (n + 1) c9)).heap[w4.heap.size]? = _ := (Below.heap_setCell _ _ _ _ (by show w4.heap.size ≠ w4.heap.size + 1 + 1; omega)).trans o9
        have o10' : (w9.setCell ⟨w4.heap.size + 1 + 1, 1, none⟩ (.slice a9 (n + 1) c9)).heap[w4.heap.size + 1]? = _ := (Below.heap_setCell _ _ _ _ (by show w4.heap.size + 1 ≠ w4.heap.size + 1 + 1; omega)).trans o9'
        have hB10 : Below w.heap.size w (w9.setCell ⟨w4.heap.size + 1 + 1, 1, none⟩ (.slice a9 (n + 1) c9)) := ((((HB6.out.trans (hb6.mono (by omega))).setCell (p := ⟨w4.heap.size + 1 + 1, 1, none⟩) (show w.heap.size ≤ w4.heap.size + 1 + 1 by omega) _).alloc (by rw [hsz7]; omega) _).trans (hb9.mono (by omega))).setCell (p := ⟨w4.heap.size + 1 + 1, 1, none⟩) (show w.heap.size ≤ w4.heap.size + 1 + 1 by omega) _
        have hown10 : (w9.setCell ⟨w4.heap.size + 1 + 1, 1, none⟩ (.slice a9 (n + 1) c9)).ownsRow (w4.heap.size + 3) 28 4 (.slice a9 (n + 1) c9) (n + 1) (rowc (xs ++ [x])) := row_of_block hown9 fun k hk => Below.heap_setCell _ _ _ _ (by have := (row_base hown9 hk).1; show k ≠ w4.heap.size + 1 + 1; omega)
        have hlx : (xs ++ [x]).length = n + 1 := by rw [List.length_append, HLn.out]; rfl
        have hE10 : Ens (w9.setCell ⟨w4.heap.size + 1 + 1, 1, none⟩ (.slice a9 (n + 1) c9)) a9 (n + 1) c9 (xs ++ [x]) := row_ens2 hlx hown10 (by intro y hy; rcases List.mem_append.1 hy with hy | hy; exact (HE.out.each y hy).below hB10; rw [List.mem_singleton.1 hy]; exact HX.out.below hB10)
        have hO10 : Ens (w9.setCell ⟨w4.heap.size + 1 + 1, 1, none⟩ (.slice a9 (n + 1) c9)) (some ⟨w4.heap.size, 0, none⟩) 1 1 [x] := ⟨rfl, Nat.le_refl _, by omega, by (intro e; cases e), .inr ⟨w4.heap.size, 0, rfl, lt_of_block o10, fun j u hu => by obtain ⟨k0, k1, k2, k3, -⟩ := cells_four o10; rw [rowc_one] at hu; (match j, hu with | 0, hu => simp [En.cells] at hu; subst hu; exact k0 | 1, hu => simp [En.cells] at hu; subst hu; exact k1 | 2, hu => simp [En.cells] at hu; subst hu; exact k2 | 3, hu => simp [En.cells] at hu; subst hu; exact k3 | (j + 4), hu => simp [En.cells] at hu)⟩, by intro y hy; rw [List.mem_singleton.1 hy]; exact HX.out.below hB10⟩
        have HR10 := hide r10
        have HN10 := hide n10
        have HO10b := hide o10'
        have HB10 := hide hB10
        have HE10 := hide hE10
        have HO10 := hide hO10
        obtain ⟨h0, h1, -⟩ := cells_two r10
        obtain ⟨h2, h3, -⟩ := cells_two n10
        obtain ⟨h4, h5, -⟩ := cells_two o10'
        clear r10 n10 o10 o10' hB10 hE10 hO10 hown10 hown9 hown8 hown7 hown6 hb9 hb6 r9 n9 o9 o9' n6 x6 o6 o6' r6 x7 r7 nA nB b0 b1 b2 bs hA5 hB5
        go_wp2_with (at_builtin; (first | refine wpList_run_append (by rfl) (.tmp 49) (.tmp 51) 22 (by rfl) (by rfl) (by rfl) run1 ?_ | (refine wpList_run_append (by rfl) (.tmp 55) (.tmp 57) 22 (by rfl) (by rfl) (by rfl) run2 ?_)))
        clear run1 run2 u0 u1 u2 y0 y1 y2 y3 f0 f1 f2 f3 v0 v1 g0 g1 g2 p0 p1 q0 q1 q2 q3 m0 m1 z0 z1 z2 z3 hlx hsz7 hsz6 sne sne'
        generalize (w9.setCell ⟨w4.heap.size + 1 + 1, 1, none⟩ (.slice a9 (n + 1) c9)) = WF at *
        have hl1 : (xs ++ [x]).length ≤ 501 := by have := HBd.out.1; have := HLn.out; rw [List.length_append]; simp; omega
        have hN : ((nsz leaf (ers (xs ++ [x])) : Nat) : Int) = ((nsz leaf (ers xs) : Nat) : Int) + ((nsz leaf (ers [x]) : Nat) : Int) - 2 := by have := nsz_snoc leaf xs x; omega
        have hN1 : nsz leaf (ers xs) ≤ 100000 := by have := nsz_bound leaf (ers xs) 500 20000 (by rw [ers_len]; have := HBd.out.1; have := HLn.out; omega) HBd.out.2; omega
        have hN2 : nsz leaf (ers [x]) ≤ 100000 := by have := nsz_bound leaf (ers [x]) 1 20000 (by rw [ers_len]; simp) (by rw [wts_one]; omega); omega
        have HS1 := hide (size_any leaf a9 (n + 1) c9 (xs ++ [x]) WF.drew (HE10.out.below (Below.refl _ _).drew) (by have := HBd.out.1; omega) (by rw [wts_snoc2]; have := HBd.out.2; omega))
        rw [hN] at HS1
        have HS2 := hide (fun (W : World) (hW : Below WF.heap.size WF W) => size_any leaf a n c xs W (HE.out.below (HB10.out.trans (hW.mono HB10.out.size))) (by have := HBd.out.1; omega) (by have := HBd.out.2; omega))
        have HS3 := hide (fun (W : World) (hW : Below WF.heap.size WF W) => size_any leaf (some ⟨w4.heap.size, 0, none⟩) 1 1 [x] W (HO10.out.below hW) (by omega) (by rw [wts_one]; omega))
        generalize nsz leaf (ers xs) = N1 at *
        generalize nsz leaf (ers [x]) = N2 at *
        have wr1 : IntKind.i64.wrap ((N1 : Int) + (N2 : Int)) = (N1 : Int) + (N2 : Int) := by rw [IntKind.wrap_i64] <;> omega
        have wr2 : IntKind.i64.wrap ((N1 : Int) + (N2 : Int) - 2) = (N1 : Int) + (N2 : Int) - 2 := by rw [IntKind.wrap_i64] <;> omega
        have qe : ((N1 : Int) + (N2 : Int) - 2 == (N1 : Int) + (N2 : Int) - 2) = true := beq_self_eq_true _
        clear hN
        have HSm : Hid (∀ W, Below WF.heap.size WF W → W.cell? ⟨w4.heap.size + 1 + 1, 0, none⟩ = some (.bool leaf) ∧ W.cell? ⟨w4.heap.size + 1 + 1, 1, none⟩ = some (.slice a9 (n + 1) c9) ∧ W.cell? ⟨w.heap.size, 0, none⟩ = some (.bool leaf) ∧ W.cell? ⟨w.heap.size, 1, none⟩ = some (.slice a n c) ∧ W.cell? ⟨w4.heap.size + 1, 0, none⟩ = some (.bool leaf) ∧ W.cell? ⟨w4.heap.size + 1, 1, none⟩ = some (.slice (some ⟨w4.heap.size, 0, none⟩) 1 1)) := hide fun W hW => ⟨one_below1 h0 hW, one_below1 h1 hW, one_below1 h2 hW, one_below1 h3 hW, one_below1 h4 hW, one_below1 h5 hW⟩
        have M1 := hide trivial
        go_wp2
        go_region_held3 (fun W => W.cell? ⟨w4.heap.size + 1 + 1, 0, none⟩ = some (.bool leaf) ∧ W.cell? ⟨w4.heap.size + 1 + 1, 1, none⟩ = some (.slice a9 (n + 1) c9) ∧ W.cell? ⟨w.heap.size, 0, none⟩ = some (.bool leaf) ∧ W.cell? ⟨w.heap.size, 1, none⟩ = some (.slice a n c) ∧ W.cell? ⟨w4.heap.size + 1, 0, none⟩ = some (.bool leaf) ∧ W.cell? ⟨w4.heap.size + 1, 1, none⟩ = some (.slice (some ⟨w4.heap.size, 0, none⟩) 1 1)) ((first | (refine ⟨?_, ?_, ?_, ?_, ?_, ?_⟩ <;> assumption) | exact HSm.out _ ((Below.refl _ _).drew))) ((first | (go_at_call 7; have hmk := M1; clear hmk M1; refine HS1.out.mono ?_; intro r' wa hh; obtain ⟨rfl, hq⟩ := hh; have HBx : Hid (Below WF.heap.size WF wa) := hide ((Below.refl _ _).drew.trans hq); clear hq; have M2 := hide trivial; clear h0 h1 h2 h3 h4 h5; obtain ⟨h0, h1, h2, h3, h4, h5⟩ := HSm.out wa HBx.out) | (go_at_call 7; have hmk := M2; clear hmk M2; refine (HS2.out wa HBx.out).mono ?_; intro r' wb hh; obtain ⟨rfl, hq⟩ := hh; have HBy : Hid (Below WF.heap.size WF wb) := hide (HBx.out.trans (hq.mono HBx.out.size)); clear hq; have M3 := hide trivial; clear h0 h1 h2 h3 h4 h5; obtain ⟨h0, h1, h2, h3, h4, h5⟩ := HSm.out wb HBy.out) | (go_at_call 7; have hmk := M3; clear hmk M3; refine (HS3.out wb HBy.out).mono ?_; intro r' wc hh; obtain ⟨rfl, hq⟩ := hh; have HBz : Hid (Below WF.heap.size WF wc) := hide (HBy.out.trans (hq.mono HBy.out.size)); clear hq; have M4 := hide trivial; clear h0 h1 h2 h3 h4 h5; obtain ⟨h0, h1, h2, h3, h4, h5⟩ := HSm.out wc HBz.out) | (go_at_call 8; have hmk := M4; clear hmk M4; refine (HCk.out wc (HB10.out.trans (HBz.out.mono HB10.out.size))).mono ?_; intro r' wd hh; obtain ⟨rfl, hq⟩ := hh; have HBv : Hid (Below WF.heap.size WF wd) := hide (HBz.out.trans (hq.mono HBz.out.size)); clear hq; clear h0 h1 h2 h3 h4 h5; obtain ⟨h0, h1, h2, h3, h4, h5⟩ := HSm.out wd HBv.out)))
        go_wp2
        go_ret
        exact ⟨rfl, HB10.out.trans (HBv.out.mono HB10.out.size)⟩
    · have d1 : (20000 : Int) < (x.e.key.length : Int) + (x.e.val.length : Int) := by omega
      go_wp2_with (go_at_call 5; refine (known_any _).mono ?_; rintro e w3 ⟨rfl, hb3⟩)
      go_ret
      exact ⟨rfl, HBa.out.trans (hb3.mono HBa.out.size)⟩
set_option maxHeartbeats 1600000 in
set_option maxRecDepth 100000 in
theorem lifted (os : Os) (started : os.Started) (H : Type) (enc : TypeId × Value → H) :
    ReturnsInHanded {} Try.checked os 3 .any (Rows.nodeSizesSpec.pre6 enc Try.prog Try.f3 Rows.nodeSizesRow.domain false) (Rows.nodeSizesSpec.post enc Try.prog Try.f3 false true false false) := by
  refine returnsInHanded_of_change_sized (C := Try.checked) own started (by kernel_rfl) Try.func3
    (ChangeSpec.witness6 (enc := enc) (C := Try.checked) false ⟨#[], #[.agg #[.bool false, .slice none 0 0], .agg #[.slice none 0 0, .slice none 0 0, .int .u32 0, .int .u32 0]], []⟩ 8 (by kernel_rfl) (by kernel_rfl) (by kernel_rfl) (by kernel_rfl)) ?_
  intro W base args ds gs before hval0 hW hcnd hsz0 _
  have hval : ∀ (j : Nat) t v, Try.f3.params[j]? = some t → args[j]? = some v → Value.okWide Try.prog W .any base t v := hval0
  have hsz : (DataW.weightsEach Try.prog (Try.f3.params.toList ++ Rows.nodeSizesSpec.plain.varTypes Try.prog) (ds ++ gs)).all (· ≤ reachBytes) = true := hsz0
  have hW' := hW
  obtain ⟨p, q, hA0, hV, rfl, hfz, hnd⟩ := hW
  have hA : DataW.TrodAll enc Try.prog W 0 (fun _ => true) true Try.f3.params.toList args.toList ds p := hA0
  rw [Try.params3] at hA hval hsz
  obtain ⟨v0, vs0, d0, ds0, p0, q0, hargs, rfl, rfl, h0, r0⟩ := trodAll_cons hA
  obtain ⟨v1, vs1, d1, ds1, p1, q1, rfl, rfl, rfl, h1, r1⟩ := trodAll_cons r0
  obtain ⟨rfl, rfl, rfl⟩ := trodAll_nil r1
  obtain rfl : args = #[v0, v1] := by cases args; simp_all
  obtain ⟨rfl, rfl⟩ := trodVars_none hV
  have k0 := h0
  have lt0 : ∀ x ∈ p0, x.block < W.heap.size := by obtain ⟨m, hm⟩ := k0; exact DataW.trod_lt m _ _ _ hm
  have s0 : (d0.weights Try.prog 24).all (· ≤ reachBytes) = true := List.all_eq_true.2 fun n hn => List.all_eq_true.1 hsz n (List.mem_append.2 (.inl hn))
  obtain ⟨leaf0, a0, len0, cap0, xs0, rfl, w0, z0⟩ := node_open (hval 0 24 v0 rfl rfl) h0 s0
  have k1 := h1
  have lt1 : ∀ x ∈ p1, x.block < W.heap.size := by obtain ⟨m, hm⟩ := k1; exact DataW.trod_lt m _ _ _ hm
  have s1 : (d1.weights Try.prog 28).all (· ≤ reachBytes) = true := List.all_eq_true.2 fun n hn => List.all_eq_true.1 hsz n (List.mem_append.2 (.inr (List.mem_append.2 (.inl hn))))
  obtain ⟨x1, rfl, w1, u1, t1⟩ := entry_open (hval 1 28 v1 rfl rfl) h1 s1
  clear hA0 hval0
  have hwk := walk leaf0 a0 len0 cap0 xs0 x1 W w0 z0 w1 u1 t1
  refine hwk.mono fun e W' ⟨he, bel⟩ => ?_
  subst he
  exact ⟨_, rfl, _, _, _, [], _, [], hW', trodAll_mk1 (shut_bool Try.underlying4 _), (trodAll_cons_mk (Below.trod laidOut (by kernel_rfl) (of_decide_eq_true (by kernel_rfl)) k0 bel lt0) (trodAll_cons_mk (Below.trod laidOut (by kernel_rfl) (of_decide_eq_true (by kernel_rfl)) k1 bel lt1) trodAll_mk0)), rfl, bel.frame _, fun h => by cases h⟩

theorem over : Rows.nodeSizesRow.holds Try.pinned (OpenSpec.ofChange Rows.nodeSizesSpec) :=
  OpenClaim.holds_of_wide 3 Try.f3 rfl rfl rfl rfl rfl rfl rfl ⟨rfl, rfl, rfl, rfl, rfl⟩ rfl rfl rfl rfl rfl (by kernel_rfl) Try.func3 (by kernel_rfl)
    (of_decide_eq_true (by kernel_rfl)) (by unfold Func.isWrapper; first | (rw [if_pos (by decide +kernel)]; kernel_rfl) | (rw [if_neg (by decide +kernel)]; exact ⟨rfl, rfl⟩))
    (fun os started H enc _ => lifted os started H enc)

end Go.Proofs.Ytepaohiacfmabab.Sizes
namespace Go.Proofs.Ytepaohiacfmabab
theorem nodeSizes_holds : Rows.NodeSizesSaid := Sizes.over
#print axioms nodeSizes_holds
end Go.Proofs.Ytepaohiacfmabab
