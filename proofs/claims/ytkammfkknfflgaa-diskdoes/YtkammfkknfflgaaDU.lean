/- What the chapter's first examples fix. -/
import Derived.Test.YtkammfkknfflgaaDT
namespace Go.Proofs.Ytkammfkknfflgaa
open Go.RowKit Go.Maps
set_option linter.unusedVariables false

theorem own_sixteen {w : World} {v : Value} (h : OwnI w v (List.range 16)) : ∃ g c, v = .slice (some ⟨g, 0, none⟩) 16 c := by
  rcases h.2 with ⟨_, e⟩ | ⟨g, cap, cur, e, _⟩
  · simp at e
  · exact ⟨g, cap, by simpa using e⟩
theorem own_page {w : World} {v : Value} {zs : List Int} (h : Own w v zs) (hz : zs.length = 1024) : ∃ g c, v = .slice (some ⟨g, 0, none⟩) 1024 c := by
  rcases h.2 with ⟨_, e⟩ | ⟨g, cap, cur, e, _⟩
  · omega
  · exact ⟨g, cap, by rw [← hz]; exact e⟩
theorem ownI_at {w : World} {g c n : Nat} {zs : List Nat} (h : OwnI w (.slice (some ⟨g, 0, none⟩) n c) zs) (i : Nat) (hi : i < zs.length) : w.cell? ⟨g, i, none⟩ = some (.int .i64 ((zs.getD i 0 : Nat) : Int)) := by
  have hn : n = zs.length := by
    rcases h.2 with ⟨e, _⟩ | ⟨g', cap, cur, e, _⟩
    · cases e
    · cases e; rfl
  subst hn
  have := World.ownsRow.cells h (g := g) rfl i (.int .i64 ((zs.getD i 0 : Nat) : Int)) (by simp [hi])
  rwa [Addr.add_lit, Nat.zero_add] at this
theorem brow_new (w : World) : BRow (w.alloc (.cells #[.bool true] 4)) (some ⟨w.heap.size, 0, none⟩) [true] := by
  refine .inr ⟨w.heap.size, 0, rfl, by rw [size_al]; exact Nat.lt_succ_self _, fun i hi => ?_⟩
  have e : i = 0 := by simpa using hi
  subst e
  exact cell_new w (.bool true) 4
theorem build82' (a b : Int) (W : World) : (Instr.build 80 #[(0, .int .i64 a), (1, .int .i64 b)]).run Try.prog W = .ok (.agg #[.int .i64 a, .int .i64 b, .int .i64 0]) W := run_build W 80 _ _ (by kernel_rfl)
theorem row_cells {w : World} {b n : Nat} {c : Int} (h : Row w (some ⟨b, 0, none⟩) (List.replicate n c)) : ∀ j u, ((List.replicate n c).map (Value.int .u8))[j]? = some u → w.cell? ((⟨b, 0, none⟩ : Addr).add j) = some u := fun j u hu => by
  have hj : j < n := by have := (List.getElem?_eq_some_iff.1 hu).1; simpa using this
  rcases h with h | ⟨b', off, e, _, hc⟩
  · have := congrArg List.length h; simp at this; omega
  · cases e
    rw [Addr.add_lit, hc j (by simpa using hj), ← hu]
    simp [hj]
theorem own_row {w : World} {g n c : Nat} {zs : List Int} (h : Own w (.slice (some ⟨g, 0, none⟩) n c) zs) : Row w (some ⟨g, 0, none⟩) zs := by
  obtain ⟨a, c', e, _, _, _, hr, _⟩ := h.shape
  cases e
  exact hr
theorem sameB_self (xs : List Int) : sameB xs xs = true := by simp [sameB]
theorem own_grown {w w' : World} {v : Value} {zs : List Int} {r : Option Nat} (h : Own w v zs) (hg : w.grownBy w' r) (hne : ∀ k, v.ownBlock = some k → r ≠ some k) : Own w' v zs :=
  h.of_block fun k hk => hg.block k (h.lt hk) (fun e => hne k hk e.symm)
theorem wpList_append_zeros {w : World} {ops : Array Oper} {rest : List Oper} {o : Oper} {a : Act} {Q : Exit → Act → World → Prop} (hgd : o.guard = none) (s x : Operand) (n : Nat) (I : Int) (ho : o.op = .call { callee := .builtin .append, args := #[s, x], argTypes := #[63, 3] }) (hI : I = (n : Int))
    (v : Value) (zs : List Int) (hs : a.eval s = v) (hx : a.eval x = .int .i64 I) (hown : Own w v zs) (h0 : 0 < n) (hn : n ≤ 100000) (hp : 0 < zs.length) (hl : zs.length ≤ 100000)
    (h : ∀ v' w', Own w' v' (zs ++ List.replicate n 0) → w.grownBy w' v.ownBlock → (∀ k, v'.ownBlock = some k → v.ownBlock = some k ∨ w.heap.size ≤ k) → wpList Try.prog ops Q rest (a.put o.dst v') w') : wpList Try.prog ops Q (o :: rest) a w := by
  subst hI
  refine wpList_plain hgd fun K hK => ?_
  obtain ⟨v', w', hr, h2, h3, h4⟩ := run_append_zeros w o.type v zs hown n h0 hn hp hl
  unfold Oper.wp execOp
  simp only [ho, resolve, invoke, builtin, Sem.run_bind, Sem.run_pure, Result.andThen_ok, List.map_toArray, List.map_cons, List.map_nil, hs, hx, hr]
  exact hK _ _ (h v' w' h2 h3 h4)
set_option maxHeartbeats 6400000 in
set_option maxRecDepth 1000000 in
theorem known_any (w : World) : Calls Try.prog 5 #[] w fun e w' => e = .returned (.bool true) ∧ Below w.heap.size w w' := by
  obtain ⟨i0, hi, hz0, hz1, hz2⟩ := info_parts Try.info5
  go_enter Try.func5, Try.ntmps5
  go_wp2_with fail
  refine (new_at 2 2 w rfl (by omega) (by omega)).mono ?_
  rintro e w1 ⟨O1, p, q, rfl, hd, hf⟩
  have HD1 : Hid (DkAt w1 p q K0 O1) := hd
  have HF1 := hide hf
  clear hd hf
  go_wp2_with fail
  refine (filled_at 1024 1024 97 w1 rfl (by omega)).mono ?_
  rintro e w2 ⟨rfl, hrow, hlt, hb⟩
  have HR2 := hide hrow
  have hlt2 := hlt
  have HD2 := hide (HD1.out.below hb)
  have HF2 := hide (HF1.out.on hb)
  have HNo2 : Hid (¬ O1 w1.heap.size) := fun h => by have := HD1.out.lt _ h; omega
  clear hrow hlt hb
  go_wp2_with fail
  refine (write_ok p q O1 K0 0 0 w1.heap.size 1024 97 8 w2 HD2.out rfl (by omega) HNo2.out HR2.out hlt2 (by rw [k0.2.1]; omega) (by rw [k0.2.1]) (by omega) (by rw [k0.2.2.1]; omega) (by rw [k0.2.2.2]; omega) k0.1).mono ?_
  rintro e w3 ⟨rfl, O3, hd, hg⟩
  have HD3 : Hid (DkAt w3 p q K1 O3) := hd
  have HF3 := hide (HF2.out.go hg)
  clear hd hg HR2 hlt2 HNo2 HD2 HF2 HD1 HF1
  go_wp2_with fail
  refine (filled_at 1024 1024 98 w3 rfl (by omega)).mono ?_
  rintro e w4 ⟨rfl, hrow, hlt, hb⟩
  have HR4 := hide hrow
  have hlt4 := hlt
  have HD4 := hide (HD3.out.below hb)
  have HF4 := hide (HF3.out.on hb)
  have HNo4 : Hid (¬ O3 w3.heap.size) := fun h => by have := HD3.out.lt _ h; omega
  clear hrow hlt hb
  go_wp2_with fail
  refine (write_ok p q O3 K1 1 1 w3.heap.size 1024 98 8 w4 HD4.out rfl (by omega) HNo4.out HR4.out hlt4 (by rw [k1.2.1]; omega) (by rw [k1.2.1]) (by omega) (by rw [k1.2.2.1]; omega) (by rw [k1.2.2.2]; omega) k1.1).mono ?_
  rintro e w5 ⟨rfl, O5, hd, hg⟩
  have HD5 : Hid (DkAt w5 p q K2 O5) := hd
  have HF5 := hide (HF4.out.go hg)
  clear hd hg HR4 hlt4 HNo4 HD4 HF4 HD3 HF3
  go_wp2_with fail
  refine (pending_any p q O5 K2 w5 HD5.out).mono ?_
  rintro e w6 ⟨vp, rfl, hown, hnew, hb⟩
  rw [k2] at hown
  obtain ⟨pa, pc, rfl⟩ := own_sixteen hown
  have HOp6 := hide hown
  have HAp6 : Hid (Ap w6 O5 (.slice (some ⟨pa, 0, none⟩) 16 pc)) := fun k hk => ⟨(World.ownsRow.lt hown k hk).2, fun ho => by have h1 := HD5.out.lt k ho; have h2 := hnew k hk; omega⟩
  have HD6 := hide (HD5.out.below hb)
  have HF6 := hide (HF5.out.on hb)
  clear hown hnew hb HD5 HF5
  have HB6 := hide (below_alloc w6 (.cells #[.bool true] 4))
  have HNb : Hid (¬ O5 w6.heap.size) := fun h => by have := HD6.out.lt _ h; omega
  go_wp2_with fail
  refine (cut_any p q O5 K2 (some ⟨w6.heap.size, 0, none⟩) 1 [true] _ (HD6.out.below HB6.out) (brow_new w6) (fun _ ad e => by cases e; exact HNb.out) (fun _ ad e => by cases e; rw [size_al]; exact Nat.lt_succ_self _) (by decide)).mono ?_
  rintro e w7 ⟨rfl, O7, hd, hg'⟩
  have hg := (Go1.of_below (O := O5) HB6.out).trans hg'
  have HD7 : Hid (DkAt w7 p q K3 O7) := hd
  have HF7 := hide (HF6.out.go hg)
  have HOp7 := hide (HOp6.out.go HAp6.out hg)
  have HAp7 := hide (HAp6.out.go hg)
  clear HOp6 HAp6
  clear hd hg hg' HD6 HF6 HB6 HNb
  go_wp2_with fail
  refine (read_ok p q O7 K3 0 0 w7 HD7.out rfl (by rw [k3.2.1]; omega) (by rw [k3.2.2.1]; omega) k3.1).mono ?_
  rintro e w8 ⟨vx, rfl, hown, hap, hnew, hd, hg⟩
  rw [show 8 * 0 = 0 from rfl, k3r] at hown
  obtain ⟨xa, xc, rfl⟩ := own_page hown (by simp)
  have HD8 : Hid (DkAt w8 p q K4 O7) := hd
  have HF8 := hide (HF7.out.go hg)
  have HOp8 := hide (HOp7.out.go HAp7.out hg)
  have HAp8 := hide (HAp7.out.go hg)
  clear HOp7 HAp7
  have HOx8 := hide hown
  have HAx8 := hide hap
  clear hown hap hnew hd hg HD7 HF7
  go_wp2_with fail
  refine (fail2_any p q O7 K4 0 w8 HD8.out (by omega) (by omega) k4).mono ?_
  rintro e w9 ⟨rfl, hd, hg⟩
  have HD9 : Hid (DkAt w9 p q K5 O7) := hd
  have HF9 := hide (HF8.out.go hg)
  have HOp9 := hide (HOp8.out.go HAp8.out hg)
  have HAp9 := hide (HAp8.out.go hg)
  clear HOp8 HAp8
  have HOx9 := hide (HOx8.out.go HAx8.out hg)
  have HAx9 := hide (HAx8.out.go hg)
  clear HOx8 HAx8
  clear hd hg HD8 HF8
  go_wp2_with fail
  refine (filled_at 128 128 99 w9 rfl (by omega)).mono ?_
  rintro e w10 ⟨rfl, hrow, hlt, hb⟩
  have HR10 := hide hrow
  have hlt10 := hlt
  have HD10 := hide (HD9.out.below hb)
  have HF10 := hide (HF9.out.on hb)
  have HNo10 : Hid (¬ O7 w9.heap.size) := fun h => by have := HD9.out.lt _ h; omega
  have HOp10 := hide (HOp9.out.on hb)
  have HAp10 := hide (HAp9.out.on hb)
  clear HOp9 HAp9
  have HOx10 := hide (HOx9.out.on hb)
  have HAx10 := hide (HAx9.out.on hb)
  clear HOx9 HAx9
  clear hrow hlt hb
  go_wp2_with fail
  refine (write_io p q O7 K5 0 0 w9.heap.size 128 99 1 w10 HD10.out rfl (by omega) HNo10.out HR10.out hlt10 (by rw [k5.2.1]; omega) (by rw [k5.2.1]) (by omega) (by rw [k5.2.2.1]; omega) (by rw [k5.2.2.2]; omega) k5.1).mono ?_
  rintro e w11 ⟨rfl, O11, hd, hg⟩
  have HD11 : Hid (DkAt w11 p q K6 O11) := hd
  have HF11 := hide (HF10.out.go hg)
  have HOp11 := hide (HOp10.out.go HAp10.out hg)
  have HAp11 := hide (HAp10.out.go hg)
  clear HOp10 HAp10
  have HOx11 := hide (HOx10.out.go HAx10.out hg)
  have HAx11 := hide (HAx10.out.go hg)
  clear HOx10 HAx10
  clear hd hg HR10 hlt10 HNo10 HD10 HF10 HD9 HF9
  go_wp2_with fail
  refine (filled_at 128 128 100 w11 rfl (by omega)).mono ?_
  rintro e w12 ⟨rfl, hrow, hlt, hb⟩
  have HR12 := hide hrow
  have hlt12 := hlt
  have HD12 := hide (HD11.out.below hb)
  have HF12 := hide (HF11.out.on hb)
  have HNo12 : Hid (¬ O11 w11.heap.size) := fun h => by have := HD11.out.lt _ h; omega
  have HOp12 := hide (HOp11.out.on hb)
  have HAp12 := hide (HAp11.out.on hb)
  clear HOp11 HAp11
  have HOx12 := hide (HOx11.out.on hb)
  have HAx12 := hide (HAx11.out.on hb)
  clear HOx11 HAx11
  clear hrow hlt hb
  go_wp2_with fail
  refine (write_ok p q O11 K6 0 0 w11.heap.size 128 100 1 w12 HD12.out rfl (by omega) HNo12.out HR12.out hlt12 (by rw [k6.2.1]; omega) (by rw [k6.2.1]) (by omega) (by rw [k6.2.2.1]; omega) (by rw [k6.2.2.2]; omega) k6.1).mono ?_
  rintro e w13 ⟨rfl, O13, hd, hg⟩
  have HD13 : Hid (DkAt w13 p q K7 O13) := hd
  have HF13 := hide (HF12.out.go hg)
  have HOp13 := hide (HOp12.out.go HAp12.out hg)
  have HAp13 := hide (HAp12.out.go hg)
  clear HOp12 HAp12
  have HOx13 := hide (HOx12.out.go HAx12.out hg)
  have HAx13 := hide (HAx12.out.go hg)
  clear HOx12 HAx12
  clear hd hg HR12 hlt12 HNo12 HD12 HF12 HD11 HF11
  go_wp2_with fail
  refine (read_ok p q O13 K7 0 0 w13 HD13.out rfl (by rw [k7.2.1]; omega) (by rw [k7.2.2]; omega) k7.1).mono ?_
  rintro e w14 ⟨vy, rfl, hown, hap, hnew, hd, hg⟩
  rw [show 8 * 0 = 0 from rfl, k7r] at hown
  obtain ⟨ya, yc, rfl⟩ := own_page hown (by simp)
  have HD14 : Hid (DkAt w14 p q K8 O13) := hd
  have HF14 := hide (HF13.out.go hg)
  have HOp14 := hide (HOp13.out.go HAp13.out hg)
  have HAp14 := hide (HAp13.out.go hg)
  clear HOp13 HAp13
  have HOx14 := hide (HOx13.out.go HAx13.out hg)
  have HAx14 := hide (HAx13.out.go hg)
  clear HOx13 HAx13
  have HOy14 := hide hown
  have HAy14 := hide hap
  clear hown hap hnew hd hg HD13 HF13
  have cp := ownI_at HOp14.out 15 (by simp)
  have HCo := hide (counts_any p q O13 K8 w14 HD14.out)
  rw [k8.1, k8.2.1, k8.2.2] at HCo
  have hb82 := build82' 2 4
  go_wp2_with fail
  refine HCo.out.mono ?_
  rintro e w15 ⟨rfl, hb⟩
  have HF15 := hide (HF14.out.on hb)
  have HOp15 := hide (HOp14.out.on hb)
  have HAp15 := hide (HAp14.out.on hb)
  clear HOp14 HAp14
  have HOx15 := hide (HOx14.out.on hb)
  have HAx15 := hide (HAx14.out.on hb)
  clear HOx14 HAx14
  have HOy15 := hide (HOy14.out.on hb)
  have HAy15 := hide (HAy14.out.on hb)
  clear HOy14 HAy14
  clear hb HD14 HF14 cp HCo
  have HFr15 : Hid (Fr w.heap.size w w15) := ⟨HF15.out.below, HF15.out.size⟩
  clear HOp15 HAp15 HAx15 HAy15 HF15
  go_wp2_with fail
  refine (filled_at 128 128 97 w15 rfl (by omega)).mono ?_
  rintro e w16 ⟨rfl, hrow, hlt, hb⟩
  have HSr := hide (Src.ofSlice (P := Try.prog) (size := 1) w16 Try.underlying63 ⟨w15.heap.size, 0, none⟩ 128 128 ((List.replicate 128 (97 : Int)).map (Value.int .u8)) (by simp) (row_cells hrow) (ints_oneCell _ _))
  have HFr16 := hide (HFr15.out.on hb)
  have HOx16 := hide (HOx15.out.on hb)
  have HOy16 := hide (HOy15.out.on hb)
  clear hrow hlt hb
  clear HFr15 HOx15 HOy15
  go_wp2_with (first | (at_builtin; refine wpList_append_src (by rfl) (.tmp 83) (.tmp 84) 63 63 (by rfl) i0 Try.underlying63 hi hz0 hz1 hz2 (.slice none 0 0) [] (by rfl) (Own.nil w16) _ 128 (List.replicate 128 (97 : Int)) (by rfl) HSr.out (by decide) ?_; intro v16 w17 hown hg hnew; rw [List.nil_append] at hown; have HOa := hide hown; have HNa : Hid (∀ k, v16.ownBlock = some k → w16.heap.size ≤ k) := (fun k hk => (hnew k hk).elim (fun e => by cases e) id); have HFr17 := hide (HFr16.out.grown hg (fun k e => by cases e)); have HOx17 := hide (own_grown HOx16.out hg (fun k _ e => by cases e)); have HLx : Hid (∀ k, (.slice (some ⟨xa, 0, none⟩) 1024 xc : Value).ownBlock = some k → k < w16.heap.size) := (fun k hk => HOx16.out.lt hk); have HOy17 := hide (own_grown HOy16.out hg (fun k _ e => by cases e)); have HLy : Hid (∀ k, (.slice (some ⟨ya, 0, none⟩) 1024 yc : Value).ownBlock = some k → k < w16.heap.size) := (fun k hk => HOy16.out.lt hk); clear hown hg hnew HSr) | (at_builtin; refine wpList_append_zeros (by rfl) (.tmp 86) (.const (.int .i64 896)) 896 896 (by rfl) rfl v16 (List.replicate 128 (97 : Int)) (by rfl) (by rfl) HOa.out (by decide) (by decide) (by decide) (by decide) ?_; intro v17 w18 hown hg hnew; have HOm18 := hide hown; have HFr18 := hide (HFr17.out.grown hg (fun k e => Nat.le_trans HFr16.out.size (HNa.out k e))); have HOx18 := hide (own_grown HOx17.out hg (fun k hk e => by have h1 := HLx.out k hk; have h2 := HNa.out k e; omega)); have HOy18 := hide (own_grown HOy17.out hg (fun k hk e => by have h1 := HLy.out k hk; have h2 := HNa.out k e; omega)); clear hown hg hnew) | fail)
  obtain ⟨ma, mc, rfl⟩ := own_page HOm18.out (by simp)
  clear HOa HNa HLx HLy HFr16 HFr17 HOx16 HOx17 HOy16 HOy17
  refine (filled_at 128 128 100 w18 rfl (by omega)).mono ?_
  rintro e w19 ⟨rfl, hrow, hlt, hb⟩
  have HSr := hide (Src.ofSlice (P := Try.prog) (size := 1) w19 Try.underlying63 ⟨w18.heap.size, 0, none⟩ 128 128 ((List.replicate 128 (100 : Int)).map (Value.int .u8)) (by simp) (row_cells hrow) (ints_oneCell _ _))
  have HFr19 := hide (HFr18.out.on hb)
  have HOx19 := hide (HOx18.out.on hb)
  have HOy19 := hide (HOy18.out.on hb)
  have HOm19 := hide (HOm18.out.on hb)
  clear hrow hlt hb
  clear HFr18 HOx18 HOy18 HOm18
  go_wp2_with (first | (at_builtin; refine wpList_append_src (by rfl) (.tmp 88) (.tmp 89) 63 63 (by rfl) i0 Try.underlying63 hi hz0 hz1 hz2 (.slice none 0 0) [] (by rfl) (Own.nil w19) _ 128 (List.replicate 128 (100 : Int)) (by rfl) HSr.out (by decide) ?_; intro v19 w20 hown hg hnew; rw [List.nil_append] at hown; have HOa := hide hown; have HNa : Hid (∀ k, v19.ownBlock = some k → w19.heap.size ≤ k) := (fun k hk => (hnew k hk).elim (fun e => by cases e) id); have HFr20 := hide (HFr19.out.grown hg (fun k e => by cases e)); have HOx20 := hide (own_grown HOx19.out hg (fun k _ e => by cases e)); have HLx : Hid (∀ k, (.slice (some ⟨xa, 0, none⟩) 1024 xc : Value).ownBlock = some k → k < w19.heap.size) := (fun k hk => HOx19.out.lt hk); have HOy20 := hide (own_grown HOy19.out hg (fun k _ e => by cases e)); have HLy : Hid (∀ k, (.slice (some ⟨ya, 0, none⟩) 1024 yc : Value).ownBlock = some k → k < w19.heap.size) := (fun k hk => HOy19.out.lt hk); have HOm20 := hide (own_grown HOm19.out hg (fun k _ e => by cases e)); have HLm : Hid (∀ k, (.slice (some ⟨ma, 0, none⟩) 1024 mc : Value).ownBlock = some k → k < w19.heap.size) := (fun k hk => HOm19.out.lt hk); clear hown hg hnew HSr) | (at_builtin; refine wpList_append_zeros (by rfl) (.tmp 91) (.const (.int .i64 896)) 896 896 (by rfl) rfl v19 (List.replicate 128 (100 : Int)) (by rfl) (by rfl) HOa.out (by decide) (by decide) (by decide) (by decide) ?_; intro v20 w21 hown hg hnew; have HOn21 := hide hown; have HFr21 := hide (HFr20.out.grown hg (fun k e => Nat.le_trans HFr19.out.size (HNa.out k e))); have HOx21 := hide (own_grown HOx20.out hg (fun k hk e => by have h1 := HLx.out k hk; have h2 := HNa.out k e; omega)); have HOy21 := hide (own_grown HOy20.out hg (fun k hk e => by have h1 := HLy.out k hk; have h2 := HNa.out k e; omega)); have HOm21 := hide (own_grown HOm20.out hg (fun k hk e => by have h1 := HLm.out k hk; have h2 := HNa.out k e; omega)); clear hown hg hnew) | fail)
  obtain ⟨na, nc, rfl⟩ := own_page HOn21.out (by simp)
  have HS1 := hide (sameb_any (some ⟨xa, 0, none⟩) (some ⟨ma, 0, none⟩) 1024 1024 xc mc _ _ w21 (by simp) (by simp) (by omega) (by omega) (own_row HOx21.out) (own_row HOm21.out))
  rw [sameB_self] at HS1
  refine HS1.out.mono ?_
  rintro e w22 ⟨rfl, hb⟩
  have HFr22 := hide (HFr21.out.on hb)
  have HOy22 := hide (HOy21.out.on hb)
  have HOn22 := hide (HOn21.out.on hb)
  clear hb HS1
  have HS2 := hide (sameb_any (some ⟨ya, 0, none⟩) (some ⟨na, 0, none⟩) 1024 1024 yc nc _ _ w22 (by simp) (by simp) (by omega) (by omega) (own_row HOy22.out) (own_row HOn22.out))
  rw [sameB_self] at HS2
  go_wp2_with fail
  refine HS2.out.mono ?_
  rintro e w23 ⟨rfl, hb⟩
  have HFr23 := hide (HFr22.out.on hb)
  clear hb
  go_wp2
  go_ret
  exact ⟨rfl, HFr23.out.below⟩
end Go.Proofs.Ytkammfkknfflgaa
