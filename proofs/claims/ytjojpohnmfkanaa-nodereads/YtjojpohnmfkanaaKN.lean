/- The chapter's examples come out as it has them. -/
import Derived.Test.YtjojpohnmfkanaaLB
import Derived.Lib.SlBytesConst
namespace Go.Proofs.Ytjojpohnmfkanaa
open Go.RowKit
set_option linter.unusedVariables false

theorem strs_cells (W : World) (C : Array Value) (j : Nat) (v : Value) (h : C[j]? = some v) : (W.alloc (.cells C 9)).cell? ⟨W.heap.size, 0 + j, none⟩ = some v := by
  have hb := heap_alloc_new W (.cells C 9)
  simp only [World.cell?, hb]
  simpa using h
theorem leaf2 (W : World) (s t : ByteArray) (hs : s.size ≤ 1000) (ht : t.size ≤ 1000) :
    Calls Try.prog 23 #[.slice (some ⟨W.heap.size, 0, none⟩) 2 2] (W.alloc (.cells #[.string s, .string t] 9)) fun e w' => ∃ a cc ys, e = .returned (.agg #[.bool true, .slice a 1 cc]) ∧ ers ys = [⟨sbs s, sbs t, 0, 0⟩] ∧ Ens w' a 1 cc ys ∧ Below W.heap.size W w' := by
  have hB := below_alloc W (.cells #[.string s, .string t] 9)
  refine (leaf_any W.heap.size 0 2 2 [(s, t)] _ rfl (by simp) (by simp) (by intro x hx; simp at hx; subst hx; exact ⟨hs, ht⟩) ?_).mono ?_
  · intro k x hx
    match k, hx with
    | 0, hx => simp at hx; subst hx; exact ⟨strs_cells W _ 0 _ rfl, strs_cells W _ 1 _ rfl⟩
  · rintro e w' ⟨a, cc, ys, rfl, he, hE, hb⟩
    have hl : ys.length = 1 := by have := congrArg List.length he; simpa [ers] using this
    rw [hl] at hE ⊢
    exact ⟨a, cc, ys, rfl, he, hE, hB.trans (hb.mono hB.size)⟩
theorem leaf4 (W : World) (s t u v : ByteArray) (hs : s.size ≤ 1000) (ht : t.size ≤ 1000) (hu : u.size ≤ 1000) (hv : v.size ≤ 1000) :
    Calls Try.prog 23 #[.slice (some ⟨W.heap.size, 0, none⟩) 4 4] (W.alloc (.cells #[.string s, .string t, .string u, .string v] 9)) fun e w' => ∃ a cc ys, e = .returned (.agg #[.bool true, .slice a 2 cc]) ∧ ers ys = [⟨sbs s, sbs t, 0, 0⟩, ⟨sbs u, sbs v, 0, 0⟩] ∧ Ens w' a 2 cc ys ∧ Below W.heap.size W w' := by
  have hB := below_alloc W (.cells #[.string s, .string t, .string u, .string v] 9)
  refine (leaf_any W.heap.size 0 4 4 [(s, t), (u, v)] _ rfl (by simp) (by simp) (by intro x hx; simp at hx; rcases hx with rfl | rfl; exact ⟨hs, ht⟩; exact ⟨hu, hv⟩) ?_).mono ?_
  · intro k x hx
    match k, hx with
    | 0, hx => simp at hx; subst hx; exact ⟨strs_cells W _ 0 _ rfl, strs_cells W _ 1 _ rfl⟩
    | 1, hx => simp at hx; subst hx; exact ⟨strs_cells W _ 2 _ rfl, strs_cells W _ 3 _ rfl⟩
  · rintro e w' ⟨a, cc, ys, rfl, he, hE, hb⟩
    have hl : ys.length = 2 := by have := congrArg List.length he; simpa [ers] using this
    rw [hl] at hE ⊢
    exact ⟨a, cc, ys, rfl, he, hE, hB.trans (hb.mono hB.size)⟩
theorem leaf6 (W : World) (s t u v x y : ByteArray) (hs : s.size ≤ 1000) (ht : t.size ≤ 1000) (hu : u.size ≤ 1000) (hv : v.size ≤ 1000) (hx : x.size ≤ 1000) (hy : y.size ≤ 1000) :
    Calls Try.prog 23 #[.slice (some ⟨W.heap.size, 0, none⟩) 6 6] (W.alloc (.cells #[.string s, .string t, .string u, .string v, .string x, .string y] 9)) fun e w' => ∃ a cc ys, e = .returned (.agg #[.bool true, .slice a 3 cc]) ∧ ers ys = [⟨sbs s, sbs t, 0, 0⟩, ⟨sbs u, sbs v, 0, 0⟩, ⟨sbs x, sbs y, 0, 0⟩] ∧ Ens w' a 3 cc ys ∧ Below W.heap.size W w' := by
  have hB := below_alloc W (.cells #[.string s, .string t, .string u, .string v, .string x, .string y] 9)
  refine (leaf_any W.heap.size 0 6 6 [(s, t), (u, v), (x, y)] _ rfl (by simp) (by simp) (by intro z hz; simp at hz; rcases hz with rfl | rfl | rfl; exact ⟨hs, ht⟩; exact ⟨hu, hv⟩; exact ⟨hx, hy⟩) ?_).mono ?_
  · intro k z hz
    match k, hz with
    | 0, hz => simp at hz; subst hz; exact ⟨strs_cells W _ 0 _ rfl, strs_cells W _ 1 _ rfl⟩
    | 1, hz => simp at hz; subst hz; exact ⟨strs_cells W _ 2 _ rfl, strs_cells W _ 3 _ rfl⟩
    | 2, hz => simp at hz; subst hz; exact ⟨strs_cells W _ 4 _ rfl, strs_cells W _ 5 _ rfl⟩
  · rintro e w' ⟨a, cc, ys, rfl, he, hE, hb⟩
    have hl : ys.length = 3 := by have := congrArg List.length he; simpa [ers] using this
    rw [hl] at hE ⊢
    exact ⟨a, cc, ys, rfl, he, hE, hB.trans (hb.mono hB.size)⟩
abbrev sA : ByteArray := ⟨#[97]⟩
abbrev sB : ByteArray := ⟨#[98]⟩
abbrev sC : ByteArray := ⟨#[99]⟩
abbrev s1 : ByteArray := ⟨#[49]⟩
def e1 : List Ee := [⟨[97], [49], 0, 0⟩]
def e3 : List Ee := [⟨[97], [49], 0, 0⟩, ⟨[98], [49], 0, 0⟩, ⟨[99], [49], 0, 0⟩]
def e2 : List Ee := [⟨[97], [49], 0, 0⟩, ⟨[99], [49], 0, 0⟩]
def e2a : List Ee := [⟨[97], [49], 0, 0⟩, ⟨[98], [49], 0, 0⟩]
def e2b : List Ee := [⟨[99], [49], 0, 0⟩]
theorem e1_chk : chk true e1 = 0 := by decide
theorem e1_enc : nenc true e1 = [1, 0, 1, 97, 1, 49] := by decide
theorem eb_chk : chk true [⟨[98], [49], 0, 0⟩, ⟨[97], [49], 0, 0⟩] = 90 := by decide
theorem e3_mid (m : Nat) (h : Mid true e3 m) : m = 2 := by
  have h1 := h.one
  have h2 := h.some
  simp [e3] at h2
  have h3 := h.big
  by_cases hm : m = 1
  · subst hm
    exfalso
    revert h3
    decide
  · omega
theorem e2_at (xs : List En) (hx : ers xs = e2) (i : Nat) (h : At (pge [98]) xs i) : i = 1 ∧ ther xs i [98] = false := by
  have hl : xs.length = 2 := by have := congrArg List.length hx; simpa [ers, e2] using this
  match xs, hl with
  | [x0, x1], _ =>
    simp [ers, e2] at hx
    obtain ⟨h0, h1⟩ := hx
    have hi := h.1
    simp at hi
    match i, hi with
    | 0, _ => exfalso; have := h.2.2 x0 rfl; rw [h0] at this; exact absurd this (by decide)
    | 1, _ => exact ⟨rfl, by simp [ther, h1]⟩
    | 2, _ => exfalso; have := h.2.1 x1 (by omega) rfl; rw [h1] at this; exact absurd this (by decide)
theorem inn_const (W : World) (x : Int) (hx : 0 ≤ x ∧ x ≤ 255) : Inn (W.alloc (.cells #[.int .u8 x] 5 (1, 2))) (some ⟨W.heap.size, 0, none⟩) 1 1 [x] := by
  refine ⟨rfl, Nat.le_refl _, by omega, by (intro e; cases e), .inr ⟨W.heap.size, 0, rfl, by simp, fun i hi => ?_⟩, by intro c hc; simp at hc; omega⟩
  have hb := heap_alloc_new W (.cells #[.int .u8 x] 5 (1, 2))
  simp at hi
  subst hi
  simp only [World.cell?, hb]
  rfl
/-- what known has at hand. -/
structure KS (w : World) (p3 p5 : Nat) (a2 a3 a5 a6 a7 : Option Addr) (c2 c3 c5 c6 c7 : Nat) (ys3 yA yB : List En) (W : World) : Prop where
  nb : W.heap[p3]? = some (.cells #[.bool true, .slice a3 1 c3] 25 (0, 0))
  xb : W.heap[p5]? = some (.cells #[.bool true, .slice a5 2 c5] 25 (0, 0))
  yb : W.heap[p5 + 1]? = some (.cells #[.bool true, .slice a6 1 c6] 25 (0, 0))
  n3 : Ens W a3 1 c3 ys3
  nA : Ens W a5 2 c5 yA
  nB : Ens W a6 1 c6 yB
  i2 : Inn W a2 6 c2 [1, 0, 1, 97, 1, 49]
  i7 : Inn W a7 1 c7 [99]
  bl : Below w.heap.size w W
theorem KS.below {w : World} {p3 p5 : Nat} {a2 a3 a5 a6 a7 : Option Addr} {c2 c3 c5 c6 c7 : Nat} {ys3 yA yB : List En} {W W' : World} (h : KS w p3 p5 a2 a3 a5 a6 a7 c2 c3 c5 c6 c7 ys3 yA yB W) (hb : Below W.heap.size W W') : KS w p3 p5 a2 a3 a5 a6 a7 c2 c3 c5 c6 c7 ys3 yA yB W' :=
  ⟨(hb.block _ (lt_of_block h.nb)).trans h.nb, (hb.block _ (lt_of_block h.xb)).trans h.xb, (hb.block _ (lt_of_block h.yb)).trans h.yb, h.n3.below hb, h.nA.below hb, h.nB.below hb, h.i2.below hb, h.i7.below hb, h.bl.trans (hb.mono h.bl.size)⟩
theorem bk_b : bk [1, 0, 1, 97, 1, 49] = ⟨#[1, 0, 1, 97, 1, 49]⟩ := rfl
theorem bk_c : bk [99] = ⟨#[99]⟩ := rfl
theorem e1_sm : ∀ e ∈ e1, e.Sm := by
  intro e he
  simp [e1] at he
  subst he
  exact ⟨rfl, rfl, by decide, by decide, by unfold Byts; decide, by unfold Byts; decide⟩
set_option maxHeartbeats 6400000 in
set_option maxRecDepth 1000000 in
theorem known_any (w : World) : Calls Try.prog 11 #[] w fun e w' => e = .returned (.bool true) ∧ Below w.heap.size w w' := by
  have kc := fun (w : World) (C : Array Value) (n c : Nat) => Lib.run_convert_bytes_const (P := Try.prog) w 22 5 C n c Try.underlying22 Try.underlying5
  go_enter Try.func11, Try.ntmps11
  go_wp2_with fail
  refine (leaf2 w sA s1 (by decide) (by decide)).mono ?_
  rintro e w1 ⟨a1, c1, ys1, rfl, he1, hE1, hb1⟩
  have he1 : ers ys1 = e1 := he1
  have HE1 := hide hE1
  have HB1 := hide hb1
  go_wp2_with fail
  refine (encode_ok true a1 1 c1 ys1 w1 HE1.out (by rw [he1]; exact e1_chk) (by rw [he1]; decide)).mono ?_
  rintro e w2 ⟨v2, rfl, hm2⟩
  obtain ⟨a2, n2, c2, rfl, hn2⟩ := hm2.1.shape2
  rw [he1, e1_enc] at hm2 hn2
  have hn2' : n2 = 6 := hn2.out
  subst hn2'
  obtain ⟨hi2, -⟩ := hm2.inn (by unfold Byts; decide)
  have HI2 := hide hi2
  have HB2 := hide (HB1.out.trans (hm2.2.2.mono HB1.out.size))
  clear he1 hE1 hb1 hm2 hn2 hi2
  go_wp2_with fail
  have hde := HI2.out
  rw [← e1_enc] at hde
  refine (decode_small a2 6 c2 e1 w2 e1_sm e1_chk (by decide) (by decide) hde).mono ?_
  rintro e w3 ⟨v3, ys3, rfl, he3, hc3, hb3⟩
  obtain ⟨a3, c3, rfl, hE3⟩ := hc3.ens
  have hl3 : ys3.length = 1 := by have := congrArg List.length he3; simpa [ers, e1] using this
  rw [hl3] at hE3 hc3 ⊢
  have HE3 := hide hE3
  have HEr3 := hide he3
  have HI3 := hide (HI2.out.below hb3)
  have HB3 := hide (HB2.out.trans (hb3.mono HB2.out.size))
  clear hde he3 hc3 hb3 hE3 hl3
  have hbx3 := below_alloc w3 (.cells #[.bool true, .slice a3 1 c3] 25)
  have HX3 := hide (heap_alloc_new w3 (.cells #[.bool true, .slice a3 1 c3] 25))
  have HE3a := hide (HE3.out.below hbx3)
  have HI3a := hide (HI3.out.below hbx3)
  have HB3a := hide (HB3.out.trans (hbx3.mono HB3.out.size))
  have hs3 : (w3.alloc (.cells #[.bool true, .slice a3 1 c3] 25)).heap.size = w3.heap.size + 1 := by simp
  clear hbx3
  go_wp2_with fail
  have HL6 := hide (leaf6 (w3.alloc (.cells #[.bool true, .slice a3 1 c3] 25)) sA s1 sB s1 sC s1 (by decide) (by decide) (by decide) (by decide) (by decide) (by decide))
  rw [hs3] at HL6
  refine HL6.out.mono ?_
  rintro e w4 ⟨a4, c4, ys4, rfl, he4, hE4, hb4⟩
  have hb4 : Below (w3.alloc (.cells #[.bool true, .slice a3 1 c3] 25)).heap.size (w3.alloc (.cells #[.bool true, .slice a3 1 c3] 25)) w4 := by rw [hs3]; exact hb4
  have he4 : ers ys4 = e3 := he4
  have HEr4 := hide he4
  have HX4 := hide ((hb4.block _ (lt_of_block HX3.out)).trans HX3.out)
  have HE4 := hide (HE3a.out.below hb4)
  have HI4 := hide (HI3a.out.below hb4)
  have HB4 := hide (HB3a.out.trans (hb4.mono HB3a.out.size))
  have HH := hide (halves_leaf a4 3 c4 ys4 w4 hE4 (by omega) (by rw [he4]; decide) (by omega))
  rw [he4] at HH
  clear he4 hE4 hb4 HL6 hs3
  go_wp2_with fail
  refine HH.out.mono ?_
  rintro e w5 ⟨m, va, vb, vk, yA, yB, key, rfl, hmid, hA, hB, ⟨x5, hx5, hkey⟩, hcA, hcB, hok, hb5⟩
  have hm := e3_mid m hmid
  subst hm
  have hA : ers yA = e2a := hA
  have hB : ers yB = e2b := hB
  obtain ⟨a5, c5, rfl, hEA⟩ := hcA.ens
  obtain ⟨a6, c6, rfl, hEB⟩ := hcB.ens
  have hlA : yA.length = 2 := by have := congrArg List.length hA; simpa [ers, e2a] using this
  have hlB : yB.length = 1 := by have := congrArg List.length hB; simpa [ers, e2b] using this
  rw [hlA] at hEA ⊢
  rw [hlB] at hEB ⊢
  obtain ⟨a7, n7, c7, rfl, hn7⟩ := hok.shape2
  have HX5 := hide ((hb5.block _ (lt_of_block HX4.out)).trans HX4.out)
  have HE5 := hide (HE4.out.below hb5)
  have HI5 := hide (HI4.out.below hb5)
  have HB5 := hide (HB4.out.trans (hb5.mono HB4.out.size))
  have HEA := hide hEA
  have HEB := hide hEB
  have HErA := hide hA
  have HErB := hide hB
  have HOk := hide hok
  have HKe := hide hkey
  have HX5m := hide hx5
  have HN7 := hide hn7
  clear hmid hA hB hcA hcB hEA hEB hlA hlB hok hb5 hx5 hkey hn7 HH
  obtain ⟨hBp, hp0, hp1, -⟩ := pair_boxes w5 (.bool true) (.slice a5 2 c5) (.bool true) (.slice a6 1 c6)
  have hk7 : key = [99] := by
    have h1 := HX5m.out
    have h2 := HKe.out
    rw [h2]
    have h3 := ers_at h1
    rw [HEr4.out] at h3
    simp [e3] at h3
    rw [← h3]
  have hn7 : n7 = 1 := by have := HN7.out; rw [hk7] at this; exact this
  subst hn7
  have hok7 := HOk.out
  rw [hk7] at hok7
  have HK : Hid (KS w w3.heap.size w5.heap.size a2 a3 a5 a6 a7 c2 c3 c5 c6 c7 ys3 yA yB ((w5.alloc (.cells #[.bool true, .slice a5 2 c5] 25)).alloc (.cells #[.bool true, .slice a6 1 c6] 25))) := hide ⟨(hBp.block _ (lt_of_block HX5.out)).trans HX5.out, hp0, hp1, HE5.out.below hBp, HEA.out.below hBp, HEB.out.below hBp, HI5.out.below hBp, (own_inn hok7 (by unfold Byts; decide)).below hBp, HB5.out.trans (hBp.mono HB5.out.size)⟩
  have hs5 : ((w5.alloc (.cells #[.bool true, .slice a5 2 c5] 25)).alloc (.cells #[.bool true, .slice a6 1 c6] 25)).heap.size = w5.heap.size + 1 + 1 := by simp
  have HL4 := hide (leaf4 ((w5.alloc (.cells #[.bool true, .slice a5 2 c5] 25)).alloc (.cells #[.bool true, .slice a6 1 c6] 25)) sA s1 sC s1 (by decide) (by decide) (by decide) (by decide))
  rw [hs5] at HL4
  clear hBp hp0 hp1 hok7 hk7 HX5m HKe HOk HN7 HX5 HE5 HEA HEB HI5 HB5
  go_wp2_with fail
  refine HL4.out.mono ?_
  rintro e w6 ⟨a8, c8, ys8, rfl, he8, hE8, hb8⟩
  have hb8 : Below ((w5.alloc (.cells #[.bool true, .slice a5 2 c5] 25)).alloc (.cells #[.bool true, .slice a6 1 c6] 25)).heap.size ((w5.alloc (.cells #[.bool true, .slice a5 2 c5] 25)).alloc (.cells #[.bool true, .slice a6 1 c6] 25)) w6 := by rw [hs5]; exact hb8
  have he8 : ers ys8 = e2 := he8
  have HK6 := hide (HK.out.below hb8)
  have hbc := below_alloc w6 (.cells #[.int .u8 98] 5 (1, 2))
  have HK6a := hide (HK6.out.below hbc)
  have HF := hide (find_leaf (some ⟨w6.heap.size, 0, none⟩) 1 1 [98] a8 2 c8 ys8 _ (inn_const w6 98 (by omega)) (hE8.below hbc) (by omega))
  have HEr8 := hide he8
  clear he8 hE8 hb8 HL4 HK hs5 hbc
  go_wp2_with fail
  refine HF.out.mono ?_
  rintro e w7 ⟨i7, rfl, hat, hb7⟩
  obtain ⟨hi7, hth⟩ := e2_at ys8 HEr8.out i7 hat
  subst hi7
  rw [hth]
  have HK7 := hide (HK6a.out.below hb7)
  have t2 := text_inn HK7.out.i2
  rw [bk_b] at t2
  obtain ⟨n0, n1, -⟩ := cells_two HK7.out.nb
  clear hat hth hb7 HF HK6 HK6a
  have HSk : Hid (∀ W, Below w7.heap.size w7 W → W.cell? ⟨w3.heap.size, 0, none⟩ = some (.bool true) ∧ W.cell? ⟨w3.heap.size, 1, none⟩ = some (.slice a3 1 c3) ∧ (convert 22 9 (.slice a2 6 c2)).run Try.prog W = .ok (.string ⟨#[1, 0, 1, 97, 1, 49]⟩) W) := hide fun W hW => by
    have hk := HK7.out.below hW
    have ht := text_inn hk.i2
    rw [bk_b] at ht
    exact ⟨(cells_two hk.nb).1, (cells_two hk.nb).2.1, ht⟩
  have HK70 := hide HK7.out
  have q3 : ((⟨#[1, 0, 1, 97, 1, 49]⟩ : ByteArray).toList == (⟨#[1, 0, 1, 97, 1, 49]⟩ : ByteArray).toList) = true := beq_self_eq_true _
  go_wp2
  go_region_held3 (fun W => W.cell? ⟨w3.heap.size, 0, none⟩ = some (.bool true) ∧ W.cell? ⟨w3.heap.size, 1, none⟩ = some (.slice a3 1 c3) ∧ (convert 22 9 (.slice a2 6 c2)).run Try.prog W = .ok (.string ⟨#[1, 0, 1, 97, 1, 49]⟩) W) ((first | (refine ⟨?_, ?_, ?_⟩ <;> assumption) | exact HSk.out _ ((Below.refl _ _).drew) | exact HSk.out _ (((Below.refl _ _).drew).alloc (Nat.le_refl _) _))) ((first | (go_at_call 23; refine (leaf2 w7.drew sA s1 (by decide) (by decide)).mono ?_; intro r' w8 hh; obtain ⟨a9, c9, ys9, rfl, he9, hE9, hb9⟩ := hh; have HB8 : Hid (Below w7.heap.size w7 w8) := hide ((Below.refl _ _).drew.trans hb9); have HE9 := hide hE9; have HEr9 := hide he9; have HK8 := hide (HK70.out.below HB8.out); clear n0 n1 t2 he9 hE9 hb9; obtain ⟨n0, n1, t2⟩ := HSk.out w8 HB8.out) | (go_at_call 12; refine (same_yes a3 a9 1 c3 c9 ys3 ys9 w8 HK8.out.n3 HE9.out (by rw [HEr3.out, HEr9.out]; rfl) (by omega)).mono ?_; intro r' w9 hh; obtain ⟨rfl, hb10⟩ := hh; have HB9 : Hid (Below w7.heap.size w7 w9) := hide (HB8.out.trans (hb10.mono HB8.out.size)); have HK9 := hide (HK8.out.below hb10); clear n0 n1 t2 hb10; obtain ⟨n0, n1, t2⟩ := HSk.out w9 HB9.out)))
  clear n0 n1 t2 q3
  obtain ⟨x0, x1, -⟩ := cells_two HK9.out.xb
  obtain ⟨y0, y1, -⟩ := cells_two HK9.out.yb
  have t7 := text_inn HK9.out.i7
  rw [bk_c] at t7
  have q4 : ((⟨#[99]⟩ : ByteArray).toList == (⟨#[99]⟩ : ByteArray).toList) = true := beq_self_eq_true _
  have HSm : Hid (∀ W, Below w9.heap.size w9 W → W.cell? ⟨w5.heap.size, 0, none⟩ = some (.bool true) ∧ W.cell? ⟨w5.heap.size, 1, none⟩ = some (.slice a5 2 c5) ∧ W.cell? ⟨w5.heap.size + 1, 0, none⟩ = some (.bool true) ∧ W.cell? ⟨w5.heap.size + 1, 1, none⟩ = some (.slice a6 1 c6) ∧ (convert 22 9 (.slice a7 1 c7)).run Try.prog W = .ok (.string ⟨#[99]⟩) W) := hide fun W hW => by
    have hk := HK9.out.below hW
    have ht := text_inn hk.i7
    rw [bk_c] at ht
    exact ⟨(cells_two hk.xb).1, (cells_two hk.xb).2.1, (cells_two hk.yb).1, (cells_two hk.yb).2.1, ht⟩
  have M1 := hide trivial
  go_wp2
  go_region_held3 (fun W => W.cell? ⟨w5.heap.size, 0, none⟩ = some (.bool true) ∧ W.cell? ⟨w5.heap.size, 1, none⟩ = some (.slice a5 2 c5) ∧ W.cell? ⟨w5.heap.size + 1, 0, none⟩ = some (.bool true) ∧ W.cell? ⟨w5.heap.size + 1, 1, none⟩ = some (.slice a6 1 c6) ∧ (convert 22 9 (.slice a7 1 c7)).run Try.prog W = .ok (.string ⟨#[99]⟩) W) ((first | (refine ⟨?_, ?_, ?_, ?_, ?_⟩ <;> assumption) | exact HSm.out _ ((Below.refl _ _).drew) | exact HSm.out _ (((Below.refl _ _).drew).alloc (Nat.le_refl _) _) | exact HSm.out _ (HBb.out.trans ((below_alloc _ _).mono HBb.out.size)) | exact HSm.out _ (HBd.out.trans ((below_alloc _ _).mono HBd.out.size)) | exact HSm.out _ (HBf.out.trans ((below_alloc _ _).mono HBf.out.size)))) ((first | (go_at_call 23; have hmk := M1; clear hmk M1; refine (leaf4 w9.drew sA s1 sB s1 (by decide) (by decide) (by decide) (by decide)).mono ?_; intro r' wa hh; obtain ⟨b1, d1, z1, rfl, f1, g1, h1⟩ := hh; have HBa : Hid (Below w9.heap.size w9 wa) := hide ((Below.refl _ _).drew.trans h1); have HG1 := hide g1; have HF1 := hide f1; clear f1 g1 h1; have M2 := hide trivial; clear x0 x1 y0 y1 t7; obtain ⟨x0, x1, y0, y1, t7⟩ := HSm.out wa HBa.out) | (go_at_call 12; have hmk := M2; clear hmk M2; refine (same_yes a5 b1 2 c5 d1 yA z1 wa (HK9.out.below HBa.out).nA HG1.out (by rw [HErA.out, HF1.out]; rfl) (by omega)).mono ?_; intro r' wb hh; obtain ⟨rfl, h1⟩ := hh; have HBb : Hid (Below w9.heap.size w9 wb) := hide (HBa.out.trans (h1.mono HBa.out.size)); clear h1; have M3 := hide trivial; clear x0 x1 y0 y1 t7; obtain ⟨x0, x1, y0, y1, t7⟩ := HSm.out wb HBb.out) | (go_at_call 23; have hmk := M3; clear hmk M3; refine (leaf2 wb sC s1 (by decide) (by decide)).mono ?_; intro r' wc hh; obtain ⟨b2, d2, z2, rfl, f1, g1, h1⟩ := hh; have HBc : Hid (Below w9.heap.size w9 wc) := hide (HBb.out.trans (h1.mono HBb.out.size)); have HG2 := hide g1; have HF2 := hide f1; clear f1 g1 h1; have M4 := hide trivial; clear x0 x1 y0 y1 t7; obtain ⟨x0, x1, y0, y1, t7⟩ := HSm.out wc HBc.out) | (go_at_call 12; have hmk := M4; clear hmk M4; refine (same_yes a6 b2 1 c6 d2 yB z2 wc (HK9.out.below HBc.out).nB HG2.out (by rw [HErB.out, HF2.out]; rfl) (by omega)).mono ?_; intro r' wd hh; obtain ⟨rfl, h1⟩ := hh; have HBd : Hid (Below w9.heap.size w9 wd) := hide (HBc.out.trans (h1.mono HBc.out.size)); clear h1; have M5 := hide trivial; clear x0 x1 y0 y1 t7; obtain ⟨x0, x1, y0, y1, t7⟩ := HSm.out wd HBd.out) | (go_at_call 23; have hmk := M5; clear hmk M5; refine (leaf4 wd sB s1 sA s1 (by decide) (by decide) (by decide) (by decide)).mono ?_; intro r' we hh; obtain ⟨b3, d3, z3, rfl, f1, g1, h1⟩ := hh; have HBe : Hid (Below w9.heap.size w9 we) := hide (HBd.out.trans (h1.mono HBd.out.size)); have HCk := hide (check_any true b3 2 d3 z3 we g1 (by omega) (by rw [f1]; decide)); rw [f1] at HCk; rw [show chk true [⟨sbs sB, sbs s1, 0, 0⟩, ⟨sbs sA, sbs s1, 0, 0⟩] = 90 from eb_chk] at HCk; clear f1 g1 h1; have M6 := hide trivial; clear x0 x1 y0 y1 t7; obtain ⟨x0, x1, y0, y1, t7⟩ := HSm.out we HBe.out) | (go_at_call 26; have hmk := M6; clear hmk M6; refine HCk.out.mono ?_; intro r' wf hh; obtain ⟨rfl, h1⟩ := hh; have HBf : Hid (Below w9.heap.size w9 wf) := hide (HBe.out.trans (h1.mono HBe.out.size)); clear h1; have M7 := hide trivial; clear x0 x1 y0 y1 t7; obtain ⟨x0, x1, y0, y1, t7⟩ := HSm.out wf HBf.out) | (go_at_call 23; have hmk := M7; clear hmk M7; refine (leaf2 wf sA s1 (by decide) (by decide)).mono ?_; intro r' wg hh; obtain ⟨b4, d4, z4, rfl, f1, g1, h1⟩ := hh; have HBg : Hid (Below w9.heap.size w9 wg) := hide (HBf.out.trans (h1.mono HBf.out.size)); have HSz := hide (size_any true b4 1 d4 z4 wg g1 (by omega) (by rw [f1]; decide)); rw [f1] at HSz; rw [show nsz true [⟨sbs sA, sbs s1, 0, 0⟩] = 6 by decide] at HSz; clear f1 g1 h1; have M8 := hide trivial; clear x0 x1 y0 y1 t7; obtain ⟨x0, x1, y0, y1, t7⟩ := HSm.out wg HBg.out) | (go_at_call 27; have hmk := M8; clear hmk M8; refine HSz.out.mono ?_; intro r' wh hh; obtain ⟨rfl, h1⟩ := hh; have HBh : Hid (Below w9.heap.size w9 wh) := hide (HBg.out.trans (h1.mono HBg.out.size)); clear h1; have M9 := hide trivial; clear x0 x1 y0 y1 t7; obtain ⟨x0, x1, y0, y1, t7⟩ := HSm.out wh HBh.out)))
  go_wp2
  go_ret
  exact ⟨rfl, HK9.out.bl.trans (HBh.out.mono HK9.out.bl.size)⟩
end Go.Proofs.Ytjojpohnmfkanaa
