/- Contract of writing over entries that were lent. -/
import Derived.Test.YtfpojfohlmhklaaZH
import Derived.Test.YtfpojfohlmhklaaGG
namespace Go.Proofs.Ytfpojfohlmhklaa
open Go.RowKit
set_option linter.unusedVariables false

set_option maxHeartbeats 800000 in
set_option maxRecDepth 1000000 in
theorem spoil_blk (g len n : Nat) (w : World) (h : Le.Blk w g n) (hl : len ≤ n) (hn : n ≤ 1000000000) :
    Calls Try.prog 25 #[.slice (some ⟨g, 0, none⟩) len n] w fun e w' => e = .returned (.tuple #[]) ∧ w.grownBy w' (some g) ∧ Le.Blk w' g n := by
  have H := hide h
  clear h
  go_enter Try.func25, Try.ntmps25
  go_wp2
  go_loopw [3] (fun i wr' => ∃ k : Nat, k ≤ n ∧ i = .int .i64 (k : Int) ∧ Le.Blk wr' g n ∧ w.grownBy wr' (some g)) (fun i _ => n - (intOf i).toNat)
  case atStart => exact ⟨0, Nat.zero_le _, rfl, H.out, Le.grown_refl _ _⟩
  case round =>
    obtain ⟨k, hk, rfl, hb, hg⟩ := hrel
    have HB := hide hb
    have HG := hide hg
    clear hb hg
    by_cases hlt : k < n
    · obtain ⟨v, hc⟩ := HB.out.c k hlt
      have hf := HB.out.f k
      go_wp2
      go_roundw
      case rel => exact ⟨k + 1, by omega, by go_num, HB.out.set k _, Le.grown_trans HG.out (grown_setCell _ _ _ _)⟩
      case measure => simp [intOf]; omega
    · go_wp2
      go_end0
      exact ⟨rfl, HG.out, HB.out⟩
/-- the bytes of an entry lie in blocks that may be written over. -/
def En.Sp (y : En) (f : Nat → Prop) (w : World) : Prop :=
  (∃ g, y.ka = some ⟨g, 0, none⟩ ∧ f g ∧ Le.Blk w g (y.e.key.length + 2)) ∧ ∃ g, y.va = some ⟨g, 0, none⟩ ∧ f g ∧ Le.Blk w g (y.e.val.length + 2)
theorem blk_after {w w' : World} {b q m n : Nat} (h : Le.Blk w b m) (hq : Le.Blk w q n) (hg : w.grownBy w' (some q)) (hq' : Le.Blk w' q n) : Le.Blk w' b m := by
  by_cases e : b = q
  · subst e
    obtain ⟨c1, h1, h2⟩ := h
    obtain ⟨c2, h3, h4⟩ := hq
    rw [h1] at h3
    simp at h3
    subst h3
    rw [← h2, h4]
    exact hq'
  · obtain ⟨c1, h1, h2⟩ := h
    exact ⟨c1, (hg.block b (lt_of_block h1) (fun h => e (by simpa using h))).trans h1, h2⟩
theorem En.Sp.after {y : En} {f : Nat → Prop} {w w' : World} {q n : Nat} (h : y.Sp f w) (hq : Le.Blk w q n) (hg : w.grownBy w' (some q)) (hq' : Le.Blk w' q n) : y.Sp f w' := by
  obtain ⟨⟨a, h1, h2, h3⟩, b, k1, k2, k3⟩ := h
  exact ⟨⟨a, h1, h2, blk_after h3 hq hg hq'⟩, b, k1, k2, blk_after k3 hq hg hq'⟩
theorem En.Sp.kp {y : En} {B q : Nat} {w w' : World} {N : Nat} (h : y.Sp (fun k => B ≤ k ∧ k < N) w) (k : Bo.Kp (fun j => j = q) w w') (hq : q < B ∨ N ≤ q) : y.Sp (fun k => B ≤ k ∧ k < N) w' := by
  obtain ⟨⟨a, h1, h2, c1, h3, h4⟩, b, k1, k2, c2, k3, k4⟩ := h
  exact ⟨⟨a, h1, h2, c1, (k.block a (lt_of_block h3) (by omega)).trans h3, h4⟩, b, k1, k2, c2, (k.block b (lt_of_block k3) (by omega)).trans k3, k4⟩
theorem En.Lt.sp {y : En} {B : Nat} {w : World} (h : y.Lt B w) {f : Nat → Prop} (hf : ∀ k, B ≤ k → k < w.heap.size → f k) : y.Sp f w := by
  obtain ⟨a, h1, h2, h3⟩ := h.key
  obtain ⟨b, k1, k2, k3⟩ := h.val
  exact ⟨⟨a, h1, hf a h2 (h3.lt (k := a) rfl), Le.own_blk h3⟩, b, k1, hf b k2 (k3.lt (k := b) rfl), Le.own_blk k3⟩
/-- a block of entries that is written over. -/
def Bke (w : World) (g n : Nat) : Prop := ∃ cur, w.heap[g]? = some (.cells cur 67 (0, 0)) ∧ cur.size = n
theorem Bke.f {w : World} {g n : Nat} (h : Bke w g n) (i : Nat) : w.frozen? ⟨g, i, none⟩ = false := by obtain ⟨cur, h1, _⟩ := h; simp [World.frozen?, h1]
theorem Bke.c {w : World} {g n : Nat} (h : Bke w g n) (i : Nat) (hi : i < n) : ∃ v, w.cell? ⟨g, i, none⟩ = some v := by
  obtain ⟨cur, h1, h2⟩ := h
  exact ⟨cur[i]'(by omega), by simp [World.cell?, h1, h2, hi]⟩
theorem Bke.set {w : World} {g n : Nat} (h : Bke w g n) (i : Nat) (v : Value) : Bke (w.setCell ⟨g, i, none⟩ v) g n := by
  obtain ⟨cur, h1, h2⟩ := h
  exact ⟨_, heap_setCell_same w g i _ 67 _ h1, by simpa using h2⟩
theorem row_bke {B : Nat} {w : World} {g n : Nat} {cs : List Value} (h : w.ownsRow B 67 4 (.slice (some ⟨g, 0, none⟩) n n) n cs) : Bke w g (n * 4) := by
  rcases h.2 with ⟨e, _⟩ | ⟨g', cap, cur, e, _, hg, _, _, hs, _⟩
  · cases e
  · simp at e
    obtain ⟨rfl, rfl⟩ := e
    exact ⟨cur, hg, hs⟩
theorem bke_ne {w : World} {g b n m : Nat} (h : Bke w g n) (k : Le.Blk w b m) : g ≠ b := fun e => by
  subst e
  obtain ⟨c1, h1, _⟩ := h
  obtain ⟨c2, h2, _⟩ := k
  exact type_ne h2 h1
theorem Bke.same {w w' : World} {g n : Nat} (h : Bke w g n) (e : w'.heap[g]? = w.heap[g]?) : Bke w' g n := by
  obtain ⟨c, h1, h2⟩ := h
  exact ⟨c, e.trans h1, h2⟩
theorem cell_same {w w' : World} {g j : Nat} {u : Value} (h : w.cell? ⟨g, j, none⟩ = some u) (e : w'.heap[g]? = w.heap[g]?) : w'.cell? ⟨g, j, none⟩ = some u := by
  rw [← h]; simp only [World.cell?]; rw [e]
theorem kp_grown {f : Nat → Prop} {w w1 w2 : World} {q : Nat} (h : Bo.Kp f w w1) (hg : w1.grownBy w2 (some q)) (hq : f q) : Bo.Kp f w w2 := h.trans (Bo.Kp.grown hg (fun k e => by cases e; exact hq))
theorem put4_grown (W : World) (g i : Nat) (a b c d : Value) : W.grownBy ((((W.setCell ⟨g, i, none⟩ a).setCell ⟨g, i + 1, none⟩ b).setCell ⟨g, i + 2, none⟩ c).setCell ⟨g, i + 3, none⟩ d) (some g) :=
  Le.grown_trans (Le.grown_trans (Le.grown_trans (grown_setCell _ _ _ _) (grown_setCell _ _ _ _)) (grown_setCell _ _ _ _)) (grown_setCell _ _ _ _)
set_option maxHeartbeats 1600000 in
set_option maxRecDepth 1000000 in
theorem spoile_any (B g n : Nat) (ys : List En) (w : World) (f : Nat → Prop) (hr : w.ownsRow B 67 4 (.slice (some ⟨g, 0, none⟩) (n + 1) (n + 1)) (n + 1) (rowc (ys ++ [e77]))) (hsp : ∀ y ∈ ys, y.Sp f w) (hkv : ∀ y ∈ ys, y.kc = y.e.key.length + 2 ∧ y.vc = y.e.val.length + 2) (hl : ys.length = n) (hn : n ≤ 1000) (hw : wts (ers ys) ≤ 100000) (hg : f g) :
    Calls Try.prog 10 #[.slice (some ⟨g, 0, none⟩) n (n + 1)] w fun e w' => e = .returned (.tuple #[]) ∧ Bo.Kp f w w' := by
  have hcell : ∀ j u, (rowc (ys ++ [e77]))[j]? = some u → w.cell? ⟨g, j, none⟩ = some u := fun j u hu => by
    have := hr.cells (g := g) rfl j u hu
    rwa [Addr.add_lit, Nat.zero_add] at this
  have HC := hide hcell
  have HS := hide hsp
  have HK := hide (row_bke hr)
  have HKc := hide hkv
  have HG := hide hg
  have HLn := hide hl
  have HWt := hide hw
  clear hcell hr hsp hkv hg hl hw
  go_enter Try.func10, Try.ntmps10
  go_wp2
  go_loopw [2] (fun i wr => ∃ k : Nat, k ≤ n ∧ i = .int .i64 (k : Int) ∧ wr.heap[g]? = w.heap[g]? ∧ (∀ y ∈ ys, y.Sp f wr) ∧ Bo.Kp f w wr) (fun i _ => n - (intOf i).toNat)
  case atStart => exact ⟨0, Nat.zero_le _, rfl, rfl, HS.out, Bo.Kp.refl _ _⟩
  case round =>
    obtain ⟨k, hk, rfl, heq, hsp, hkp⟩ := hrel
    have HEq := hide heq
    have HSp := hide hsp
    have HKp := hide hkp
    clear heq hsp hkp
    by_cases hlt : k < n
    · obtain ⟨y, hyk⟩ : ∃ y, ys[k]? = some y := ⟨_, List.getElem?_eq_getElem (by rw [HLn.out]; exact hlt)⟩
      have hmem := List.mem_of_getElem? hyk
      have hyk' : (ys ++ [e77])[k]? = some y := by rw [List.getElem?_append_left (by rw [HLn.out]; exact hlt)]; exact hyk
      have c0 := HC.out (k * 4 + 0) _ (rowc_at hyk' (j := 0) rfl)
      have c1 := HC.out (k * 4 + 1) _ (rowc_at hyk' (j := 1) rfl)
      obtain ⟨hkc, hvc⟩ := HKc.out y hmem
      obtain ⟨⟨kg, k1, k2, k3⟩, vg, v1, v2, v3⟩ := HSp.out y hmem
      have hwx := mem_wts hyk
      have hkl : y.e.key.length ≤ 100000 := by have := HWt.out; omega
      have hvl : y.e.val.length ≤ 100000 := by have := HWt.out; omega
      rw [k1, hkc, Nat.add_zero] at c0
      rw [v1, hvc] at c1
      have d0 := cell_same c0 HEq.out
      have HD1 := hide c1
      have HBk := hide (HK.out.same HEq.out)
      have HK2 := hide k2
      have HV2 := hide v2
      have HK3 := hide k3
      have HV3 := hide v3
      have i1 : (0 : Int) ≤ (k : Int) := by omega
      have i2 : (k : Int) < (n : Int) := by omega
      clear hyk hyk' hmem hwx c0 c1 k1 k2 k3 v1 v2 v3 hkc hvc
      have M1 := hide trivial
      go_wp2_with (first | (go_at_call 25; have hmk := M1; clear hmk M1; refine (spoil_blk kg y.e.key.length (y.e.key.length + 2) wr HK3.out (by omega) (by omega)).mono ?_; rintro e w2 ⟨rfl, hg2, hb2⟩; have hne := bke_ne HBk.out HK3.out; have he2 := (hg2.block g (by obtain ⟨c, h1, _⟩ := HBk.out; exact lt_of_block h1) (fun e => hne (by simpa using e))).trans HEq.out; have d1 := cell_same HD1.out he2; have HE2 := hide he2; have HBk2 := hide (HK.out.same he2); have HSp2 := hide fun z hz => (HSp.out z hz).after HK3.out hg2 hb2; have HV4 := hide (blk_after HV3.out HK3.out hg2 hb2); have HKp2 := hide (kp_grown HKp.out hg2 HK2.out); clear hne he2 hg2 hb2 d0; have M2 := hide trivial) | (go_at_call 25; have hmk := M2; clear hmk M2; refine (spoil_blk vg y.e.val.length (y.e.val.length + 2) w2 HV4.out (by omega) (by omega)).mono ?_; rintro e w3 ⟨rfl, hg3, hb3⟩; have hne := bke_ne HBk2.out HV4.out; have he3 := (hg3.block g (by obtain ⟨c, h1, _⟩ := HBk2.out; exact lt_of_block h1) (fun e => hne (by simpa using e))).trans HE2.out; have HE3 := hide he3; have HSp3 := hide fun z hz => (HSp2.out z hz).after HV4.out hg3 hb3; have HKp3 := hide (kp_grown HKp2.out hg3 HV2.out); clear hne he3 hg3 hb3))
      go_roundw
      case rel => exact ⟨k + 1, by omega, by go_num, HE3.out, HSp3.out, HKp3.out⟩
      case measure => simp [intOf]; omega
    · have HBk := hide (HK.out.same HEq.out)
      go_wp2
      obtain ⟨W0, hW0⟩ : ∃ W0, W0 = wr := ⟨_, rfl⟩
      rw [← hW0] at HBk HKp
      rw [← hW0]
      clear hW0 HEq HSp
      go_loopw [4] (fun i wr => ∃ k : Nat, k ≤ n + 1 ∧ i = .int .i64 (k : Int) ∧ Bke wr g ((n + 1) * 4) ∧ Bo.Kp f w wr) (fun i _ => n + 1 - (intOf i).toNat)
      case atStart => exact ⟨0, Nat.zero_le _, rfl, HBk.out, HKp.out⟩
      case round =>
        obtain ⟨j, hj, rfl, hb, hkp⟩ := hrel
        have HB := hide hb
        have HKq := hide hkp
        clear hb hkp
        by_cases hlt2 : j < n + 1
        · obtain ⟨u0, c0⟩ := HB.out.c (j * 4) (by omega)
          obtain ⟨u1, c1⟩ := HB.out.c (j * 4 + 1) (by omega)
          obtain ⟨u2, c2⟩ := HB.out.c (j * 4 + 2) (by omega)
          obtain ⟨u3, c3⟩ := HB.out.c (j * 4 + 3) (by omega)
          have f0 := HB.out.f (j * 4)
          have f1 := HB.out.f (j * 4 + 1)
          have f2 := HB.out.f (j * 4 + 2)
          have f3 := HB.out.f (j * 4 + 3)
          go_wp2
          go_roundw
          case rel => exact ⟨j + 1, by omega, by go_num, (((HB.out.set _ _).set _ _).set _ _).set _ _, kp_grown HKq.out (put4_grown _ _ _ _ _ _ _) HG.out⟩
          case measure => simp [intOf]; omega
        · go_wp2
          go_end0
          exact ⟨rfl, HKq.out⟩
end Go.Proofs.Ytfpojfohlmhklaa
