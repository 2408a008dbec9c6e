/- Plain mathematics of states. -/
import Derived.Test.YtfbkcolcdkglbaaPN
namespace Go.Proofs.Ytfbkcolcdkglbaa
set_option linter.unusedVariables false
namespace Pg
open Crc

/-- a state. -/
structure M where
  g : Nat
  r : Nat
  f : Nat
  p : Nat
  k : Nat
deriving DecidableEq
/-- the numbers fit their types. -/
def M.Fit (m : M) : Prop := m.g < 18446744073709551616 ∧ m.r < 4294967296 ∧ m.f < 4294967296 ∧ m.p < 4294967296 ∧ m.k < 18446744073709551616
/-- may stand there. -/
def stB (x p : Nat) : Bool := decide (x = 0) || (decide (2 ≤ x) && decide (x < p))
/-- may be. -/
def M.May (m : M) : Prop := 1 ≤ m.g ∧ m.g ≤ 4611686018427387904 ∧ 2 ≤ m.p ∧ m.p ≤ 16384 ∧ stB m.r m.p = true ∧ stB m.f m.p = true ∧ (m.r ≠ m.f ∨ m.r = 0) ∧ m.k ≤ 4611686018427387904 ∧ (m.k = 0 ↔ m.r = 0)
instance (m : M) : Decidable m.May := by unfold M.May; infer_instance
theorem st_lt {x p : Nat} (h : stB x p = true) (hp : 2 ≤ p) : x < p := by
  simp [stB] at h
  omega
theorem M.May.fit {m : M} (h : m.May) : m.Fit := by
  obtain ⟨h1, h2, h3, h4, h5, h6, h7, h8, h9⟩ := h
  have := st_lt h5 h3
  have := st_lt h6 h3
  refine ⟨?_, ?_, ?_, ?_, ?_⟩ <;> omega
/-- a state's bytes as they are laid down. -/
def mh (m : M) : List Int := [67, 77, 69, 84] ++ le 8 m.g ++ le 4 m.r ++ le 4 m.f ++ le 4 m.p ++ le 8 m.k
/-- a state as a sector. -/
def mt (m : M) : List Int := sl 128 (mh m)
/-- ahead of the sum. -/
def mb (m : M) : List Int := [67, 77, 69, 84] ++ (le 8 m.g ++ (le 4 m.r ++ (le 4 m.f ++ (le 4 m.p ++ (le 8 m.k ++ List.replicate 92 0)))))
theorem mh_length (m : M) : (mh m).length = 32 := by simp [mh, le_length]
theorem fill_mh (m : M) : fill 128 (mh m) = mb m := by
  rw [fill, mh_length]
  simp [mh, mb]
theorem mt_eq (m : M) : mt m = mb m ++ le 4 (more 0 (mb m)) := by rw [mt, sl, fill_mh]
theorem cm8 : B8 [67, 77, 69, 84] := by intro c hc; simp at hc; omega
theorem mh_b8 (m : M) : B8 (mh m) := b8_app (b8_app (b8_app (b8_app (b8_app cm8 (le_b8 _ _)) (le_b8 _ _)) (le_b8 _ _)) (le_b8 _ _)) (le_b8 _ _)
theorem mt_b8 (m : M) : B8 (mt m) := sl_b8 _ _ (mh_b8 m)
theorem mb_length (m : M) : (mb m).length = 124 := by rw [← fill_mh, fill_length _ _ (by rw [mh_length]; omega)]
theorem mt_length (m : M) : (mt m).length = 128 := sl_length _ _ (by rw [mh_length]; omega)
theorem mt_right (m : M) : Rt 128 (mt m) := sl_right _ _ (by rw [mh_length]; omega) (mh_b8 m)
theorem mt_take (m : M) : (mt m).take 124 = mb m := by rw [mt_eq]; exact List.take_left' (mb_length m)
theorem mt_mark (m : M) : (mt m).take 4 = [67, 77, 69, 84] := by
  rw [mt_eq, mb, List.append_assoc]
  exact List.take_left' rfl
/-- the state that bytes would be. -/
def fld (zs : List Int) : M := ⟨leV ((zs.drop 4).take 8), leV ((zs.drop 12).take 4), leV ((zs.drop 16).take 4), leV ((zs.drop 20).take 4), leV ((zs.drop 24).take 8)⟩
/-- the state of a sector, by the document's own words. -/
def get (zs : List Int) : Option M := if 128 ≤ zs.length ∧ (fld zs).May ∧ zs.take 128 = mt (fld zs) then some (fld zs) else none
theorem take_drop_of (A B C : List Int) (i k : Nat) (hA : A.length = i) (hB : B.length = k) : ((A ++ (B ++ C)).drop i).take k = B := by
  rw [List.drop_left' hA]; exact List.take_left' hB
theorem p8 : (256 : Nat) ^ 8 = 18446744073709551616 := by decide
theorem p4 : (256 : Nat) ^ 4 = 4294967296 := by decide
theorem fld_mt (m : M) (h : m.Fit) (rest : List Int) : fld (mt m ++ rest) = m := by
  obtain ⟨h1, h2, h3, h4, h5⟩ := h
  have e : mt m ++ rest = [67, 77, 69, 84] ++ (le 8 m.g ++ (le 4 m.r ++ (le 4 m.f ++ (le 4 m.p ++ (le 8 m.k ++ (List.replicate 92 0 ++ (le 4 (more 0 (mb m)) ++ rest))))))) := by
    rw [mt_eq]
    conv => lhs; arg 1; arg 1; rw [mb]
    simp
  have a1 := take_drop_of [67, 77, 69, 84] (le 8 m.g) (le 4 m.r ++ (le 4 m.f ++ (le 4 m.p ++ (le 8 m.k ++ (List.replicate 92 0 ++ (le 4 (more 0 (mb m)) ++ rest)))))) 4 8 rfl (le_length _ _)
  have a2 := take_drop_of ([67, 77, 69, 84] ++ le 8 m.g) (le 4 m.r) (le 4 m.f ++ (le 4 m.p ++ (le 8 m.k ++ (List.replicate 92 0 ++ (le 4 (more 0 (mb m)) ++ rest))))) 12 4 (by simp [le_length]) (le_length _ _)
  have a3 := take_drop_of ([67, 77, 69, 84] ++ le 8 m.g ++ le 4 m.r) (le 4 m.f) (le 4 m.p ++ (le 8 m.k ++ (List.replicate 92 0 ++ (le 4 (more 0 (mb m)) ++ rest)))) 16 4 (by simp [le_length]) (le_length _ _)
  have a4 := take_drop_of ([67, 77, 69, 84] ++ le 8 m.g ++ le 4 m.r ++ le 4 m.f) (le 4 m.p) (le 8 m.k ++ (List.replicate 92 0 ++ (le 4 (more 0 (mb m)) ++ rest))) 20 4 (by simp [le_length]) (le_length _ _)
  have a5 := take_drop_of ([67, 77, 69, 84] ++ le 8 m.g ++ le 4 m.r ++ le 4 m.f ++ le 4 m.p) (le 8 m.k) (List.replicate 92 0 ++ (le 4 (more 0 (mb m)) ++ rest)) 24 8 (by simp [le_length]) (le_length _ _)
  simp only [List.append_assoc] at a1 a2 a3 a4 a5 e
  unfold fld
  rw [e, a1, a2, a3, a4, a5, leV_le 8 m.g (by rw [p8]; exact h1), leV_le 4 m.r (by rw [p4]; exact h2), leV_le 4 m.f (by rw [p4]; exact h3), leV_le 4 m.p (by rw [p4]; exact h4), leV_le 8 m.k (by rw [p8]; exact h5)]
theorem get_mt (m : M) (h : m.May) (rest : List Int) : get (mt m ++ rest) = some m := by
  rw [get, fld_mt m h.fit, if_pos ⟨by rw [List.length_append, mt_length]; omega, h, List.take_left' (mt_length m)⟩]
theorem get_mt' (m : M) (h : m.May) : get (mt m) = some m := by
  have := get_mt m h []
  rwa [List.append_nil] at this
theorem get_some {zs : List Int} {m : M} (h : get zs = some m) : m.May ∧ zs.take 128 = mt m := by
  rw [get] at h
  split at h
  · rename_i hc
    cases h
    exact hc.2
  · cases h
theorem get_none {zs : List Int} (h : ∀ m : M, m.May → zs.take 128 ≠ mt m) : get zs = none := by
  cases e : get zs with
  | none => rfl
  | some m => obtain ⟨h1, h2⟩ := get_some e; exact absurd h2 (h m h1)
theorem get_of {zs : List Int} {m : M} (h : m.May) (e : zs.take 128 = mt m) : get zs = some m := by
  have : zs = mt m ++ zs.drop 128 := by rw [← e, List.take_append_drop]
  rw [this]; exact get_mt m h _
theorem get_take (zs : List Int) : get (zs.take 128) = get zs := by
  cases e : get zs with
  | some m =>
    obtain ⟨h1, h2⟩ := get_some e
    rw [h2]; exact get_mt' m h1
  | none =>
    apply get_none
    intro m hm h
    rw [List.take_take, Nat.min_self] at h
    rw [get_of hm h] at e
    cases e
theorem get_wrong {zs : List Int} (h : ¬ Rt 128 (zs.take 128)) : get zs = none := by
  apply get_none
  intro m hm e
  rw [e] at h
  exact h (mt_right m)
/-- bytes ahead of a sum, cut as a state is. -/
theorem cutm (B : List Int) (h : B.length = 124) : ∃ x1 x2 x3 x4 x5 x6 R : List Int, B = x1 ++ (x2 ++ (x3 ++ (x4 ++ (x5 ++ (x6 ++ R))))) ∧ x1.length = 4 ∧ x2.length = 8 ∧ x3.length = 4 ∧ x4.length = 4 ∧ x5.length = 4 ∧ x6.length = 8 ∧ R.length = 92 := by
  refine ⟨B.take 4, (B.drop 4).take 8, (B.drop 12).take 4, (B.drop 16).take 4, (B.drop 20).take 4, (B.drop 24).take 8, B.drop 32, ?_, by simp [h], by simp [h], by simp [h], by simp [h], by simp [h], by simp [h], by simp [h]⟩
  have e6 : (B.drop 24).take 8 ++ B.drop 32 = B.drop 24 := by have := List.take_append_drop 8 (B.drop 24); rwa [List.drop_drop] at this
  have e5 : (B.drop 20).take 4 ++ B.drop 24 = B.drop 20 := by have := List.take_append_drop 4 (B.drop 20); rwa [List.drop_drop] at this
  have e4 : (B.drop 16).take 4 ++ B.drop 20 = B.drop 16 := by have := List.take_append_drop 4 (B.drop 16); rwa [List.drop_drop] at this
  have e3 : (B.drop 12).take 4 ++ B.drop 16 = B.drop 12 := by have := List.take_append_drop 4 (B.drop 12); rwa [List.drop_drop] at this
  have e2 : (B.drop 4).take 8 ++ B.drop 12 = B.drop 4 := by have := List.take_append_drop 8 (B.drop 4); rwa [List.drop_drop] at this
  rw [e6, e5, e4, e3, e2, List.take_append_drop]
theorem get_cut {zs x1 x2 x3 x4 x5 x6 R : List Int} (h8 : B8 zs) (hr : Rt 128 (zs.take 128)) (hc : (zs.take 128).take 124 = x1 ++ (x2 ++ (x3 ++ (x4 ++ (x5 ++ (x6 ++ R))))))
    (l1 : x1.length = 4) (l2 : x2.length = 8) (l3 : x3.length = 4) (l4 : x4.length = 4) (l5 : x5.length = 4) (l6 : x6.length = 8) (lR : R.length = 92) :
    (x1 = [67, 77, 69, 84] → R = List.replicate 92 0 → (M.mk (leV x2) (leV x3) (leV x4) (leV x5) (leV x6)).May → get zs = some (M.mk (leV x2) (leV x3) (leV x4) (leV x5) (leV x6))) ∧
    (¬ (x1 = [67, 77, 69, 84] ∧ R = List.replicate 92 0 ∧ (M.mk (leV x2) (leV x3) (leV x4) (leV x5) (leV x6)).May) → get zs = none) := by
  have b := b8_take (b8_take h8 128) 124
  rw [hc] at b
  have bx : ∀ l : List Int, (∀ c ∈ l, c ∈ x1 ++ (x2 ++ (x3 ++ (x4 ++ (x5 ++ (x6 ++ R)))))) → B8 l := fun l hl c hc => b c (hl c hc)
  have b2 : B8 x2 := bx x2 (fun c hc => by simp [hc])
  have b3 : B8 x3 := bx x3 (fun c hc => by simp [hc])
  have b4 : B8 x4 := bx x4 (fun c hc => by simp [hc])
  have b5 : B8 x5 := bx x5 (fun c hc => by simp [hc])
  have b6 : B8 x6 := bx x6 (fun c hc => by simp [hc])
  constructor
  · intro e1 eR hm
    apply get_of hm
    have hz := right_is 128 (zs.take 128) (b8_take h8 _) (by omega) hr
    have hb : (zs.take 128).take 124 = mb (M.mk (leV x2) (leV x3) (leV x4) (leV x5) (leV x6)) := by
      have i2 := le_leV x2 b2
      have i3 := le_leV x3 b3
      have i4 := le_leV x4 b4
      have i5 := le_leV x5 b5
      have i6 := le_leV x6 b6
      rw [l2] at i2
      rw [l3] at i3
      rw [l4] at i4
      rw [l5] at i5
      rw [l6] at i6
      rw [hc, mb, i2, i3, i4, i5, i6, e1, eR]
    rw [mt_eq, ← hb]; exact hz
  · intro hno
    apply get_none
    intro m hm e
    apply hno
    have hb : (zs.take 128).take 124 = mb m := by rw [e]; exact mt_take m
    rw [hc, mb] at hb
    obtain ⟨e1, e2, e3, e4, e5, e6, eR⟩ := peel6 _ _ _ _ _ _ _ _ _ _ _ _ _ _ hb (by rw [l1]; rfl) (by rw [l2, le_length]) (by rw [l3, le_length]) (by rw [l4, le_length]) (by rw [l5, le_length]) (by rw [l6, le_length])
    obtain ⟨f1, f2, f3, f4, f5⟩ := hm.fit
    refine ⟨e1, eR, ?_⟩
    rw [e2, e3, e4, e5, e6, leV_le 8 m.g (by rw [p8]; exact f1), leV_le 4 m.r (by rw [p4]; exact f2), leV_le 4 m.f (by rw [p4]; exact f3), leV_le 4 m.p (by rw [p4]; exact f4), leV_le 8 m.k (by rw [p8]; exact f5)]
    exact hm
end Pg
end Go.Proofs.Ytfbkcolcdkglbaa
