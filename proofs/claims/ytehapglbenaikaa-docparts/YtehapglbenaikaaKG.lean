/- Contracts of write of any value, of written, Encode and Size. -/
import Derived.Test.YtehapglbenaikaaKF
import Derived.Test.YtehapglbenaikaaVJ
import Derived.Test.YtehapglbenaikaaVN
namespace Go.Proofs.Ytehapglbenaikaa
open Go.RowKit
set_option linter.unusedVariables false

mutual
/-- numbers as a machine holds them, texts not too long, kinds 1 to 7. -/
def T.Wd : T → Prop
  | .mk k bo n t ya yc y la lc l fa fc f => (1 ≤ k ∧ k ≤ 7) ∧ (-9223372036854775808 ≤ n ∧ n ≤ 9223372036854775807) ∧ t.size ≤ 10000000 ∧ y.length ≤ 10000000 ∧ l.Wd ∧ f.Wd
def TL.Wd : TL → Prop
  | .nil => True
  | .cons v r => v.Wd ∧ r.Wd
def FL.Wd : FL → Prop
  | .nil => True
  | .cons s v r => s.size ≤ 10000000 ∧ v.Wd ∧ r.Wd
end
theorem TL.Wd.at : ∀ (l : TL), l.Wd → ∀ c ∈ l.list, c.Wd
  | .nil, _, c, h => by simp [TL.list] at h
  | .cons v r, ⟨h1, h2⟩, c, h => by
    simp only [TL.list, List.mem_cons] at h
    rcases h with rfl | h
    · exact h1
    · exact TL.Wd.at r h2 c h
theorem FL.Wd.at : ∀ (l : FL), l.Wd → ∀ c ∈ l.list, c.1.size ≤ 10000000 ∧ c.2.Wd
  | .nil, _, c, h => by simp [FL.list] at h
  | .cons s v r, ⟨h0, h1, h2⟩, c, h => by
    simp only [FL.list, List.mem_cons] at h
    rcases h with rfl | h
    · exact ⟨h0, h1⟩
    · exact FL.Wd.at r h2 c h
theorem write_gen (n₀ p pw pp : Nat) : ∀ (N : Nat) (v : T), v.sz ≤ N → v.Wd → Does n₀ p pw pp v := by
  intro N
  induction N with
  | zero => intro v hv; cases v; simp [T.sz] at hv
  | succ N ih =>
    intro v hv hw W zs h hs hm hN hn hb
    cases v with
    | mk k bo n t ya yc y la lc l fa fc f =>
    obtain ⟨⟨k1, k7⟩, hnn, ht, hy, hwl, hwf⟩ := hw
    simp only [T.val]
    have hk : k = 1 ∨ k = 2 ∨ k = 3 ∨ k = 4 ∨ k = 5 ∨ k = 6 ∨ k = 7 := by omega
    rcases hk with rfl | rfl | rfl | rfl | rfl | rfl | rfl
    · have e : (T.mk 1 bo n t ya yc y la lc l fa fc f).denc = [1] := by simp [T.denc]
      rw [e]
      exact dw1 W p _ bo n t ya yc y la l.list.length lc fa f.list.length fc zs h (by omega)
    · cases bo
      · have e : (T.mk 2 false n t ya yc y la lc l fa fc f).denc = [2] := by simp [T.denc]
        rw [e]
        exact dw2f W p _ n t ya yc y la l.list.length lc fa f.list.length fc zs h (by omega)
      · have e : (T.mk 2 true n t ya yc y la lc l fa fc f).denc = [3] := by simp [T.denc]
        rw [e]
        exact dw2t W p _ n t ya yc y la l.list.length lc fa f.list.length fc zs h (by omega)
    · have e : (T.mk 3 bo n t ya yc y la lc l fa fc f).denc = 4 :: vb (zz n) := by simp [T.denc]
      rw [e]
      exact dw3 W p _ bo n t ya yc y la l.list.length lc fa f.list.length fc zs h (by omega) hnn
    · have e : (T.mk 4 bo n t ya yc y la lc l fa fc f).denc = 5 :: (vb t.size ++ sb t) := by simp [T.denc]
      rw [e]
      exact dw4 W p _ bo n t ya yc y la l.list.length lc fa f.list.length fc zs h (by omega) ht
    · have e : (T.mk 5 bo n t ya yc y la lc l fa fc f).denc = 6 :: (vb y.length ++ y) := by simp [T.denc]
      rw [e]
      exact dw5 W p _ bo n t ya yc y la l.list.length lc fa f.list.length fc zs h (by omega) n₀ hN hn hm.1 hm.2.1 hm.2.2.1 hy
    · have e : (T.mk 6 bo n t ya yc y la lc l fa fc f).denc = 7 :: (vb l.list.length ++ l.denc) := by simp [T.denc]
      rw [e] at hb ⊢
      simp only [List.length_cons, List.length_append] at hb
      refine dw6 W n₀ p pw pp bo n t ya y.length yc la lc l fa f.list.length fc zs h hs hm.2.2.2.2.1 hN hn hm.2.2.2.2.2.2.1 (by omega) ?_
      intro c hc
      have hz := T.kid_sz (T.mk 6 bo n t ya yc y la lc l fa fc f) c (by simp only [T.kids]; exact List.mem_append_left _ hc)
      exact ih c (by omega) (TL.Wd.at l hwl c hc)
    · have e : (T.mk 7 bo n t ya yc y la lc l fa fc f).denc = 8 :: (vb f.list.length ++ f.denc) := by simp [T.denc]
      rw [e] at hb ⊢
      simp only [List.length_cons, List.length_append] at hb
      refine dw7 W n₀ p pw pp bo n t ya y.length yc la l.list.length lc fa fc f zs h hs hm.2.2.2.2.2.2.2.1 hN hn hm.2.2.2.2.2.2.2.2.2 (fun x hx => (FL.Wd.at f hwf x hx).1) (by omega) ?_
      intro x hx
      have hz := T.kid_sz (T.mk 7 bo n t ya yc y la lc l fa fc f) x.2 (by simp only [T.kids]; exact List.mem_append_right _ (List.mem_map_of_mem hx))
      exact ih x.2 (by omega) (FL.Wd.at f hwf x hx).2
end Go.Proofs.Ytehapglbenaikaa
