/- Mathematics: a value that One takes may stand in a key; the bytes of tuples one behind the other. -/
import Derived.Test.YtegoeaofjnpehaaXD
import Derived.Test.YtegoeaofjnpehaaVR
namespace Go.Proofs.Ytegoeaofjnpehaa
set_option linter.unusedVariables false

theorem sb_inj (s t : ByteArray) (h : sb s = sb t) : s = t := by rw [← bk_sb s, ← bk_sb t, h]
mutual
/-- nothing but what its kind has, here and in the lists below. -/
def T.cl : T → Prop
  | .mk k bo n t ya yc y la lc l fa fc f => f.list = [] ∧ (k ≠ 2 → bo = false) ∧ (k ≠ 3 → n = 0) ∧ (k ≠ 4 → t = ⟨#[]⟩) ∧ (k ≠ 5 → y = []) ∧ (k ≠ 6 → l.list = []) ∧ l.cl
def TL.cl : TL → Prop
  | .nil => True
  | .cons v r => v.cl ∧ r.cl
end
theorem fit_clean {k : Int} {bo : Bool} {n : Int} {t : ByteArray} {ya : Option Addr} {yc : Nat} {y : List Int} {la : Option Addr} {lc : Nat} {l : TL} {fa : Option Addr} {fc : Nat} {f : FL} (h : fitE (.mk k bo n t ya yc y la lc l fa fc f) = 0) (h7 : k ≠ 7) : f.list = [] ∧ (k ≠ 2 → bo = false) ∧ (k ≠ 3 → n = 0) ∧ (k ≠ 4 → t = ⟨#[]⟩) ∧ (k ≠ 5 → y = []) ∧ (k ≠ 6 → l.list = []) := by
  by_cases h2 : k = 2
  · subst h2
    simp [fitE, alB] at h
    exact ⟨h.2.2.2.2, by simp, by simp [h.1], by simp [h.2.1], by simp [h.2.2.1], by simp [h.2.2.2.1]⟩
  by_cases h3 : k = 3
  · subst h3
    simp [fitE, alB] at h
    exact ⟨h.2.2.2.2, by simp [h.1], by simp, by simp [h.2.1], by simp [h.2.2.1], by simp [h.2.2.2.1]⟩
  by_cases h4 : k = 4
  · subst h4
    by_cases hb : alB 4 bo n t y.length l.list.length f.list.length 4 false 0 t 0 0 0 = true
    · simp only [alB, decide_eq_true_eq] at hb
      obtain ⟨_, e1, e2, e3, e4, e5, e6⟩ := hb
      exact ⟨List.length_eq_zero_iff.1 e6, fun _ => e1, fun _ => e2, fun h => absurd rfl h, fun _ => List.length_eq_zero_iff.1 e4, fun _ => List.length_eq_zero_iff.1 e5⟩
    · simp [fitE, hb] at h
  by_cases h5 : k = 5
  · subst h5
    by_cases hb : alB 5 bo n t y.length l.list.length f.list.length 5 false 0 ⟨#[]⟩ y.length 0 0 = true
    · simp only [alB, decide_eq_true_eq] at hb
      obtain ⟨_, e1, e2, e3, e4, e5, e6⟩ := hb
      exact ⟨List.length_eq_zero_iff.1 e6, fun _ => e1, fun _ => e2, fun _ => e3, fun h => absurd rfl h, fun _ => List.length_eq_zero_iff.1 e5⟩
    · simp [fitE, hb] at h
  by_cases h6 : k = 6
  · subst h6
    simp [fitE, alB] at h
    exact ⟨h.2.2.2.2, by simp [h.1], by simp [h.2.1], by simp [h.2.2.1], by simp [h.2.2.2.1], by simp⟩
  simp only [fitE, h2, h3, h4, h5, h6, h7, if_false] at h
  by_cases hb : alB k bo n t y.length l.list.length f.list.length 1 false 0 ⟨#[]⟩ 0 0 0 = true
  · simp only [alB, decide_eq_true_eq] at hb
    obtain ⟨_, e1, e2, e3, e4, e5, e6⟩ := hb
    exact ⟨List.length_eq_zero_iff.1 e6, fun _ => e1, fun _ => e2, fun _ => e3, fun _ => List.length_eq_zero_iff.1 e4, fun _ => List.length_eq_zero_iff.1 e5⟩
  · rw [if_neg hb] at h
    omega
theorem TL.cl_of : ∀ (l : TL), (∀ c ∈ l.list, c.cl) → l.cl
  | .nil, _ => trivial
  | .cons v r, h => ⟨h v (by simp [TL.list]), TL.cl_of r (fun c hc => h c (by simp [TL.list, hc]))⟩
theorem cl_of : ∀ (N : Nat) (v : T), v.sz ≤ N → ∀ e, (∀ z ∈ v.flat e, fitE z.2 = 0) → v.hd = false → v.cl := by
  intro N
  induction N with
  | zero => intro v hv; cases v; simp [T.sz] at hv
  | succ N ih =>
    intro v hv e hz hd
    have h0 := hz (e, v) (by rw [T.flat_is]; simp)
    cases v with
    | mk k bo n t ya yc y la lc l fa fc f =>
    simp only [T.hd, Bool.or_eq_false_iff, decide_eq_false_iff_not] at hd
    obtain ⟨c1, c2, c3, c4, c5, c6⟩ := fit_clean h0 hd.1
    refine ⟨c1, c2, c3, c4, c5, c6, TL.cl_of l (fun c hc => ?_)⟩
    have hkid : c ∈ (T.mk k bo n t ya yc y la lc l fa fc f).kids := by simp only [T.kids]; exact List.mem_append_left _ hc
    have hs := T.kid_sz _ c hkid
    refine ih c (by omega) (e + 1) (fun z hzc => hz z ?_) ?_
    · rw [T.flat_is]
      exact List.mem_cons_of_mem _ (List.mem_flatMap.2 ⟨c, hkid, hzc⟩)
    · have h9 := hd.2
      rw [TL.hd_is] at h9
      have := List.any_eq_false.1 h9 c hc
      simpa using this
theorem one_cl (v : T) (h : oneE v = 0) : v.cl := by
  unfold oneE at h
  by_cases hc : ckE v = 0
  · rw [if_pos hc] at h
    cases hh : v.hd
    · refine cl_of v.sz v (Nat.le_refl _) 1 ?_ hh
      unfold ckE chk at hc
      split at hc
      · omega
      split at hc
      · omega
      exact firstE_zero _ _ hc
    · rw [hh] at h
      simp at h
  · rw [if_neg hc] at h
    omega
mutual
theorem T.gk_of {n₀ : Nat} {W : World} : ∀ v : T, v.cl → v.ok → v.Szd → v.Mem n₀ W → v.enc.length ≤ 4000 → v.gk ∧ v.sz ≤ v.enc.length
  | .mk k bo n t ya yc y la lc l fa fc f, hc, ho, hz, hm, he => by
    obtain ⟨c1, c2, c3, c4, c5, c6, c7⟩ := hc
    have hy := hm.2.1
    have hn := hz.2.1
    obtain rfl := FL.nil_of' f c1
    have ht := esc_ge (sb t)
    have hs : (sb t).length = t.size := sb_len t
    have hye := esc_ge y
    by_cases h6 : k = 6
    · subst h6
      have hl6 : l.ok := by simpa [T.ok] using ho
      have e6 : (T.mk 6 bo n t ya yc y la lc l fa fc .nil).enc = 96 :: (l.enc ++ [1]) := by simp [T.enc]
      rw [e6] at he ⊢
      simp only [List.length_cons, List.length_append, List.length_nil] at he ⊢
      have ih := TL.gk_of l la 0 c7 hl6 hz.2.2.2.1 hm.2.2.2.2.1 (by omega)
      have t0 := c4 (by omega)
      have y0 := c5 (by omega)
      subst t0
      subst y0
      refine ⟨⟨⟨by omega, hn, by decide, by simp, hy⟩, ⟨c2, c3, c4, c5, c6, c1⟩, ih.1⟩, ?_⟩
      simp only [T.sz, FL.sz]
      omega
    · obtain rfl := TL.nil_of' l (c6 h6)
      have hk : k = 1 ∨ k = 2 ∨ k = 3 ∨ k = 4 ∨ k = 5 := by simpa [T.ok, h6] using ho
      have hts : t.size ≤ 4000 ∧ y.length ≤ 4000 ∧ 1 ≤ (T.mk k bo n t ya yc y la lc .nil fa fc .nil).enc.length := by
        rcases hk with rfl | rfl | rfl | rfl | rfl
        · rw [c4 (by omega), c5 (by omega)]; exact ⟨by decide, by simp, by simp [T.enc]⟩
        · rw [c4 (by omega), c5 (by omega)]; exact ⟨by decide, by simp, by simp [T.enc, bB]⟩
        · rw [c4 (by omega), c5 (by omega)]; exact ⟨by decide, by simp, by simp [T.enc, bI]⟩
        · rw [c5 (by omega)]
          have e4 : (T.mk 4 bo n t ya yc y la lc .nil fa fc .nil).enc = bT t := by simp [T.enc]
          rw [e4] at he
          simp [T.enc, bT] at he ⊢
          omega
        · rw [c4 (by omega)]
          have e4 : (T.mk 5 bo n t ya yc y la lc .nil fa fc .nil).enc = bYs y := by simp [T.enc]
          rw [e4] at he
          have z0 : (⟨#[]⟩ : ByteArray).size = 0 := rfl
          simp [T.enc, bYs] at he ⊢
          omega
      refine ⟨⟨⟨by omega, hn, hts.1, hts.2.1, hy⟩, ⟨c2, c3, c4, c5, c6, c1⟩, trivial⟩, ?_⟩
      simp only [T.sz, FL.sz, TL.sz]
      omega
theorem TL.gk_of {n₀ : Nat} {W : World} : ∀ (l : TL) (la : Option Addr) (k : Nat), l.cl → l.ok → l.Szd → l.Mem n₀ W la k → l.enc.length ≤ 4000 → l.gk ∧ l.sz ≤ l.enc.length
  | .nil, _, _, _, _, _, _, _ => ⟨trivial, by simp [TL.sz]⟩
  | .cons v r, la, k, hc, ho, hz, hm, he => by
    simp only [TL.enc, List.length_append] at he
    have h1 := T.gk_of v hc.1 ho.1 hz.1 hm.2.1 (by omega)
    have h2 := TL.gk_of r la (k + 1) hc.2 ho.2 hz.2 hm.2.2 (by omega)
    refine ⟨⟨h1.1, h2.1⟩, ?_⟩
    simp only [TL.sz, TL.enc, List.length_append]
    omega
end
theorem tn_tn (d : Bool) (c : Int) (h : 0 ≤ c ∧ c ≤ 255) : tn (mk d) (tn (mk d) c) = c := by
  cases d
  · rw [show mk false = 0 from rfl, tn_up c h.1, tn_up c h.1]
  · rw [show mk true = 255 from rfl, tn_down c h, tn_down _ (by omega)]
    omega
theorem map_tn_tn (d : Bool) (l : List Int) (h : Byts l) : (l.map (tn (mk d))).map (tn (mk d)) = l := by
  rw [List.map_map]
  conv => rhs; rw [← List.map_id l]
  exact List.map_congr_left (fun c hc => tn_tn d c (h c hc))
end Go.Proofs.Ytegoeaofjnpehaa
