/- Mathematics: what is read is what was written; a value's bytes tell it. -/
import Derived.Test.YtehapglbenaikaaKT
import Derived.Test.YtehapglbenaikaaWA
namespace Go.Proofs.Ytehapglbenaikaa
open Go.RowKit
set_option linter.unusedVariables false

/-- what a varint that is read is: its bytes are those that the number is written as. -/
theorem vgo_form (k v : Nat) (bs : List Int) (hb : Byts bs) :
    ((vgo k v bs).2.2 ≠ 0 → (vgo k v bs).1 = 0 ∧ (vgo k v bs).2.1 = 0) ∧
    ((vgo k v bs).2.2 = 0 → ∃ u j, (vgo k v bs).1 = v + u * 128 ^ k ∧ (vgo k v bs).2.1 = k + j ∧ 1 ≤ j ∧ j ≤ bs.length ∧ bs.take j = vb u ∧ (0 < k → u ≠ 0)) := by
  induction bs generalizing k v with
  | nil => simp [vgo]
  | cons c t ih =>
    have hc := hb c (by simp)
    rw [vgo_cons]
    split
    · simp
    · rename_i hn
      split
      · rename_i h128
        refine ⟨by simp, fun _ => ⟨c.toNat, 1, rfl, rfl, by omega, by simp, ?_, ?_⟩⟩
        · rw [vb_small _ (by omega)]; simp; omega
        · intro hk hz
          exact hn (.inr ⟨hk, by omega⟩)
      · rename_i h128
        obtain ⟨h1, h2⟩ := ih (k + 1) (v + (c.toNat - 128) * 128 ^ k) (fun d hd => hb d (by simp [hd]))
        refine ⟨h1, fun h0 => ?_⟩
        obtain ⟨u, j, e1, e2, e3, e4, e5, e6⟩ := h2 h0
        refine ⟨(c.toNat - 128) + 128 * u, j + 1, ?_, by omega, by omega, by simp; omega, ?_, ?_⟩
        · rw [e1, Nat.add_mul, Nat.pow_succ, Nat.add_assoc]
          congr 2
          rw [Nat.mul_comm (128 ^ k) 128, ← Nat.mul_assoc, Nat.mul_comm u 128]
        · have hu := e6 (by omega)
          have e7 : ((c.toNat - 128) + 128 * u) % 128 + 128 = c.toNat := by omega
          have e8 : ((c.toNat - 128) + 128 * u) / 128 = u := by omega
          rw [List.take_succ_cons, e5, vb_big ((c.toNat - 128) + 128 * u) (by omega), e7, e8, Int.toNat_of_nonneg hc.1]
        · intro _
          have hu := e6 (by omega)
          omega
theorem vint_form (bs : List Int) (hb : Byts bs) (h : (vint bs).2.2 = 0) : 1 ≤ (vint bs).2.1 ∧ (vint bs).2.1 ≤ bs.length ∧ bs.take (vint bs).2.1 = vb (vint bs).1 := by
  obtain ⟨u, j, e1, e2, e3, e4, e5, _⟩ := (vgo_form 0 0 bs hb).2 h
  rw [vint]
  rw [e1, e2]
  simp only [Nat.zero_add, Nat.pow_zero, Nat.mul_one]
  exact ⟨e3, e4, e5⟩
theorem vint_none (bs : List Int) (hb : Byts bs) (h : (vint bs).2.2 ≠ 0) : (vint bs).1 = 0 ∧ (vint bs).2.1 = 0 := (vgo_form 0 0 bs hb).1 h
theorem vgo_vb (u : Nat) : ∀ (k x : Nat) (t : List Int), k ≤ 9 → (0 < k → u ≠ 0) → u * 128 ^ k < 18446744073709551616 → vgo k x (vb u ++ t) = (x + u * 128 ^ k, k + (vb u).length, 0) := by
  induction u using Nat.strongRecOn with
  | _ u ih =>
    intro k x t hk h0 hb
    by_cases h : u < 128
    · rw [vb_small u h, List.singleton_append, vgo_cons, if_neg, if_pos (by omega), Int.toNat_natCast]
      · rfl
      · rintro (⟨rfl, h1⟩ | ⟨h1, h2⟩)
        · have e : (128 : Nat) ^ 9 = 9223372036854775808 := by decide
          rw [e] at hb
          have := h0 (by omega)
          omega
        · exact h0 h1 (by omega)
    · have hp : 0 < 128 ^ k := Nat.pow_pos (by omega)
      have hk9 : k ≠ 9 := fun e => by
        subst e
        have e : (128 : Nat) ^ 9 = 9223372036854775808 := by decide
        rw [e] at hb
        omega
      have hs : u = u % 128 + u / 128 * 128 := by omega
      have hlow : u / 128 * 128 ^ (k + 1) ≤ u * 128 ^ k := by
        rw [Nat.pow_succ, Nat.mul_comm (128 ^ k) 128, ← Nat.mul_assoc]
        exact Nat.mul_le_mul_right _ (by omega)
      have he : x + u % 128 * 128 ^ k + u / 128 * 128 ^ (k + 1) = x + u * 128 ^ k := by
        have e1 : u / 128 * 128 ^ (k + 1) = u / 128 * 128 * 128 ^ k := by rw [Nat.pow_succ, Nat.mul_comm (128 ^ k) 128, Nat.mul_assoc]
        have e2 : u * 128 ^ k = (u % 128 + u / 128 * 128) * 128 ^ k := by rw [← hs]
        rw [e1, e2, Nat.add_mul]; omega
      rw [vb_big u h, List.cons_append, vgo_cons, if_neg, if_neg (by omega), Int.toNat_natCast, Nat.add_sub_cancel, ih (u / 128) (by omega) (k + 1) _ t (by omega) (by intro _; omega) (by omega), he, List.length_cons]
      · congr 2; omega
      · rintro (⟨h1, _⟩ | ⟨_, h2⟩)
        · exact hk9 h1
        · omega
theorem vint_vb (v : Nat) (t : List Int) (hv : v < 18446744073709551616) : vint (vb v ++ t) = (v, (vb v).length, 0) := by
  rw [vint, vgo_vb v 0 0 t (by omega) (by omega) (by simpa using hv)]
  simp

theorem zr_zz (v : Int) : zr (zz v) = v := by
  unfold zr zz
  split
  · rename_i h
    rw [if_pos (by omega)]
    omega
  · rw [if_neg (by omega)]
    omega
theorem bk_sb (s : ByteArray) : bk (sb s) = s := by
  unfold bk sb
  cases s with
  | mk d =>
    simp only [List.map_map]
    congr 1
    apply Array.ext'
    simp only []
    conv => rhs; rw [← List.map_id d.toList]
    apply List.map_congr_left
    intro b hb
    simp
theorem sb_inj (s t : ByteArray) (h : sb s = sb t) : s = t := by rw [← bk_sb s, ← bk_sb t, h]

theorem zz_zr (m : Nat) : zz (zr m) = m := by
  unfold zr
  split
  · unfold zz
    rw [if_pos (by omega)]
    omega
  · unfold zz
    rw [if_neg (by omega)]
    omega
theorem zr_range (m : Nat) (h : m < 18446744073709551616) : -9223372036854775808 ≤ zr m ∧ zr m ≤ 9223372036854775807 := by
  unfold zr
  split <;> omega
theorem vb_cancel (a b : Nat) (x y : List Int) (ha : a < 18446744073709551616) (hb : b < 18446744073709551616) (h : vb a ++ x = vb b ++ y) : a = b ∧ x = y := by
  have h1 := vint_vb a x ha
  have h2 := vint_vb b y hb
  rw [h, h2] at h1
  have e : a = b := by simpa using (congrArg Prod.fst h1).symm
  subst e
  exact ⟨rfl, List.append_cancel_left h⟩
mutual
/-- the value without its addresses. -/
def T.er : T → T
  | .mk k bo n t _ _ y _ _ l _ _ f => .mk k bo n t none 0 y none 0 l.er none 0 f.er
def TL.er : TL → TL
  | .nil => .nil
  | .cons v r => .cons v.er r.er
def FL.er : FL → FL
  | .nil => .nil
  | .cons s v r => .cons s v.er r.er
end
theorem TL.er_list : ∀ l : TL, l.er.list = l.list.map T.er
  | .nil => rfl
  | .cons v r => by simp [TL.er, TL.list, TL.er_list r]
theorem FL.er_list : ∀ l : FL, l.er.list = l.list.map (fun x => (x.1, x.2.er))
  | .nil => rfl
  | .cons s v r => by simp [FL.er, FL.list, FL.er_list r]
mutual
theorem T.same_er : ∀ (u v : T), u.er = v.er → u.same v = true
  | .mk k bo n t ya yc y la lc l fa fc f, .mk k' bo' n' t' ya' yc' y' la' lc' l' fa' fc' f', h => by
    simp only [T.er, T.mk.injEq, true_and] at h
    obtain ⟨rfl, rfl, rfl, rfl, rfl, h6, h7⟩ := h
    simp [T.same, sameB, TL.same_er l l' h6, FL.same_er f f' h7]
theorem TL.same_er : ∀ (u v : TL), u.er = v.er → u.same v = true
  | .nil, .nil, _ => rfl
  | .nil, .cons _ _, h => by simp [TL.er] at h
  | .cons _ _, .nil, h => by simp [TL.er] at h
  | .cons u r, .cons v s, h => by
    simp only [TL.er, TL.cons.injEq] at h
    simp [TL.same, T.same_er u v h.1, TL.same_er r s h.2]
theorem FL.same_er : ∀ (u v : FL), u.er = v.er → u.same v = true
  | .nil, .nil, _ => rfl
  | .nil, .cons _ _ _, h => by simp [FL.er] at h
  | .cons _ _ _, .nil, h => by simp [FL.er] at h
  | .cons a u r, .cons b v s, h => by
    simp only [FL.er, FL.cons.injEq] at h
    simp [FL.same, h.1, T.same_er u v h.2.1, FL.same_er r s h.2.2]
end
theorem fitE_er (v : T) : fitE v.er = fitE v := by
  cases v with
  | mk k bo n t ya yc y la lc l fa fc f =>
    have h1 : l.er.list.length = l.list.length := by rw [TL.er_list, List.length_map]
    have h2 : f.er.list.length = f.list.length := by rw [FL.er_list, List.length_map]
    have h3 : f.er.names = f.names := by simp [FL.names, FL.er_list]
    simp only [T.er, fitE, h1, h2, h3]
mutual
theorem T.flat_er : ∀ (v : T) (d : Int), v.er.flat d = (v.flat d).map (fun z => (z.1, z.2.er))
  | .mk k bo n t ya yc y la lc l fa fc f, d => by
    simp only [T.er, T.flat, List.map_cons, List.map_append, TL.flat_er l, FL.flat_er f]
theorem TL.flat_er : ∀ (v : TL) (d : Int), v.er.flat d = (v.flat d).map (fun z => (z.1, z.2.er))
  | .nil, d => rfl
  | .cons u r, d => by simp only [TL.er, TL.flat, List.map_append, T.flat_er u, TL.flat_er r]
theorem FL.flat_er : ∀ (v : FL) (d : Int), v.er.flat d = (v.flat d).map (fun z => (z.1, z.2.er))
  | .nil, d => rfl
  | .cons s u r, d => by simp only [FL.er, FL.flat, List.map_append, T.flat_er u, FL.flat_er r]
end
theorem firstE_er (l : List (Int × T)) : firstE fitE (l.map (fun z => (z.1, z.2.er))) = firstE fitE l := by
  induction l with
  | nil => rfl
  | cons x r ih => simp only [List.map_cons, firstE, fitE_er, ih]
theorem ckE_er (v : T) : ckE v.er = ckE v := by
  have h1 : ((v.flat 1).map (fun z => (z.1, z.2.er))).any (fun x => decide (8 < x.1)) = (v.flat 1).any (fun x => decide (8 < x.1)) := by rw [List.any_map]; rfl
  simp only [ckE, chk, T.flat_er, firstE_er, List.length_map, h1]
mutual
/-- nothing but what its kind has, here and below. -/
def T.cl : T → Prop
  | .mk k bo n t ya yc y la lc l fa fc f => ((k ≠ 2 → bo = false) ∧ (k ≠ 3 → n = 0) ∧ (k ≠ 4 → t = ⟨#[]⟩) ∧ (k ≠ 5 → y = []) ∧ (k ≠ 6 → l.list = []) ∧ (k ≠ 7 → f.list = [])) ∧ l.cl ∧ f.cl
def TL.cl : TL → Prop
  | .nil => True
  | .cons v r => v.cl ∧ r.cl
def FL.cl : FL → Prop
  | .nil => True
  | .cons s v r => v.cl ∧ r.cl
end
theorem fit_clean {k : Int} {bo : Bool} {n : Int} {t : ByteArray} {ya : Option Addr} {yc : Nat} {y : List Int} {la : Option Addr} {lc : Nat} {l : TL} {fa : Option Addr} {fc : Nat} {f : FL} (h : fitE (.mk k bo n t ya yc y la lc l fa fc f) = 0) : (k ≠ 2 → bo = false) ∧ (k ≠ 3 → n = 0) ∧ (k ≠ 4 → t = ⟨#[]⟩) ∧ (k ≠ 5 → y = []) ∧ (k ≠ 6 → l.list = []) ∧ (k ≠ 7 → f.list = []) := by
  by_cases h2 : k = 2
  · subst h2
    simp [fitE, alB] at h
    exact ⟨by simp, by simp [h.1], by simp [h.2.1], by simp [h.2.2.1], by simp [h.2.2.2.1], by simp [h.2.2.2.2]⟩
  by_cases h3 : k = 3
  · subst h3
    simp [fitE, alB] at h
    exact ⟨by simp [h.1], by simp, by simp [h.2.1], by simp [h.2.2.1], by simp [h.2.2.2.1], by simp [h.2.2.2.2]⟩
  by_cases h4 : k = 4
  · subst h4
    by_cases hb : alB 4 bo n t y.length l.list.length f.list.length 4 false 0 t 0 0 0 = true
    · simp only [alB, decide_eq_true_eq] at hb
      obtain ⟨_, e1, e2, e3, e4, e5, e6⟩ := hb
      exact ⟨fun _ => e1, fun _ => e2, fun h => absurd rfl h, fun _ => List.length_eq_zero_iff.1 e4, fun _ => List.length_eq_zero_iff.1 e5, fun _ => List.length_eq_zero_iff.1 e6⟩
    · simp [fitE, hb] at h
  by_cases h5 : k = 5
  · subst h5
    by_cases hb : alB 5 bo n t y.length l.list.length f.list.length 5 false 0 ⟨#[]⟩ y.length 0 0 = true
    · simp only [alB, decide_eq_true_eq] at hb
      obtain ⟨_, e1, e2, e3, e4, e5, e6⟩ := hb
      exact ⟨fun _ => e1, fun _ => e2, fun _ => e3, fun h => absurd rfl h, fun _ => List.length_eq_zero_iff.1 e5, fun _ => List.length_eq_zero_iff.1 e6⟩
    · simp [fitE, hb] at h
  by_cases h6 : k = 6
  · subst h6
    simp [fitE, alB] at h
    exact ⟨by simp [h.1], by simp [h.2.1], by simp [h.2.2.1], by simp [h.2.2.2.1], by simp, by simp [h.2.2.2.2]⟩
  by_cases h7 : k = 7
  · subst h7
    by_cases hb : alB 7 bo n t y.length l.list.length f.list.length 7 false 0 ⟨#[]⟩ 0 0 f.list.length = true
    · simp only [alB, decide_eq_true_eq] at hb
      obtain ⟨_, e1, e2, e3, e4, e5, e6⟩ := hb
      exact ⟨fun _ => e1, fun _ => e2, fun _ => e3, fun _ => List.length_eq_zero_iff.1 e4, fun _ => List.length_eq_zero_iff.1 e5, fun h => absurd rfl h⟩
    · simp [fitE, hb] at h
  simp only [fitE, h2, h3, h4, h5, h6, h7, if_false] at h
  by_cases hb : alB k bo n t y.length l.list.length f.list.length 1 false 0 ⟨#[]⟩ 0 0 0 = true
  · simp only [alB, decide_eq_true_eq] at hb
    obtain ⟨_, e1, e2, e3, e4, e5, e6⟩ := hb
    exact ⟨fun _ => e1, fun _ => e2, fun _ => e3, fun _ => List.length_eq_zero_iff.1 e4, fun _ => List.length_eq_zero_iff.1 e5, fun _ => List.length_eq_zero_iff.1 e6⟩
  · rw [if_neg hb] at h
    omega
theorem TL.cl_of : ∀ (l : TL), (∀ c ∈ l.list, c.cl) → l.cl
  | .nil, _ => trivial
  | .cons v r, h => ⟨h v (by simp [TL.list]), TL.cl_of r (fun c hc => h c (by simp [TL.list, hc]))⟩
theorem FL.cl_of : ∀ (l : FL), (∀ c ∈ l.list, c.2.cl) → l.cl
  | .nil, _ => trivial
  | .cons s v r, h => ⟨h (s, v) (by simp [FL.list]), FL.cl_of r (fun c hc => h c (by simp [FL.list, hc]))⟩
theorem cl_of : ∀ (N : Nat) (v : T), v.sz ≤ N → ∀ e, (∀ z ∈ v.flat e, fitE z.2 = 0) → v.cl := by
  intro N
  induction N with
  | zero => intro v hv; cases v; simp [T.sz] at hv
  | succ N ih =>
    intro v hv e hz
    have h0 := hz (e, v) (by rw [T.flat_is]; simp)
    have hkid : ∀ c ∈ v.kids, c.cl := by
      intro c hc
      have h1 := T.kid_sz v c hc
      refine ih c (by omega) (e + 1) (fun z hzc => hz z ?_)
      rw [T.flat_is]
      exact List.mem_cons_of_mem _ (List.mem_flatMap.2 ⟨c, hc, hzc⟩)
    cases v with
    | mk k bo n t ya yc y la lc l fa fc f =>
    exact ⟨fit_clean h0, TL.cl_of l (fun c hc => hkid c (by simp only [T.kids]; exact List.mem_append_left _ hc)), FL.cl_of f (fun x hx => hkid x.2 (by simp only [T.kids]; exact List.mem_append_right _ (List.mem_map_of_mem hx)))⟩
theorem ck_cl (v : T) (h : ckE v = 0) : v.cl := by
  refine cl_of v.sz v (Nat.le_refl _) 1 ?_
  unfold ckE chk at h
  split at h
  · omega
  split at h
  · omega
  exact firstE_zero _ _ h
theorem ck_sz (v : T) (h : ckE v = 0) : v.sz ≤ 512 := by
  have e : (v.flat 1).length = v.sz := T.flat_len 1 v
  unfold ckE chk at h
  split at h
  · omega
  split at h
  · omega
  omega
theorem TL.nil_of (l : TL) (h : l.list = []) : l = .nil := by
  cases l with
  | nil => rfl
  | cons v r => simp [TL.list] at h
theorem T.sz_pos (v : T) : 1 ≤ v.sz := by cases v; simp only [T.sz]; omega
theorem TL.len_sz : ∀ l : TL, l.list.length ≤ l.sz
  | .nil => by simp [TL.list]
  | .cons v r => by
    have h1 := TL.len_sz r
    have h2 := T.sz_pos v
    simp only [TL.list, TL.sz, List.length_cons]
    omega
theorem FL.len_sz : ∀ l : FL, l.list.length ≤ l.sz
  | .nil => by simp [FL.list]
  | .cons s v r => by
    have h1 := FL.len_sz r
    have h2 := T.sz_pos v
    simp only [FL.list, FL.sz, List.length_cons]
    omega
theorem sb_size (s : ByteArray) : (sb s).length = s.size := sb_len s
mutual
theorem T.denc_inj : ∀ (u v : T) (x y : List Int), u.Wd → v.Wd → u.cl → v.cl → u.sz ≤ 100000 → v.sz ≤ 100000 → u.denc ++ x = v.denc ++ y → u.er = v.er ∧ x = y
  | .mk k bo n t ya yc z la lc l fa fc f, .mk k' bo' n' t' ya' yc' z' la' lc' l' fa' fc' f', x, y, ⟨⟨a1, a2⟩, a3, a4, a5, a6, a7⟩, ⟨⟨b1, b2⟩, b3, b4, b5, b6, b7⟩, ⟨⟨c1, c2, c3, c4, c5, c6⟩, c7, c8⟩, ⟨⟨d1, d2, d3, d4, d5, d6⟩, d7, d8⟩, hs, hs', h => by
    simp only [T.sz] at hs hs'
    have a8 := TL.len_sz l
    have a9 := FL.len_sz f
    have b8 := TL.len_sz l'
    have b9 := FL.len_sz f'
    have hk : k = 1 ∨ k = 2 ∨ k = 3 ∨ k = 4 ∨ k = 5 ∨ k = 6 ∨ k = 7 := by omega
    have hk' : k' = 1 ∨ k' = 2 ∨ k' = 3 ∨ k' = 4 ∨ k' = 5 ∨ k' = 6 ∨ k' = 7 := by omega
    have hee : k = k' := by
      rcases hk with rfl | rfl | rfl | rfl | rfl | rfl | rfl <;> rcases hk' with rfl | rfl | rfl | rfl | rfl | rfl | rfl <;> first | rfl | (exfalso; simp [T.denc] at h; try (split at h <;> omega)) | (exfalso; simp [T.denc] at h)
    subst hee
    rcases hk with rfl | rfl | rfl | rfl | rfl | rfl | rfl
    · simp [T.denc] at h
      rw [c1 (by decide), c2 (by decide), c3 (by decide), c4 (by decide), d1 (by decide), d2 (by decide), d3 (by decide), d4 (by decide), TL.nil_of l (c5 (by decide)), TL.nil_of l' (d5 (by decide)), FL.nil_of f (c6 (by decide)), FL.nil_of f' (d6 (by decide))]
      exact ⟨rfl, h⟩
    · simp [T.denc] at h
      rw [c2 (by decide), c3 (by decide), c4 (by decide), d2 (by decide), d3 (by decide), d4 (by decide), TL.nil_of l (c5 (by decide)), TL.nil_of l' (d5 (by decide)), FL.nil_of f (c6 (by decide)), FL.nil_of f' (d6 (by decide))]
      have hb : bo = bo' := by
        have := h.1
        cases bo <;> cases bo' <;> simp at this <;> rfl
      exact ⟨by rw [hb]; rfl, h.2⟩
    · simp [T.denc] at h
      obtain ⟨e1, e2⟩ := vb_cancel _ _ _ _ (zz_lt n a3.1 a3.2) (zz_lt n' b3.1 b3.2) h
      have e3 : n = n' := by rw [← zr_zz n, e1, zr_zz]
      rw [c1 (by decide), c3 (by decide), c4 (by decide), d1 (by decide), d3 (by decide), d4 (by decide), TL.nil_of l (c5 (by decide)), TL.nil_of l' (d5 (by decide)), FL.nil_of f (c6 (by decide)), FL.nil_of f' (d6 (by decide)), e3]
      exact ⟨rfl, e2⟩
    · simp [T.denc] at h
      obtain ⟨e1, e2⟩ := vb_cancel _ _ _ _ (by omega) (by omega) h
      obtain ⟨e3, e4⟩ := List.append_inj e2 (by rw [sb_len, sb_len]; exact e1)
      rw [c1 (by decide), c2 (by decide), c4 (by decide), d1 (by decide), d2 (by decide), d4 (by decide), TL.nil_of l (c5 (by decide)), TL.nil_of l' (d5 (by decide)), FL.nil_of f (c6 (by decide)), FL.nil_of f' (d6 (by decide)), sb_inj t t' e3]
      exact ⟨rfl, e4⟩
    · simp [T.denc] at h
      obtain ⟨e1, e2⟩ := vb_cancel _ _ _ _ (by omega) (by omega) h
      obtain ⟨e3, e4⟩ := List.append_inj e2 e1
      rw [c1 (by decide), c2 (by decide), c3 (by decide), d1 (by decide), d2 (by decide), d3 (by decide), TL.nil_of l (c5 (by decide)), TL.nil_of l' (d5 (by decide)), FL.nil_of f (c6 (by decide)), FL.nil_of f' (d6 (by decide)), e3]
      exact ⟨rfl, e4⟩
    · simp [T.denc] at h
      obtain ⟨e1, e2⟩ := vb_cancel _ _ _ _ (by omega) (by omega) h
      obtain ⟨e3, e4⟩ := TL.denc_inj l l' _ _ a6 b6 c7 d7 (by omega) (by omega) e1 e2
      rw [c1 (by decide), c2 (by decide), c3 (by decide), c4 (by decide), d1 (by decide), d2 (by decide), d3 (by decide), d4 (by decide), FL.nil_of f (c6 (by decide)), FL.nil_of f' (d6 (by decide))]
      exact ⟨by simp only [T.er, e3], e4⟩
    · simp [T.denc] at h
      obtain ⟨e1, e2⟩ := vb_cancel _ _ _ _ (by omega) (by omega) h
      obtain ⟨e3, e4⟩ := FL.denc_inj f f' _ _ a7 b7 c8 d8 (by omega) (by omega) e1 e2
      rw [c1 (by decide), c2 (by decide), c3 (by decide), c4 (by decide), d1 (by decide), d2 (by decide), d3 (by decide), d4 (by decide), TL.nil_of l (c5 (by decide)), TL.nil_of l' (d5 (by decide))]
      exact ⟨by simp only [T.er, e3], e4⟩
theorem TL.denc_inj : ∀ (u v : TL) (x y : List Int), u.Wd → v.Wd → u.cl → v.cl → u.sz ≤ 100000 → v.sz ≤ 100000 → u.list.length = v.list.length → u.denc ++ x = v.denc ++ y → u.er = v.er ∧ x = y
  | .nil, .nil, x, y, _, _, _, _, _, _, _, h => ⟨rfl, by simpa [TL.denc] using h⟩
  | .nil, .cons _ _, _, _, _, _, _, _, _, _, h, _ => by simp [TL.list] at h
  | .cons _ _, .nil, _, _, _, _, _, _, _, _, h, _ => by simp [TL.list] at h
  | .cons u r, .cons v s, x, y, ⟨a1, a2⟩, ⟨b1, b2⟩, ⟨c1, c2⟩, ⟨d1, d2⟩, hs, hs', hl, h => by
    simp only [TL.sz] at hs hs'
    simp only [TL.denc, List.append_assoc] at h
    obtain ⟨e1, e2⟩ := T.denc_inj u v _ _ a1 b1 c1 d1 (by omega) (by omega) h
    obtain ⟨e3, e4⟩ := TL.denc_inj r s _ _ a2 b2 c2 d2 (by omega) (by omega) (by simpa [TL.list] using hl) e2
    exact ⟨by simp only [TL.er, e1, e3], e4⟩
theorem FL.denc_inj : ∀ (u v : FL) (x y : List Int), u.Wd → v.Wd → u.cl → v.cl → u.sz ≤ 100000 → v.sz ≤ 100000 → u.list.length = v.list.length → u.denc ++ x = v.denc ++ y → u.er = v.er ∧ x = y
  | .nil, .nil, x, y, _, _, _, _, _, _, _, h => ⟨rfl, by simpa [FL.denc] using h⟩
  | .nil, .cons _ _ _, _, _, _, _, _, _, _, _, h, _ => by simp [FL.list] at h
  | .cons _ _ _, .nil, _, _, _, _, _, _, _, _, h, _ => by simp [FL.list] at h
  | .cons a u r, .cons b v s, x, y, ⟨a0, a1, a2⟩, ⟨b0, b1, b2⟩, ⟨c1, c2⟩, ⟨d1, d2⟩, hs, hs', hl, h => by
    simp only [FL.sz] at hs hs'
    simp only [FL.denc, List.append_assoc] at h
    obtain ⟨g1, g2⟩ := vb_cancel _ _ _ _ (by omega) (by omega) h
    obtain ⟨g3, g4⟩ := List.append_inj g2 (by rw [sb_len, sb_len]; exact g1)
    obtain ⟨e1, e2⟩ := T.denc_inj u v _ _ a1 b1 c1 d1 (by omega) (by omega) g4
    obtain ⟨e3, e4⟩ := FL.denc_inj r s _ _ a2 b2 c2 d2 (by omega) (by omega) (by simpa [FL.list] using hl) e2
    exact ⟨by simp only [FL.er, e1, e3, sb_inj a b g3], e4⟩
end
end Go.Proofs.Ytehapglbenaikaa
