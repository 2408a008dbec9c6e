/- Mathematics of values and tuples: their bytes are the same just if they are; what begins with a tuple's bytes. -/
import Derived.Test.YtegoeaofjnpehabWA
import Derived.Test.YtegoeaofjnpehabVT
namespace Go.Proofs.Ytegoeaofjnpehab
set_option linter.unusedVariables false

theorem bk_sb (s : ByteArray) : bk (sb s) = s := by
  unfold bk sb
  cases s with
  | mk d =>
    simp only [List.map_map]
    congr 1
    apply Array.ext'
    simp only []
    conv => rhs; rw [← List.map_id d.toList]
    apply List.map_congr_left
    intro b hb
    simp
theorem sb_inj (s t : ByteArray) (h : sb s = sb t) : s = t := by rw [← bk_sb s, ← bk_sb t, h]
mutual
/-- nothing but what its kind has, here and in the lists below. -/
def T.cl : T → Prop
  | .mk k bo n t ya yc y la lc l fa fc f => f.list = [] ∧ (k ≠ 2 → bo = false) ∧ (k ≠ 3 → n = 0) ∧ (k ≠ 4 → t = ⟨#[]⟩) ∧ (k ≠ 5 → y = []) ∧ (k ≠ 6 → l.list = []) ∧ l.cl
def TL.cl : TL → Prop
  | .nil => True
  | .cons v r => v.cl ∧ r.cl
end
theorem fit_clean {k : Int} {bo : Bool} {n : Int} {t : ByteArray} {ya : Option Addr} {yc : Nat} {y : List Int} {la : Option Addr} {lc : Nat} {l : TL} {fa : Option Addr} {fc : Nat} {f : FL} (h : fitE (.mk k bo n t ya yc y la lc l fa fc f) = 0) (h7 : k ≠ 7) : f.list = [] ∧ (k ≠ 2 → bo = false) ∧ (k ≠ 3 → n = 0) ∧ (k ≠ 4 → t = ⟨#[]⟩) ∧ (k ≠ 5 → y = []) ∧ (k ≠ 6 → l.list = []) := by
  by_cases h2 : k = 2
  · subst h2
    simp [fitE, alB] at h
    exact ⟨h.2.2.2.2, by simp, by simp [h.1], by simp [h.2.1], by simp [h.2.2.1], by simp [h.2.2.2.1]⟩
  by_cases h3 : k = 3
  · subst h3
    simp [fitE, alB] at h
    exact ⟨h.2.2.2.2, by simp [h.1], by simp, by simp [h.2.1], by simp [h.2.2.1], by simp [h.2.2.2.1]⟩
  by_cases h4 : k = 4
  · subst h4
    by_cases hb : alB 4 bo n t y.length l.list.length f.list.length 4 false 0 t 0 0 0 = true
    · simp only [alB, decide_eq_true_eq] at hb
      obtain ⟨_, e1, e2, e3, e4, e5, e6⟩ := hb
      exact ⟨List.length_eq_zero_iff.1 e6, fun _ => e1, fun _ => e2, fun h => absurd rfl h, fun _ => List.length_eq_zero_iff.1 e4, fun _ => List.length_eq_zero_iff.1 e5⟩
    · simp [fitE, hb] at h
  by_cases h5 : k = 5
  · subst h5
    by_cases hb : alB 5 bo n t y.length l.list.length f.list.length 5 false 0 ⟨#[]⟩ y.length 0 0 = true
    · simp only [alB, decide_eq_true_eq] at hb
      obtain ⟨_, e1, e2, e3, e4, e5, e6⟩ := hb
      exact ⟨List.length_eq_zero_iff.1 e6, fun _ => e1, fun _ => e2, fun _ => e3, fun h => absurd rfl h, fun _ => List.length_eq_zero_iff.1 e5⟩
    · simp [fitE, hb] at h
  by_cases h6 : k = 6
  · subst h6
    simp [fitE, alB] at h
    exact ⟨h.2.2.2.2, by simp [h.1], by simp [h.2.1], by simp [h.2.2.1], by simp [h.2.2.2.1], by simp⟩
  simp only [fitE, h2, h3, h4, h5, h6, h7, if_false] at h
  by_cases hb : alB k bo n t y.length l.list.length f.list.length 1 false 0 ⟨#[]⟩ 0 0 0 = true
  · simp only [alB, decide_eq_true_eq] at hb
    obtain ⟨_, e1, e2, e3, e4, e5, e6⟩ := hb
    exact ⟨List.length_eq_zero_iff.1 e6, fun _ => e1, fun _ => e2, fun _ => e3, fun _ => List.length_eq_zero_iff.1 e4, fun _ => List.length_eq_zero_iff.1 e5⟩
  · rw [if_neg hb] at h
    omega
theorem TL.cl_of : ∀ (l : TL), (∀ c ∈ l.list, c.cl) → l.cl
  | .nil, _ => trivial
  | .cons v r, h => ⟨h v (by simp [TL.list]), TL.cl_of r (fun c hc => h c (by simp [TL.list, hc]))⟩
theorem cl_of : ∀ (N : Nat) (v : T), v.sz ≤ N → ∀ e, (∀ z ∈ v.flat e, fitE z.2 = 0) → v.hd = false → v.cl := by
  intro N
  induction N with
  | zero => intro v hv; cases v; simp [T.sz] at hv
  | succ N ih =>
    intro v hv e hz hd
    have h0 := hz (e, v) (by rw [T.flat_is]; simp)
    cases v with
    | mk k bo n t ya yc y la lc l fa fc f =>
    simp only [T.hd, Bool.or_eq_false_iff, decide_eq_false_iff_not] at hd
    obtain ⟨c1, c2, c3, c4, c5, c6⟩ := fit_clean h0 hd.1
    refine ⟨c1, c2, c3, c4, c5, c6, TL.cl_of l (fun c hc => ?_)⟩
    have hkid : c ∈ (T.mk k bo n t ya yc y la lc l fa fc f).kids := by simp only [T.kids]; exact List.mem_append_left _ hc
    have hs := T.kid_sz _ c hkid
    refine ih c (by omega) (e + 1) (fun z hzc => hz z ?_) ?_
    · rw [T.flat_is]
      exact List.mem_cons_of_mem _ (List.mem_flatMap.2 ⟨c, hkid, hzc⟩)
    · have h9 := hd.2
      rw [TL.hd_is] at h9
      have := List.any_eq_false.1 h9 c hc
      simpa using this
theorem one_cl (v : T) (h : oneE v = 0) : v.cl := by
  unfold oneE at h
  by_cases hc : ckE v = 0
  · rw [if_pos hc] at h
    cases hh : v.hd
    · refine cl_of v.sz v (Nat.le_refl _) 1 ?_ hh
      unfold ckE chk at hc
      split at hc
      · omega
      split at hc
      · omega
      exact firstE_zero _ _ hc
    · rw [hh] at h
      simp at h
  · rw [if_neg hc] at h
    omega
mutual
theorem T.nf_of : ∀ (v : T), v.cl → v.nf
  | .mk k bo n t ya yc y la lc l fa fc f, h => ⟨h.1, TL.nf_of l h.2.2.2.2.2.2⟩
theorem TL.nf_of : ∀ (l : TL), l.cl → l.nf
  | .nil, _ => trivial
  | .cons v r, h => ⟨T.nf_of v h.1, TL.nf_of r h.2⟩
end
mutual
theorem T.same_enc : ∀ (u v : T), u.same v = true → u.enc = v.enc
  | .mk k bo n t ya yc y la lc l fa fc f, .mk k' bo' n' t' ya' yc' y' la' lc' l' fa' fc' f', h => by
    simp only [T.same, Bool.and_eq_true, decide_eq_true_eq, sameB] at h
    obtain ⟨rfl, rfl, rfl, rfl, rfl, h6, _⟩ := h
    have := TL.same_enc l l' h6
    simp only [T.enc, this]
theorem TL.same_enc : ∀ (u v : TL), u.same v = true → u.enc = v.enc
  | .nil, .nil, _ => rfl
  | .nil, .cons _ _, h => by simp [TL.same] at h
  | .cons _ _, .nil, h => by simp [TL.same] at h
  | .cons u r, .cons v s, h => by
    simp only [TL.same, Bool.and_eq_true] at h
    simp only [TL.enc, T.same_enc u v h.1, TL.same_enc r s h.2]
end
theorem TL.nil_of (l : TL) (h : l.list = []) : l = .nil := by
  cases l with
  | nil => rfl
  | cons v r => simp [TL.list] at h
theorem nbs_inj (X Y : Int) (hx : 0 ≤ X ∧ X < 18446744073709551616) (hy : 0 ≤ Y ∧ Y < 18446744073709551616) (h : nbs X 8 = nbs Y 8) : X = Y := by
  have e := nbs_order X Y [] [] hx hy
  rw [h, ordI_self] at e
  unfold num at e
  by_cases h1 : X < Y
  · simp [h1] at e
  · by_cases h2 : Y < X
    · simp [h1, h2] at e
    · omega
theorem enc_same : ∀ (N : Nat) (u v : T), u.sz ≤ N → u.ok → v.ok → u.cl → v.cl → u.Szd → v.Szd → u.enc = v.enc → u.same v = true := by
  intro N
  induction N with
  | zero => intro u v hu; cases u; simp [T.sz] at hu
  | succ N ih =>
    intro u v hu hou hov hcu hcv hsu hsv he
    cases u with
    | mk k bo n t ya yc y la lc l fa fc f =>
    cases v with
    | mk k' bo' n' t' ya' yc' y' la' lc' l' fa' fc' f' =>
    have hlist : ∀ (m m' : TL), m.sz ≤ N → m.ok → m'.ok → m.cl → m'.cl → m.Szd → m'.Szd → ∀ s r, m.enc ++ 1 :: s = m'.enc ++ 1 :: r → m.same m' = true := by
      intro m
      exact TL.rec (motive_1 := fun _ => True) (motive_2 := fun m => ∀ m' : TL, m.sz ≤ N → m.ok → m'.ok → m.cl → m'.cl → m.Szd → m'.Szd → ∀ s r, m.enc ++ 1 :: s = m'.enc ++ 1 :: r → m.same m' = true) (motive_3 := fun _ => True)
        (fun _ _ _ _ _ _ _ _ _ _ _ _ _ _ _ => trivial)
        (by
          intro m' _ _ hm' _ _ _ _ s r h
          cases m' with
          | nil => rfl
          | cons v' r' =>
            obtain ⟨c, t, hc, hge⟩ := enc_first v' hm'.1
            simp [TL.enc, hc] at h
            omega)
        (by
          intro v0 r0 _ ihr m' hsz hm hm' hC hC' hS hS' s r h
          cases m' with
          | nil =>
            obtain ⟨c, t, hc, hge⟩ := enc_first v0 hm.1
            simp [TL.enc, hc] at h
            omega
          | cons v' r' =>
            simp only [TL.sz] at hsz
            simp only [TL.enc, List.append_assoc] at h
            obtain ⟨h1, h2⟩ := enc_free v0.sz v0 v' (Nat.le_refl _) hm.1 hm'.1 _ _ h
            simp only [TL.same, Bool.and_eq_true]
            exact ⟨ih v0 v' (by omega) hm.1 hm'.1 hC.1 hC'.1 hS.1 hS'.1 h1, ihr r' (by omega) hm.2 hm'.2 hC.2 hC'.2 hS.2 hS'.2 s r h2⟩)
        trivial (fun _ _ _ _ _ => trivial) m
    simp only [T.sz] at hu
    simp only [T.ok] at hou hov
    obtain ⟨u1, u2, u3, u4, u5, u6, u7⟩ := hcu
    obtain ⟨v1, v2, v3, v4, v5, v6, v7⟩ := hcv
    have hf : f.same f' = true := by rw [FL.nil_of f u1, FL.nil_of f' v1]; rfl
    have hk1 : 1 ≤ k ∧ k ≤ 6 := by rcases hou with h | h | h | h | h | ⟨h, _⟩ <;> omega
    have hk2 : 1 ≤ k' ∧ k' ≤ 6 := by rcases hov with h | h | h | h | h | ⟨h, _⟩ <;> omega
    have hkk : k = k' := by
      obtain ⟨x, e1⟩ := enc_mrk k bo n t ya yc y la lc l fa fc f hk1
      obtain ⟨x', e2⟩ := enc_mrk k' bo' n' t' ya' yc' y' la' lc' l' fa' fc' f' hk2
      rw [e1, e2] at he
      have m1 := mrk_bd k bo
      have m2 := mrk_bd k' bo'
      have := (List.cons.inj he).1
      omega
    subst hkk
    simp only [T.same, Bool.and_eq_true, decide_eq_true_eq, sameB]
    have hbo : bo = bo' := by
      by_cases h : k = 2
      · subst h
        rw [enc_2, enc_2] at he
        cases bo <;> cases bo' <;> simp at he ⊢
      · rw [u2 h, v2 h]
    have hn : n = n' := by
      by_cases h : k = 3
      · subst h
        rw [enc_3, enc_3] at he
        have a1 := nX_is n hsu.2.1
        have a2 := nX_is n' hsv.2.1
        have b1 := hsu.2.1
        have b2 := hsv.2.1
        have := nbs_inj _ _ (by omega) (by omega) (List.cons.inj he).2
        omega
      · rw [u3 h, v3 h]
    have ht : t = t' := by
      by_cases h : k = 4
      · subst h
        rw [enc_4, enc_4] at he
        exact sb_inj _ _ (esc_free _ _ [] [] (List.cons.inj he).2).1
      · rw [u4 h, v4 h]
    have hy : y = y' := by
      by_cases h : k = 5
      · subst h
        rw [enc_5, enc_5] at he
        exact (esc_free _ _ [] [] (List.cons.inj he).2).1
      · rw [u5 h, v5 h]
    have hl : l.same l' = true := by
      by_cases h : k = 6
      · subst h
        rw [enc_6, enc_6] at he
        have o1 : l.ok := by rcases hou with h | h | h | h | h | ⟨_, h⟩ <;> first | exact h | omega
        have o2 : l'.ok := by rcases hov with h | h | h | h | h | ⟨_, h⟩ <;> first | exact h | omega
        exact hlist l l' (by omega) o1 o2 u7 v7 hsu.2.2.2.1 hsv.2.2.2.1 [] [] (List.cons.inj he).2
      · rw [TL.nil_of l (u6 h), TL.nil_of l' (v6 h)]; rfl
    exact ⟨trivial, hbo, hn, ht, hy, hl, hf⟩
/-- of bytes turned over or not: the same as of the bytes. -/
theorem apart_free (m : Int) (hm : m = 0 ∨ m = 255) (a b s r : List Int) (h : Apart a b) (ha : Byts a) (hb : Byts b) (he : a.map (tn m) ++ s = b.map (tn m) ++ r) : a = b ∧ s = r := by
  induction h with
  | same a => exact ⟨rfl, List.append_cancel_left he⟩
  | here x y a b hne =>
    have h1 := ha x (by simp)
    have h2 := hb y (by simp)
    have h3 := (List.cons.inj (by simpa using he : tn m x :: (a.map (tn m) ++ s) = tn m y :: (b.map (tn m) ++ r))).1
    rcases hm with rfl | rfl
    · rw [tn_up x h1.1, tn_up y h2.1] at h3; exact absurd h3 hne
    · rw [tn_down x h1, tn_down y h2] at h3; omega
  | next x a b _ ih =>
    have h3 := (List.cons.inj (by simpa using he : tn m x :: (a.map (tn m) ++ s) = tn m x :: (b.map (tn m) ++ r))).2
    obtain ⟨e1, e2⟩ := ih (fun c hc => ha c (by simp [hc])) (fun c hc => hb c (by simp [hc])) h3
    exact ⟨by rw [e1], e2⟩
theorem mk_two (d : Bool) : mk d = 0 ∨ mk d = 255 := by cases d <;> simp [mk]
/-- all that a value of a tuple is known to be. -/
def Fine (n₀ : Nat) (W : World) (x : T) : Prop := oneE x = 0 ∧ x.Mem n₀ W ∧ x.Szd
theorem tup_app (ds : List Bool) : ∀ (l m : List T) (i : Nat), tupB ds i (l ++ m) = tupB ds i l ++ tupB ds (i + l.length) m := by
  intro l
  induction l with
  | nil => intro m i; simp [tupB]
  | cons v l ih =>
    intro m i
    simp only [List.cons_append, tupB, ih, List.append_assoc, List.length_cons]
    rw [show i + 1 + l.length = i + (l.length + 1) by omega]
theorem tup_begins {n₀ : Nat} {W : World} (ds : List Bool) : ∀ (l o : List T) (i : Nat), (∀ x ∈ l, Fine n₀ W x) → (∀ x ∈ o, Fine n₀ W x) → ((∃ z, tupB ds i o = tupB ds i l ++ z) ↔ (l.length ≤ o.length ∧ sameL (o.take l.length) l = true)) := by
  intro l
  induction l with
  | nil => intro o i _ _; simp [tupB, sameL]
  | cons u l ih =>
    intro o i hl ho
    obtain ⟨u1, u2, u3⟩ := hl u (by simp)
    have ou := (one_ok u u1).1
    cases o with
    | nil =>
      obtain ⟨c, t, hc, _⟩ := enc_first u ou
      simp [tupB, outp_ok u u1, hc]
    | cons v o =>
      obtain ⟨v1, v2, v3⟩ := ho v (by simp)
      have ov := (one_ok v v1).1
      have hi := ih o (i + 1) (fun x hx => hl x (by simp [hx])) (fun x hx => ho x (by simp [hx]))
      simp only [tupB, outp_ok u u1, outp_ok v v1, List.length_cons, List.take_succ_cons, sameL, Bool.and_eq_true, Nat.add_le_add_iff_right]
      constructor
      · rintro ⟨z, hz⟩
        rw [List.append_assoc] at hz
        obtain ⟨e1, e2⟩ := apart_free _ (mk_two _) _ _ _ _ (enc_apart v u ov ou) (T.enc_byts v v2) (T.enc_byts u u2) hz
        obtain ⟨h1, h2⟩ := hi.1 ⟨z, e2⟩
        exact ⟨h1, enc_same v.sz v u (Nat.le_refl _) ov ou (one_cl v v1) (one_cl u u1) v3 u3 e1, h2⟩
      · rintro ⟨h1, h2, h3⟩
        obtain ⟨z, hz⟩ := hi.2 ⟨h1, h3⟩
        exact ⟨z, by rw [T.same_enc v u h2, hz, List.append_assoc]⟩
theorem tup_first {n₀ : Nat} {W : World} (ds : List Bool) (l : List T) (h : ∀ x ∈ l, Fine n₀ W x) (h0 : l ≠ []) : ∃ c t, tupB ds 0 l = c :: t ∧ c < 255 := by
  cases l with
  | nil => exact absurd rfl h0
  | cons u l =>
    obtain ⟨u1, u2, u3⟩ := h u (by simp)
    obtain ⟨c, t, hc, hge⟩ := enc_first u (one_ok u u1).1
    have hb : 0 ≤ c ∧ c ≤ 255 := T.enc_byts u u2 c (by rw [hc]; simp)
    have hlt : c < 255 := by
      cases u with
      | mk k bo n t' ya yc y la lc l' fa fc f =>
        have ho := (one_ok _ u1).1
        simp only [T.ok] at ho
        have hk1 : 1 ≤ k ∧ k ≤ 6 := by rcases ho with h | h | h | h | h | ⟨h, _⟩ <;> omega
        obtain ⟨x, e1⟩ := enc_mrk k bo n t' ya yc y la lc l' fa fc f hk1
        have m1 := mrk_bd k bo
        rw [e1] at hc
        have := (List.cons.inj hc).1
        omega
    simp only [tupB, outp_ok u u1, hc, List.map_cons, List.cons_append]
    refine ⟨_, _, rfl, ?_⟩
    rcases mk_two (ds.getD 0 false) with e | e
    · rw [e, tn_up c hb.1]; exact hlt
    · rw [e, tn_down c hb]; omega
theorem last_below (a : List Int) (ha : Byts a) (h : ∃ c t, a = c :: t ∧ c < 255) : ∃ p, p < a.length ∧ a.getD p 0 < 255 ∧ ∀ i, p < i → i < a.length → a.getD i 0 = 255 := by
  rcases last_at a ha with h1 | h1
  · obtain ⟨c, t, rfl, hc⟩ := h
    have := h1 0 (by simp)
    simp at this
    omega
  · exact h1
end Go.Proofs.Ytegoeaofjnpehab
