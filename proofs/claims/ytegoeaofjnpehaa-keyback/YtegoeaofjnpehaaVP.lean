/- Mathematics of values: a light one is tame; the bytes of one never begin those of another. -/
import Derived.Test.YtegoeaofjnpehaaVN
namespace Go.Proofs.Ytegoeaofjnpehaa
set_option linter.unusedVariables false

mutual
theorem T.sz_wt : ∀ v : T, v.sz ≤ v.wt
  | .mk k bo n t ya yc y la lc l fa fc f => by
    have h1 := TL.sz_wt l
    have h2 := FL.sz_wt f
    simp only [T.sz, T.wt]
    omega
theorem TL.sz_wt : ∀ l : TL, l.sz ≤ l.wt
  | .nil => by simp [TL.sz, TL.wt]
  | .cons v r => by
    have h1 := T.sz_wt v
    have h2 := TL.sz_wt r
    simp only [TL.sz, TL.wt]
    omega
theorem FL.sz_wt : ∀ l : FL, l.sz ≤ l.wt
  | .nil => by simp [FL.sz, FL.wt]
  | .cons s v r => by
    have h1 := T.sz_wt v
    have h2 := FL.sz_wt r
    simp only [FL.sz, FL.wt]
    omega
end
mutual
theorem T.enc_wt : ∀ v : T, v.enc.length ≤ 130 * v.wt
  | .mk k bo n t ya yc y la lc l fa fc f => by
    have h1 := TL.enc_wt l
    have h2 := esc_len (sb t)
    have h3 := esc_len y
    rw [sb_len] at h2
    simp only [T.enc, T.wt]
    split
    · simp; omega
    split
    · simp [bB]; omega
    split
    · simp [bI, nbs_len]; omega
    split
    · simp [bT]; omega
    split
    · simp [bYs]; omega
    split
    · simp; omega
    · simp
theorem TL.enc_wt : ∀ l : TL, l.enc.length ≤ 130 * l.wt
  | .nil => by simp [TL.enc]
  | .cons v r => by
    have h1 := T.enc_wt v
    have h2 := TL.enc_wt r
    simp only [TL.enc, TL.wt, List.length_append]
    omega
end
theorem TL.wt_mem : ∀ (l : TL) (c : T), c ∈ l.list → c.wt ≤ l.wt
  | .nil, c, h => by simp [TL.list] at h
  | .cons v r, c, h => by
    simp only [TL.list, List.mem_cons] at h
    simp only [TL.wt]
    rcases h with rfl | h
    · omega
    · have := TL.wt_mem r c h; omega
theorem FL.wt_mem : ∀ (l : FL) (c : ByteArray × T), c ∈ l.list → c.1.size / 64 + c.2.wt ≤ l.wt
  | .nil, c, h => by simp [FL.list] at h
  | .cons s v r, c, h => by
    simp only [FL.list, List.mem_cons] at h
    simp only [FL.wt]
    rcases h with rfl | h
    · simp only []; omega
    · have := FL.wt_mem r c h; omega
theorem T.kid_wt (v c : T) (h : c ∈ v.kids) : c.wt ≤ v.wt := by
  cases v with
  | mk k bo n t ya yc y la lc l fa fc f =>
    simp only [T.kids, List.mem_append, List.mem_map] at h
    simp only [T.wt]
    rcases h with h | ⟨x, h, rfl⟩
    · have := TL.wt_mem l c h; omega
    · have := FL.wt_mem f x h; omega
theorem flat_wt : ∀ (N : Nat) (v : T), v.sz ≤ N → ∀ (d e : Int) (x : T), (d, x) ∈ v.flat e → x.wt ≤ v.wt := by
  intro N
  induction N with
  | zero => intro v hv; cases v; simp [T.sz] at hv
  | succ N ih =>
    intro v hv d e x hx
    rw [T.flat_is] at hx
    rcases List.mem_cons.1 hx with h | h
    · cases h; omega
    · obtain ⟨c, hc, hx⟩ := List.mem_flatMap.1 h
      have h1 := T.kid_sz v c hc
      have h2 := T.kid_wt v c hc
      have h3 := ih c (by omega) d (e + 1) x hx
      omega
theorem FL.len_wt (f : FL) : f.list.length ≤ f.wt := by
  match f with
  | .nil => simp [FL.list]
  | .cons s v r =>
    have h1 := FL.len_wt r
    have h2 : 1 ≤ v.wt := by cases v; simp only [T.wt]; omega
    simp only [FL.list, FL.wt, List.length_cons]
    omega
theorem node_of (x : T) (h : x.wt ≤ 20000) : x.Node := by
  cases x with
  | mk k bo n t ya yc y la lc l fa fc f =>
    simp only [T.wt] at h
    have h1 := FL.len_wt f
    refine ⟨by omega, by omega, by omega, fun x hx => ?_⟩
    have := FL.wt_mem f x hx
    omega
theorem tame_of (v : T) (h : v.wt ≤ 20000) : v.Tame :=
  ⟨by have := T.sz_wt v; omega, fun d x hx => node_of x (by have := flat_wt v.sz v (Nat.le_refl _) d 1 x hx; omega)⟩
theorem enc_small (v : T) (h : v.wt ≤ 20000) : v.enc.length ≤ 9999999 := by have := T.enc_wt v; omega

mutual
/-- kinds 1 to 6, here and in the lists below. -/
def T.ok : T → Prop
  | .mk k bo n t ya yc y la lc l fa fc f => k = 1 ∨ k = 2 ∨ k = 3 ∨ k = 4 ∨ k = 5 ∨ (k = 6 ∧ l.ok)
def TL.ok : TL → Prop
  | .nil => True
  | .cons v r => v.ok ∧ r.ok
end
theorem firstE_zero (fe : T → Nat) (l : List (Int × T)) (h : firstE fe l = 0) : ∀ z ∈ l, fe z.2 = 0 := by
  induction l with
  | nil => intro z hz; simp at hz
  | cons x r ih =>
    intro z hz
    simp only [firstE] at h
    by_cases h0 : fe x.2 = 0
    · rw [if_pos h0] at h
      rcases List.mem_cons.1 hz with rfl | hz
      · exact h0
      · exact ih h z hz
    · rw [if_neg h0] at h
      exact absurd h h0
theorem fit_kind {k : Int} {bo : Bool} {n : Int} {t : ByteArray} {ya : Option Addr} {yc : Nat} {y : List Int} {la : Option Addr} {lc : Nat} {l : TL} {fa : Option Addr} {fc : Nat} {f : FL} (h : fitE (.mk k bo n t ya yc y la lc l fa fc f) = 0) : k = 1 ∨ k = 2 ∨ k = 3 ∨ k = 4 ∨ k = 5 ∨ k = 6 ∨ k = 7 := by
  by_cases h2 : k = 2
  · omega
  by_cases h3 : k = 3
  · omega
  by_cases h4 : k = 4
  · omega
  by_cases h5 : k = 5
  · omega
  by_cases h6 : k = 6
  · omega
  by_cases h7 : k = 7
  · omega
  simp only [fitE, h2, h3, h4, h5, h6, h7, if_false] at h
  by_cases hb : alB k bo n t y.length l.list.length f.list.length 1 false 0 ⟨#[]⟩ 0 0 0 = true
  · simp only [alB, decide_eq_true_eq] at hb
    exact .inl hb.1
  · rw [if_neg hb] at h
    omega
theorem TL.ok_of : ∀ (l : TL), (∀ c ∈ l.list, c.ok) → l.ok
  | .nil, _ => trivial
  | .cons v r, h => ⟨h v (by simp [TL.list]), TL.ok_of r (fun c hc => h c (by simp [TL.list, hc]))⟩
theorem ok_of : ∀ (N : Nat) (v : T), v.sz ≤ N → ∀ e, (∀ z ∈ v.flat e, fitE z.2 = 0) → v.hd = false → v.ok := by
  intro N
  induction N with
  | zero => intro v hv; cases v; simp [T.sz] at hv
  | succ N ih =>
    intro v hv e hz hd
    have h0 := hz (e, v) (by rw [T.flat_is]; simp)
    cases v with
    | mk k bo n t ya yc y la lc l fa fc f =>
    have hk := fit_kind h0
    simp only [T.hd, Bool.or_eq_false_iff, decide_eq_false_iff_not] at hd
    simp only [T.ok]
    have hl : l.ok := by
      refine TL.ok_of l (fun c hc => ?_)
      have hkid : c ∈ (T.mk k bo n t ya yc y la lc l fa fc f).kids := by simp only [T.kids]; exact List.mem_append_left _ hc
      have hs := T.kid_sz _ c hkid
      refine ih c (by omega) (e + 1) (fun z hzc => hz z ?_) ?_
      · rw [T.flat_is]
        exact List.mem_cons_of_mem _ (List.mem_flatMap.2 ⟨c, hkid, hzc⟩)
      · have h9 := hd.2
        rw [TL.hd_is] at h9
        have := List.any_eq_false.1 h9 c hc
        simpa using this
    have h7 := hd.1
    rcases hk with h | h | h | h | h | h | h
    · exact .inl h
    · exact .inr (.inl h)
    · exact .inr (.inr (.inl h))
    · exact .inr (.inr (.inr (.inl h)))
    · exact .inr (.inr (.inr (.inr (.inl h))))
    · exact .inr (.inr (.inr (.inr (.inr ⟨h, hl⟩))))
    · exact absurd h h7
theorem one_ok (v : T) (h : oneE v = 0) : v.ok ∧ v.enc.length ≤ 160 := by
  unfold oneE at h
  by_cases hc : ckE v = 0
  · rw [if_pos hc] at h
    cases hh : v.hd
    · rw [hh] at h
      simp at h
      refine ⟨ok_of v.sz v (Nat.le_refl _) 1 ?_ hh, h⟩
      unfold ckE chk at hc
      split at hc
      · omega
      split at hc
      · omega
      exact firstE_zero _ _ hc
    · rw [hh] at h
      simp at h
  · rw [if_neg hc] at h
    omega
theorem esc_free : ∀ (a b s r : List Int), esc a ++ 0 :: 1 :: s = esc b ++ 0 :: 1 :: r → a = b ∧ s = r := by
  intro a
  induction a with
  | nil =>
    intro b s r h
    cases b with
    | nil => simp [esc] at h; exact ⟨rfl, h⟩
    | cons c t =>
      rw [esc_cons] at h
      by_cases hc : c = 0
      · simp [esc, hc] at h
      · simp [esc, hc] at h
        omega
  | cons x a ih =>
    intro b s r h
    cases b with
    | nil =>
      rw [esc_cons] at h
      by_cases hc : x = 0
      · simp [esc, hc] at h
      · simp [esc, hc] at h
    | cons c t =>
      rw [esc_cons, esc_cons] at h
      by_cases hx : x = 0
      · by_cases hc : c = 0
        · simp [hx, hc] at h
          obtain ⟨h1, h2⟩ := ih t s r h
          exact ⟨by rw [hx, hc, h1], h2⟩
        · simp [hx, hc] at h
          omega
      · by_cases hc : c = 0
        · simp [hx, hc] at h
        · simp [hx, hc] at h
          obtain ⟨h1, h2⟩ := ih t s r h.2
          exact ⟨by rw [h.1, h1], h2⟩
/-- the first byte of a value's bytes. -/
theorem enc_first (v : T) (h : v.ok) : ∃ c t, v.enc = c :: t ∧ 16 ≤ c := by
  cases v with
  | mk k bo n t ya yc y la lc l fa fc f =>
  simp only [T.ok] at h
  rcases h with rfl | rfl | rfl | rfl | rfl | ⟨rfl, _⟩ <;> simp [T.enc, bB, bI, bT, bYs]
  split <;> omega
theorem enc_free : ∀ (N : Nat) (u v : T), u.sz ≤ N → u.ok → v.ok → ∀ s r, u.enc ++ s = v.enc ++ r → u.enc = v.enc ∧ s = r := by
  intro N
  induction N with
  | zero => intro u v hu; cases u; simp [T.sz] at hu
  | succ N ih =>
    intro u v hu hou hov s r he
    cases u with
    | mk k bo n t ya yc y la lc l fa fc f =>
    cases v with
    | mk k' bo' n' t' ya' yc' y' la' lc' l' fa' fc' f' =>
    have hlist : k = 6 → k' = 6 → ∀ (m m' : TL), m.sz ≤ N → m.ok → m'.ok → ∀ s r, m.enc ++ 1 :: s = m'.enc ++ 1 :: r → m.enc = m'.enc ∧ s = r := by
      intro _ _ m
      exact TL.rec (motive_1 := fun _ => True) (motive_2 := fun m => ∀ m' : TL, m.sz ≤ N → m.ok → m'.ok → ∀ s r, m.enc ++ 1 :: s = m'.enc ++ 1 :: r → m.enc = m'.enc ∧ s = r) (motive_3 := fun _ => True)
        (fun _ _ _ _ _ _ _ _ _ _ _ _ _ _ _ => trivial)
        (by
          intro m' _ _ hm' s r h
          cases m' with
          | nil => simp [TL.enc] at h; exact ⟨rfl, h⟩
          | cons v' r' =>
            obtain ⟨c, t, hc, hge⟩ := enc_first v' hm'.1
            simp [TL.enc, hc] at h
            omega)
        (by
          intro v0 r0 _ ihr m' hsz hm hm' s r h
          cases m' with
          | nil =>
            obtain ⟨c, t, hc, hge⟩ := enc_first v0 hm.1
            simp [TL.enc, hc] at h
            omega
          | cons v' r' =>
            simp only [TL.sz] at hsz
            simp only [TL.enc, List.append_assoc] at h ⊢
            obtain ⟨h1, h2⟩ := ih v0 v' (by omega) hm.1 hm'.1 _ _ h
            obtain ⟨h3, h4⟩ := ihr r' (by omega) hm.2 hm'.2 s r h2
            exact ⟨by rw [h1, h3], h4⟩)
        trivial (fun _ _ _ _ _ => trivial) m
    simp only [T.sz] at hu
    simp only [T.ok] at hou hov
    rcases hou with rfl | rfl | rfl | rfl | rfl | ⟨rfl, hl⟩ <;> rcases hov with rfl | rfl | rfl | rfl | rfl | ⟨rfl, hl'⟩ <;> simp [T.enc, bB, bI, bT, bYs] at he ⊢
    all_goals first
      | exact he
      | (exfalso; have h9 := he.1; split at h9 <;> omega)
      | exact List.append_inj he (by simp [nbs_len])
      | (obtain ⟨h1, h2⟩ := esc_free _ _ _ _ he; exact ⟨by rw [h1], h2⟩)
      | exact hlist rfl rfl l l' (by omega) hl hl' s r he
theorem esc_byts (bs : List Int) (h : Byts bs) : Byts (esc bs) := by
  intro c hc
  unfold esc at hc
  obtain ⟨x, hx, hc⟩ := List.mem_flatMap.1 hc
  have := h x hx
  split at hc
  · simp at hc; omega
  · simp at hc; omega
theorem nbs_byts (X : Int) (k : Nat) : Byts (nbs X k) := by
  intro c hc
  unfold nbs at hc
  obtain ⟨j, _, rfl⟩ := List.mem_map.1 hc
  exact byte_bd _
mutual
theorem T.enc_byts {n₀ : Nat} {W : World} : ∀ v : T, v.Mem n₀ W → Byts v.enc
  | .mk k bo n t ya yc y la lc l fa fc f, hm => by
    have h1 := TL.enc_byts l 0 hm.2.2.2.2.1
    have h2 := esc_byts _ (sb_byts t)
    have h3 := esc_byts y hm.2.1
    have h4 := nbs_byts (nX n) 8
    intro c hc
    simp only [T.enc] at hc
    split at hc
    · simp at hc; omega
    split at hc
    · simp [bB] at hc; split at hc <;> omega
    split at hc
    · simp only [bI, List.mem_cons] at hc
      rcases hc with rfl | hc
      · omega
      · exact h4 c hc
    split at hc
    · simp only [bT, List.mem_cons, List.mem_append] at hc
      rcases hc with rfl | hc | rfl | rfl | hc
      · omega
      · exact h2 c hc
      · omega
      · omega
      · simp at hc
    split at hc
    · simp only [bYs, List.mem_cons, List.mem_append] at hc
      rcases hc with rfl | hc | rfl | rfl | hc
      · omega
      · exact h3 c hc
      · omega
      · omega
      · simp at hc
    split at hc
    · simp only [List.mem_cons, List.mem_append] at hc
      rcases hc with rfl | hc | rfl | hc
      · omega
      · exact h1 c hc
      · omega
      · simp at hc
    · simp at hc
theorem TL.enc_byts {n₀ : Nat} {W : World} {a : Option Addr} : ∀ (l : TL) (i : Nat), l.Mem n₀ W a i → Byts l.enc
  | .nil, _, _ => by intro c hc; simp [TL.enc] at hc
  | .cons v r, i, hm => by
    intro c hc
    simp only [TL.enc, List.mem_append] at hc
    rcases hc with hc | hc
    · exact T.enc_byts v hm.2.1 c hc
    · exact TL.enc_byts r (i + 1) hm.2.2 c hc
end
theorem tn_up (c : Int) (h : 0 ≤ c) : tn 0 c = c := by
  unfold tn
  simp
  omega
theorem xor_255 : ∀ c : Nat, c < 256 → c ^^^ 255 = 255 - c := by decide +kernel
theorem tn_down (c : Int) (h : 0 ≤ c ∧ c ≤ 255) : tn 255 c = 255 - c := by
  unfold tn
  have h1 := xor_255 c.toNat (by omega)
  have h2 : (255 : Int).toNat = 255 := rfl
  rw [h2, h1]
  omega
/-- alike, or unlike at some place. -/
inductive Apart : List Int → List Int → Prop
  | same (a : List Int) : Apart a a
  | here (x y : Int) (a b : List Int) (h : x ≠ y) : Apart (x :: a) (y :: b)
  | next (x : Int) (a b : List Int) (h : Apart a b) : Apart (x :: a) (x :: b)
theorem apart_of : ∀ a b : List Int, (∀ s, a = b ++ s → s = []) → (∀ s, b = a ++ s → s = []) → Apart a b := by
  intro a
  induction a with
  | nil =>
    intro b _ h
    have := h b (by simp)
    subst this
    exact .same []
  | cons x a ih =>
    intro b h1 h2
    cases b with
    | nil => have := h1 (x :: a) (by simp); simp at this
    | cons y b =>
      by_cases hxy : x = y
      · subst hxy
        exact .next x a b (ih b (fun s hs => h1 s (by rw [hs]; rfl)) (fun s hs => h2 s (by rw [hs]; rfl)))
      · exact .here x y a b hxy
theorem ord_turn (a b : List Int) (h : Apart a b) (ha : Byts a) (hb : Byts b) : ordI (a.map (tn 0)) (b.map (tn 0)) = - ordI (a.map (tn 255)) (b.map (tn 255)) := by
  induction h with
  | same a => rw [ordI_self, ordI_self]; rfl
  | here x y a b hne =>
    have h1 := ha x (by simp)
    have h2 := hb y (by simp)
    simp only [List.map_cons, ordI, tn_up x h1.1, tn_up y h2.1, tn_down x h1, tn_down y h2]
    by_cases hlt : x < y
    · rw [if_pos hlt, if_neg (by omega), if_pos (by omega)]
    · rw [if_neg hlt, if_pos (by omega), if_pos (by omega)]
      rfl
  | next x a b _ ih =>
    simp only [List.map_cons, ordI]
    rw [if_neg (by omega), if_neg (by omega), if_neg (by omega), if_neg (by omega)]
    exact ih (fun c hc => ha c (by simp [hc])) (fun c hc => hb c (by simp [hc]))
theorem enc_apart (u v : T) (hu : u.ok) (hv : v.ok) : Apart u.enc v.enc := by
  refine apart_of _ _ (fun s hs => ?_) (fun s hs => ?_)
  · have := enc_free u.sz u v (Nat.le_refl _) hu hv [] s (by simpa using hs)
    exact this.2.symm
  · have := enc_free v.sz v u (Nat.le_refl _) hv hu [] s (by simpa using hs)
    exact this.2.symm
end Go.Proofs.Ytegoeaofjnpehaa
