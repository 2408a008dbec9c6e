/- Mathematics of values: a light one is tame; the bytes of one never begin those of another. -/
import Derived.Test.YtegoeaofjnpehabVN
import Derived.Test.YtegoeaofjnpehabRM
import Derived.Test.YtegoeaofjnpehabP
import Derived.Test.YtegoeaofjnpehabVA
namespace Go.Proofs.Ytegoeaofjnpehab
set_option linter.unusedVariables false

mutual
theorem T.sz_wt : ∀ v : T, v.sz ≤ v.wt
  | .mk k bo n t ya yc y la lc l fa fc f => by
    have h1 := TL.sz_wt l
    have h2 := FL.sz_wt f
    simp only [T.sz, T.wt]
    omega
theorem TL.sz_wt : ∀ l : TL, l.sz ≤ l.wt
  | .nil => by simp [TL.sz, TL.wt]
  | .cons v r => by
    have h1 := T.sz_wt v
    have h2 := TL.sz_wt r
    simp only [TL.sz, TL.wt]
    omega
theorem FL.sz_wt : ∀ l : FL, l.sz ≤ l.wt
  | .nil => by simp [FL.sz, FL.wt]
  | .cons s v r => by
    have h1 := T.sz_wt v
    have h2 := FL.sz_wt r
    simp only [FL.sz, FL.wt]
    omega
end
mutual
theorem T.enc_wt : ∀ v : T, v.enc.length ≤ 130 * v.wt
  | .mk k bo n t ya yc y la lc l fa fc f => by
    have h1 := TL.enc_wt l
    have h2 := esc_len (sb t)
    have h3 := esc_len y
    rw [sb_len] at h2
    simp only [T.enc, T.wt]
    split
    · simp; omega
    split
    · simp [bB]; omega
    split
    · simp [bI, nbs_len]; omega
    split
    · simp [bT]; omega
    split
    · simp [bYs]; omega
    split
    · simp; omega
    · simp
theorem TL.enc_wt : ∀ l : TL, l.enc.length ≤ 130 * l.wt
  | .nil => by simp [TL.enc]
  | .cons v r => by
    have h1 := T.enc_wt v
    have h2 := TL.enc_wt r
    simp only [TL.enc, TL.wt, List.length_append]
    omega
end
theorem TL.wt_mem : ∀ (l : TL) (c : T), c ∈ l.list → c.wt ≤ l.wt
  | .nil, c, h => by simp [TL.list] at h
  | .cons v r, c, h => by
    simp only [TL.list, List.mem_cons] at h
    simp only [TL.wt]
    rcases h with rfl | h
    · omega
    · have := TL.wt_mem r c h; omega
theorem FL.wt_mem : ∀ (l : FL) (c : ByteArray × T), c ∈ l.list → c.1.size / 64 + c.2.wt ≤ l.wt
  | .nil, c, h => by simp [FL.list] at h
  | .cons s v r, c, h => by
    simp only [FL.list, List.mem_cons] at h
    simp only [FL.wt]
    rcases h with rfl | h
    · simp only []; omega
    · have := FL.wt_mem r c h; omega
theorem T.kid_wt (v c : T) (h : c ∈ v.kids) : c.wt ≤ v.wt := by
  cases v with
  | mk k bo n t ya yc y la lc l fa fc f =>
    simp only [T.kids, List.mem_append, List.mem_map] at h
    simp only [T.wt]
    rcases h with h | ⟨x, h, rfl⟩
    · have := TL.wt_mem l c h; omega
    · have := FL.wt_mem f x h; omega
theorem flat_wt : ∀ (N : Nat) (v : T), v.sz ≤ N → ∀ (d e : Int) (x : T), (d, x) ∈ v.flat e → x.wt ≤ v.wt := by
  intro N
  induction N with
  | zero => intro v hv; cases v; simp [T.sz] at hv
  | succ N ih =>
    intro v hv d e x hx
    rw [T.flat_is] at hx
    rcases List.mem_cons.1 hx with h | h
    · cases h; omega
    · obtain ⟨c, hc, hx⟩ := List.mem_flatMap.1 h
      have h1 := T.kid_sz v c hc
      have h2 := T.kid_wt v c hc
      have h3 := ih c (by omega) d (e + 1) x hx
      omega
theorem FL.len_wt (f : FL) : f.list.length ≤ f.wt := by
  match f with
  | .nil => simp [FL.list]
  | .cons s v r =>
    have h1 := FL.len_wt r
    have h2 : 1 ≤ v.wt := by cases v; simp only [T.wt]; omega
    simp only [FL.list, FL.wt, List.length_cons]
    omega
theorem node_of (x : T) (h : x.wt ≤ 20000) : x.Node := by
  cases x with
  | mk k bo n t ya yc y la lc l fa fc f =>
    simp only [T.wt] at h
    have h1 := FL.len_wt f
    refine ⟨by omega, by omega, by omega, fun x hx => ?_⟩
    have := FL.wt_mem f x hx
    omega
theorem tame_of (v : T) (h : v.wt ≤ 20000) : v.Tame :=
  ⟨by have := T.sz_wt v; omega, fun d x hx => node_of x (by have := flat_wt v.sz v (Nat.le_refl _) d 1 x hx; omega)⟩
theorem enc_small (v : T) (h : v.wt ≤ 20000) : v.enc.length ≤ 9999999 := by have := T.enc_wt v; omega

mutual
/-- kinds 1 to 6, here and in the lists below. -/
def T.ok : T → Prop
  | .mk k bo n t ya yc y la lc l fa fc f => k = 1 ∨ k = 2 ∨ k = 3 ∨ k = 4 ∨ k = 5 ∨ (k = 6 ∧ l.ok)
def TL.ok : TL → Prop
  | .nil => True
  | .cons v r => v.ok ∧ r.ok
end
theorem firstE_zero (fe : T → Nat) (l : List (Int × T)) (h : firstE fe l = 0) : ∀ z ∈ l, fe z.2 = 0 := by
  induction l with
  | nil => intro z hz; simp at hz
  | cons x r ih =>
    intro z hz
    simp only [firstE] at h
    by_cases h0 : fe x.2 = 0
    · rw [if_pos h0] at h
      rcases List.mem_cons.1 hz with rfl | hz
      · exact h0
      · exact ih h z hz
    · rw [if_neg h0] at h
      exact absurd h h0
theorem fit_kind {k : Int} {bo : Bool} {n : Int} {t : ByteArray} {ya : Option Addr} {yc : Nat} {y : List Int} {la : Option Addr} {lc : Nat} {l : TL} {fa : Option Addr} {fc : Nat} {f : FL} (h : fitE (.mk k bo n t ya yc y la lc l fa fc f) = 0) : k = 1 ∨ k = 2 ∨ k = 3 ∨ k = 4 ∨ k = 5 ∨ k = 6 ∨ k = 7 := by
  by_cases h2 : k = 2
  · omega
  by_cases h3 : k = 3
  · omega
  by_cases h4 : k = 4
  · omega
  by_cases h5 : k = 5
  · omega
  by_cases h6 : k = 6
  · omega
  by_cases h7 : k = 7
  · omega
  simp only [fitE, h2, h3, h4, h5, h6, h7, if_false] at h
  by_cases hb : alB k bo n t y.length l.list.length f.list.length 1 false 0 ⟨#[]⟩ 0 0 0 = true
  · simp only [alB, decide_eq_true_eq] at hb
    exact .inl hb.1
  · rw [if_neg hb] at h
    omega
theorem TL.ok_of : ∀ (l : TL), (∀ c ∈ l.list, c.ok) → l.ok
  | .nil, _ => trivial
  | .cons v r, h => ⟨h v (by simp [TL.list]), TL.ok_of r (fun c hc => h c (by simp [TL.list, hc]))⟩
theorem ok_of : ∀ (N : Nat) (v : T), v.sz ≤ N → ∀ e, (∀ z ∈ v.flat e, fitE z.2 = 0) → v.hd = false → v.ok := by
  intro N
  induction N with
  | zero => intro v hv; cases v; simp [T.sz] at hv
  | succ N ih =>
    intro v hv e hz hd
    have h0 := hz (e, v) (by rw [T.flat_is]; simp)
    cases v with
    | mk k bo n t ya yc y la lc l fa fc f =>
    have hk := fit_kind h0
    simp only [T.hd, Bool.or_eq_false_iff, decide_eq_false_iff_not] at hd
    simp only [T.ok]
    have hl : l.ok := by
      refine TL.ok_of l (fun c hc => ?_)
      have hkid : c ∈ (T.mk k bo n t ya yc y la lc l fa fc f).kids := by simp only [T.kids]; exact List.mem_append_left _ hc
      have hs := T.kid_sz _ c hkid
      refine ih c (by omega) (e + 1) (fun z hzc => hz z ?_) ?_
      · rw [T.flat_is]
        exact List.mem_cons_of_mem _ (List.mem_flatMap.2 ⟨c, hkid, hzc⟩)
      · have h9 := hd.2
        rw [TL.hd_is] at h9
        have := List.any_eq_false.1 h9 c hc
        simpa using this
    have h7 := hd.1
    rcases hk with h | h | h | h | h | h | h
    · exact .inl h
    · exact .inr (.inl h)
    · exact .inr (.inr (.inl h))
    · exact .inr (.inr (.inr (.inl h)))
    · exact .inr (.inr (.inr (.inr (.inl h))))
    · exact .inr (.inr (.inr (.inr (.inr ⟨h, hl⟩))))
    · exact absurd h h7
theorem one_ok (v : T) (h : oneE v = 0) : v.ok ∧ v.enc.length ≤ 160 := by
  unfold oneE at h
  by_cases hc : ckE v = 0
  · rw [if_pos hc] at h
    cases hh : v.hd
    · rw [hh] at h
      simp at h
      refine ⟨ok_of v.sz v (Nat.le_refl _) 1 ?_ hh, h⟩
      unfold ckE chk at hc
      split at hc
      · omega
      split at hc
      · omega
      exact firstE_zero _ _ hc
    · rw [hh] at h
      simp at h
  · rw [if_neg hc] at h
    omega
theorem esc_free : ∀ (a b s r : List Int), esc a ++ 0 :: 1 :: s = esc b ++ 0 :: 1 :: r → a = b ∧ s = r := by
  intro a
  induction a with
  | nil =>
    intro b s r h
    cases b with
    | nil => simp [esc] at h; exact ⟨rfl, h⟩
    | cons c t =>
      rw [esc_cons] at h
      by_cases hc : c = 0
      · simp [esc, hc] at h
      · simp [esc, hc] at h
        omega
  | cons x a ih =>
    intro b s r h
    cases b with
    | nil =>
      rw [esc_cons] at h
      by_cases hc : x = 0
      · simp [esc, hc] at h
      · simp [esc, hc] at h
    | cons c t =>
      rw [esc_cons, esc_cons] at h
      by_cases hx : x = 0
      · by_cases hc : c = 0
        · simp [hx, hc] at h
          obtain ⟨h1, h2⟩ := ih t s r h
          exact ⟨by rw [hx, hc, h1], h2⟩
        · simp [hx, hc] at h
          omega
      · by_cases hc : c = 0
        · simp [hx, hc] at h
        · simp [hx, hc] at h
          obtain ⟨h1, h2⟩ := ih t s r h.2
          exact ⟨by rw [h.1, h1], h2⟩
/-- the first byte of a value's bytes. -/
theorem enc_first (v : T) (h : v.ok) : ∃ c t, v.enc = c :: t ∧ 16 ≤ c := by
  cases v with
  | mk k bo n t ya yc y la lc l fa fc f =>
  simp only [T.ok] at h
  rcases h with rfl | rfl | rfl | rfl | rfl | ⟨rfl, _⟩ <;> simp [T.enc, bB, bI, bT, bYs]
  split <;> omega
theorem enc_free : ∀ (N : Nat) (u v : T), u.sz ≤ N → u.ok → v.ok → ∀ s r, u.enc ++ s = v.enc ++ r → u.enc = v.enc ∧ s = r := by
  intro N
  induction N with
  | zero => intro u v hu; cases u; simp [T.sz] at hu
  | succ N ih =>
    intro u v hu hou hov s r he
    cases u with
    | mk k bo n t ya yc y la lc l fa fc f =>
    cases v with
    | mk k' bo' n' t' ya' yc' y' la' lc' l' fa' fc' f' =>
    have hlist : k = 6 → k' = 6 → ∀ (m m' : TL), m.sz ≤ N → m.ok → m'.ok → ∀ s r, m.enc ++ 1 :: s = m'.enc ++ 1 :: r → m.enc = m'.enc ∧ s = r := by
      intro _ _ m
      exact TL.rec (motive_1 := fun _ => True) (motive_2 := fun m => ∀ m' : TL, m.sz ≤ N → m.ok → m'.ok → ∀ s r, m.enc ++ 1 :: s = m'.enc ++ 1 :: r → m.enc = m'.enc ∧ s = r) (motive_3 := fun _ => True)
        (fun _ _ _ _ _ _ _ _ _ _ _ _ _ _ _ => trivial)
        (by
          intro m' _ _ hm' s r h
          cases m' with
          | nil => simp [TL.enc] at h; exact ⟨rfl, h⟩
          | cons v' r' =>
            obtain ⟨c, t, hc, hge⟩ := enc_first v' hm'.1
            simp [TL.enc, hc] at h
            omega)
        (by
          intro v0 r0 _ ihr m' hsz hm hm' s r h
          cases m' with
          | nil =>
            obtain ⟨c, t, hc, hge⟩ := enc_first v0 hm.1
            simp [TL.enc, hc] at h
            omega
          | cons v' r' =>
            simp only [TL.sz] at hsz
            simp only [TL.enc, List.append_assoc] at h ⊢
            obtain ⟨h1, h2⟩ := ih v0 v' (by omega) hm.1 hm'.1 _ _ h
            obtain ⟨h3, h4⟩ := ihr r' (by omega) hm.2 hm'.2 s r h2
            exact ⟨by rw [h1, h3], h4⟩)
        trivial (fun _ _ _ _ _ => trivial) m
    simp only [T.sz] at hu
    simp only [T.ok] at hou hov
    rcases hou with rfl | rfl | rfl | rfl | rfl | ⟨rfl, hl⟩ <;> rcases hov with rfl | rfl | rfl | rfl | rfl | ⟨rfl, hl'⟩ <;> simp [T.enc, bB, bI, bT, bYs] at he ⊢
    all_goals first
      | exact he
      | (exfalso; have h9 := he.1; split at h9 <;> omega)
      | exact List.append_inj he (by simp [nbs_len])
      | (obtain ⟨h1, h2⟩ := esc_free _ _ _ _ he; exact ⟨by rw [h1], h2⟩)
      | exact hlist rfl rfl l l' (by omega) hl hl' s r he
theorem esc_byts (bs : List Int) (h : Byts bs) : Byts (esc bs) := by
  intro c hc
  unfold esc at hc
  obtain ⟨x, hx, hc⟩ := List.mem_flatMap.1 hc
  have := h x hx
  split at hc
  · simp at hc; omega
  · simp at hc; omega
theorem nbs_byts (X : Int) (k : Nat) : Byts (nbs X k) := by
  intro c hc
  unfold nbs at hc
  obtain ⟨j, _, rfl⟩ := List.mem_map.1 hc
  exact byte_bd _
mutual
theorem T.enc_byts {n₀ : Nat} {W : World} : ∀ v : T, v.Mem n₀ W → Byts v.enc
  | .mk k bo n t ya yc y la lc l fa fc f, hm => by
    have h1 := TL.enc_byts l 0 hm.2.2.2.2.1
    have h2 := esc_byts _ (sb_byts t)
    have h3 := esc_byts y hm.2.1
    have h4 := nbs_byts (nX n) 8
    intro c hc
    simp only [T.enc] at hc
    split at hc
    · simp at hc; omega
    split at hc
    · simp [bB] at hc; split at hc <;> omega
    split at hc
    · simp only [bI, List.mem_cons] at hc
      rcases hc with rfl | hc
      · omega
      · exact h4 c hc
    split at hc
    · simp only [bT, List.mem_cons, List.mem_append] at hc
      rcases hc with rfl | hc | rfl | rfl | hc
      · omega
      · exact h2 c hc
      · omega
      · omega
      · simp at hc
    split at hc
    · simp only [bYs, List.mem_cons, List.mem_append] at hc
      rcases hc with rfl | hc | rfl | rfl | hc
      · omega
      · exact h3 c hc
      · omega
      · omega
      · simp at hc
    split at hc
    · simp only [List.mem_cons, List.mem_append] at hc
      rcases hc with rfl | hc | rfl | hc
      · omega
      · exact h1 c hc
      · omega
      · simp at hc
    · simp at hc
theorem TL.enc_byts {n₀ : Nat} {W : World} {a : Option Addr} : ∀ (l : TL) (i : Nat), l.Mem n₀ W a i → Byts l.enc
  | .nil, _, _ => by intro c hc; simp [TL.enc] at hc
  | .cons v r, i, hm => by
    intro c hc
    simp only [TL.enc, List.mem_append] at hc
    rcases hc with hc | hc
    · exact T.enc_byts v hm.2.1 c hc
    · exact TL.enc_byts r (i + 1) hm.2.2 c hc
end
theorem tn_up (c : Int) (h : 0 ≤ c) : tn 0 c = c := by
  unfold tn
  simp
  omega
theorem xor_255 : ∀ c : Nat, c < 256 → c ^^^ 255 = 255 - c := by decide +kernel
theorem tn_down (c : Int) (h : 0 ≤ c ∧ c ≤ 255) : tn 255 c = 255 - c := by
  unfold tn
  have h1 := xor_255 c.toNat (by omega)
  have h2 : (255 : Int).toNat = 255 := rfl
  rw [h2, h1]
  omega
/-- alike, or unlike at some place. -/
inductive Apart : List Int → List Int → Prop
  | same (a : List Int) : Apart a a
  | here (x y : Int) (a b : List Int) (h : x ≠ y) : Apart (x :: a) (y :: b)
  | next (x : Int) (a b : List Int) (h : Apart a b) : Apart (x :: a) (x :: b)
theorem apart_of : ∀ a b : List Int, (∀ s, a = b ++ s → s = []) → (∀ s, b = a ++ s → s = []) → Apart a b := by
  intro a
  induction a with
  | nil =>
    intro b _ h
    have := h b (by simp)
    subst this
    exact .same []
  | cons x a ih =>
    intro b h1 h2
    cases b with
    | nil => have := h1 (x :: a) (by simp); simp at this
    | cons y b =>
      by_cases hxy : x = y
      · subst hxy
        exact .next x a b (ih b (fun s hs => h1 s (by rw [hs]; rfl)) (fun s hs => h2 s (by rw [hs]; rfl)))
      · exact .here x y a b hxy
theorem ord_turn (a b : List Int) (h : Apart a b) (ha : Byts a) (hb : Byts b) : ordI (a.map (tn 0)) (b.map (tn 0)) = - ordI (a.map (tn 255)) (b.map (tn 255)) := by
  induction h with
  | same a => rw [ordI_self, ordI_self]; rfl
  | here x y a b hne =>
    have h1 := ha x (by simp)
    have h2 := hb y (by simp)
    simp only [List.map_cons, ordI, tn_up x h1.1, tn_up y h2.1, tn_down x h1, tn_down y h2]
    by_cases hlt : x < y
    · rw [if_pos hlt, if_neg (by omega), if_pos (by omega)]
    · rw [if_neg hlt, if_pos (by omega), if_pos (by omega)]
      rfl
  | next x a b _ ih =>
    simp only [List.map_cons, ordI]
    rw [if_neg (by omega), if_neg (by omega), if_neg (by omega), if_neg (by omega)]
    exact ih (fun c hc => ha c (by simp [hc])) (fun c hc => hb c (by simp [hc]))
theorem enc_apart (u v : T) (hu : u.ok) (hv : v.ok) : Apart u.enc v.enc := by
  refine apart_of _ _ (fun s hs => ?_) (fun s hs => ?_)
  · have := enc_free u.sz u v (Nat.le_refl _) hu hv [] s (by simpa using hs)
    exact this.2.symm
  · have := enc_free v.sz v u (Nat.le_refl _) hv hu [] s (by simpa using hs)
    exact this.2.symm
end Go.Proofs.Ytegoeaofjnpehab
/- Contract of Encode, of any tuple. -/
namespace Go.Proofs.Ytegoeaofjnpehab
open Go.RowKit
set_option linter.unusedVariables false

/-- a row of bools that lies below n₀. -/
def Bl (n₀ : Nat) (W : World) (a : Option Addr) (ds : List Bool) : Prop :=
  ds = [] ∨ ∃ b off, a = some ⟨b, off, none⟩ ∧ b < n₀ ∧ ∀ i, i < ds.length → W.cell? ⟨b, off + i, none⟩ = some (.bool (ds.getD i false))
theorem Bl.on {n₀ : Nat} {A B : World} (hb : Below n₀ A B) {a : Option Addr} {ds : List Bool} (h : Bl n₀ A a ds) : Bl n₀ B a ds := by
  rcases h with h | ⟨b, o, rfl, hlt, hc⟩
  · exact .inl h
  · exact .inr ⟨b, o, rfl, hlt, fun i hi => (hb.cell (p := ⟨b, o + i, none⟩) hlt).trans (hc i hi)⟩
set_option maxHeartbeats 800000 in
theorem falls_any (n₀ : Nat) (a : Option Addr) (cap i : Nat) (ds : List Bool) (w : World) (hd : Bl n₀ w a ds) (hl : ds.length ≤ 9223372036854775807) :
    Calls Try.prog 19 #[.slice a ds.length cap, .int .i64 (i : Int)] w fun e w' => e = .returned (.bool (ds.getD i false)) ∧ w' = w := by
  by_cases hi : i < ds.length
  · rcases hd with h0 | ⟨b, o, rfl, _, hc⟩
    · subst h0; simp at hi
    · have g := hc i hi
      clear hc
      generalize ds.getD i false = x at *
      have hdd : decide ((i : Int) < (ds.length : Int)) = true := by simp; omega
      go_enter Try.func19, Try.ntmps19
      go_wp2
      go_ret
      exact ⟨rfl, rfl⟩
  · have e : ds.getD i false = false := by simp [List.getD_eq_getElem?_getD, List.getElem?_eq_none (Nat.le_of_not_lt hi)]
    rw [e]
    have hdd : decide ((i : Int) < (ds.length : Int)) = false := by simp; omega
    clear hd e
    go_enter Try.func19, Try.ntmps19
    go_wp2
    go_ret
    exact ⟨rfl, rfl⟩
/-- the bytes that One gives, none where it refuses. -/
def outp (v : T) : List Int := if oneE v = 0 then v.enc else []
/-- the bytes of a tuple's values one behind the other. -/
def tupB (ds : List Bool) : Nat → List T → List Int
  | _, [] => []
  | i, v :: r => (outp v).map (tn (mk (ds.getD i false))) ++ tupB ds (i + 1) r
theorem tupB_snoc (ds : List Bool) (l : List T) (c : T) : ∀ i, tupB ds i (l ++ [c]) = tupB ds i l ++ (outp c).map (tn (mk (ds.getD (i + l.length) false))) := by
  induction l with
  | nil => intro i; simp [tupB]
  | cons v r ih =>
    intro i
    simp only [List.cons_append, tupB, ih, List.length_cons, List.append_assoc]
    rw [show i + 1 + r.length = i + (r.length + 1) by omega]
theorem outp_len (v : T) : (outp v).length ≤ 160 := by
  unfold outp
  split
  · rename_i h; exact (one_ok v h).2
  · simp
theorem tupB_len (ds : List Bool) (l : List T) : ∀ i, (tupB ds i l).length ≤ 160 * l.length := by
  induction l with
  | nil => intro i; simp [tupB]
  | cons v r ih =>
    intro i
    have h1 := outp_len v
    have h2 := ih (i + 1)
    simp only [tupB, List.length_append, List.length_map, List.length_cons]
    omega
/-- the first refusal. -/
def tupE : List T → Nat
  | [] => 0
  | v :: r => if oneE v = 0 then tupE r else oneE v
theorem tupE_at (l : List T) (j : Nat) (c : T) (hc : l[j]? = some c) (h : ∀ x ∈ l.take j, oneE x = 0) (hx : ¬ oneE c = 0) : tupE l = oneE c := by
  induction l generalizing j with
  | nil => simp at hc
  | cons v r ih =>
    cases j with
    | zero => simp at hc; subst hc; simp [tupE, hx]
    | succ j =>
      have h0 : oneE v = 0 := h v (by simp)
      simp only [tupE, h0, if_true]
      exact ih j (by simpa using hc) (fun x hx => h x (by simp [hx]))
theorem tupE_all (l : List T) (h : ∀ x ∈ l, oneE x = 0) : tupE l = 0 := by
  induction l with
  | nil => rfl
  | cons v r ih => simp only [tupE, h v (by simp), if_true]; exact ih (fun x hx => h x (by simp [hx]))
/-- what Encode answers. -/
def encE (ds : List Bool) (l : List T) : Nat := if 4 < l.length then 1 else if tupE l = 0 then (if 160 < (tupB ds 0 l).length then 42 else 0) else tupE l
def encB (ds : List Bool) (l : List T) : List Int := if encE ds l = 0 then tupB ds 0 l else []
def EncOut (ds : List Bool) (l : List T) (w : World) (e : Ending) (w' : World) : Prop :=
  (∃ a c, e = .returned (.tuple #[.slice a (encB ds l).length c, .int .u16 (encE ds l : Int)]) ∧ Own w' (.slice a (encB ds l).length c) (encB ds l)) ∧ Below w.heap.size w w'
theorem EncOut.bad {ds : List Bool} {l : List T} {w w' : World} {x : Nat} (h : encE ds l = x) (hx : ¬ x = 0) (hb : Below w.heap.size w w') : EncOut ds l w (.returned (.tuple #[.slice none 0 0, .int .u16 (x : Int)])) w' := by
  subst h
  refine ⟨⟨none, 0, ?_, ?_⟩, hb⟩
  · simp [encB, hx]
  · simp only [encB, if_neg hx]; exact Own.nil _
theorem EncOut.good {ds : List Bool} {l : List T} {w w' : World} {a : Option Addr} {n c : Nat} (h : encE ds l = 0) (hn : n = (tupB ds 0 l).length) (ho : Own w' (.slice a n c) (tupB ds 0 l)) (hb : Below w.heap.size w w') : EncOut ds l w (.returned (.tuple #[.slice a n c, .int .u16 0])) w' := by
  subst hn
  refine ⟨⟨a, c, ?_, ?_⟩, hb⟩
  · simp [encB, h]
  · simpa [encB, h] using ho
set_option maxHeartbeats 3200000 in
set_option maxRecDepth 1000000 in
theorem encode_gen (n₀ : Nat) (la : Option Addr) (lc : Nat) (l : TL) (da : Option Addr) (dc : Nat) (ds : List Bool) (w : World) (hm : l.Mem n₀ w la 0) (hw : ∀ c ∈ l.list, c.wt ≤ 20000) (hll : l.list.length ≤ 9223372036854775807) (hd : Bl n₀ w da ds) (hdl : ds.length ≤ 9223372036854775807) (hn : n₀ ≤ w.heap.size) :
    Calls Try.prog 9 #[.slice la l.list.length lc, .slice da ds.length dc] w fun e w' => EncOut ds l.list w e w' ∧ True := by
  obtain ⟨i0, hi, hz0, hz1, hz2⟩ := info_parts Try.info5
  have HM := hide hm
  have HD := hide hd
  have HFa := hide (fun W j (h : Below n₀ w W) => falls_any n₀ da dc j ds W (hd.on h) hdl)
  have HOne : Hid (∀ c ∈ l.list, ∀ d W, Below n₀ w W → n₀ ≤ W.heap.size → c.Mem n₀ W → Calls Try.prog 12 #[c.val, .bool d] W fun e w' => (∃ a k, e = .returned (.tuple #[.slice a (outp c).length k, .int .u16 (oneE c : Int)]) ∧ Row w' a ((outp c).map (tn (mk d))) ∧ (a = none → (outp c).length = 0 ∧ k = 0)) ∧ Below W.heap.size W w') :=
    fun c hc d W hW hs hcm => (one_gen d n₀ c W hcm hs (tame_of c (hw c hc)) (enc_small c (hw c hc))).mono (fun e w' h => h.1)
  have HEe : Hid (encE ds l.list = if 4 < l.list.length then 1 else if tupE l.list = 0 then (if 160 < (tupB ds 0 l.list).length then 42 else 0) else tupE l.list) := rfl
  have HBad := hide (fun w' x => EncOut.bad (ds := ds) (l := l.list) (w := w) (w' := w') (x := x))
  have HGood := hide (fun w' a n c => EncOut.good (ds := ds) (l := l.list) (w := w) (w' := w') (a := a) (n := n) (c := c))
  have HTl := hide (fun j => tupB_len ds (l.list.take j) 0)
  clear hm hd hw
  generalize hB : w.heap.size = B at *
  have HBB := hide hB
  have HF0 : Hid (Fr B w w) := by rw [← hB]; exact Fr.refl w
  clear hB
  generalize EncOut ds l.list w = Post at *
  by_cases h4 : 4 < l.list.length
  · have hd4 : decide ((4 : Int) < (l.list.length : Int)) = true := by simp; omega
    have HR : Hid (encE ds l.list = 1) := by rw [Hid, HEe.out, if_pos h4]
    clear h4
    go_enter Try.func9, Try.ntmps9
    go_wp2
    go_ret2
    exact ⟨HBad.out _ 1 HR.out (by omega) HF0.out.below, trivial⟩
  · have hd4 : decide ((4 : Int) < (l.list.length : Int)) = false := by simp; omega
    rw [if_neg h4] at HEe
    go_enter Try.func9, Try.ntmps9
    go_wp2
    go_loopw [6, 16] (fun o i wr => ∃ (j : Nat), i = .int .i64 (j : Int) ∧ j ≤ l.list.length ∧ (∀ x ∈ l.list.take j, oneE x = 0) ∧ OwnB B wr o (tupB ds 0 (l.list.take j)) ∧ Fr B w wr) (fun _ i _ => l.list.length - (intOf i).toNat)
    case atStart => exact ⟨0, rfl, by omega, by simp, ⟨Own.nil _, fun k h => by simp [Value.ownBlock] at h⟩, HF0.out⟩
    case round =>
      obtain ⟨j, rfl, hj, hz, hown, hfr⟩ := hrel
      have HZ := hide hz
      have HF := hide hfr
      have HO := hide hown
      obtain ⟨a1, n1, c1, rfl, HN1⟩ := hown.own.shape2
      clear hfr hown HF0 hz
      by_cases hlt : j < l.list.length
      · obtain ⟨c, hc⟩ : ∃ c, l.list[j]? = some c := ⟨_, List.getElem?_eq_getElem hlt⟩
        have HTk := hide (take_next l.list j c hc)
        have hmem : c ∈ l.list := List.mem_of_getElem? hc
        have HMw := hide (HM.out.on (HF.out.below.mono hn))
        have HMc := hide (TL.Mem.at l 0 HMw.out j c hc).2
        have HOc := hide (HOne.out c hmem (ds.getD j false))
        have HEa := hide (tupE_at l.list j c hc HZ.out)
        have HSn : Hid (tupB ds 0 (l.list.take (j + 1)) = tupB ds 0 (l.list.take j) ++ (outp c).map (tn (mk (ds.getD j false)))) := by
          rw [Hid, HTk.out, tupB_snoc]
          simp [Nat.min_eq_left hj]
        have HZn : Hid (oneE c = 0 → ∀ x ∈ l.list.take (j + 1), oneE x = 0) := by
          intro h0 x hx
          rw [HTk.out] at hx
          rcases List.mem_append.1 hx with h | h
          · exact HZ.out x h
          · rw [List.mem_singleton.1 h]; exact h0
        have HLy := hide (outp_len c)
        have HLt := hide (HTl.out j)
        clear hmem
        generalize outp c = ys at *
        generalize oneE c = x at *
        generalize tupB ds 0 (l.list.take j) = pre at *
        cases c with
        | mk ck cbo cn ct cya cyc cy cla clc cl cfa cfc cf =>
        obtain ⟨b', o', rfl, hb', q0, q1, q2, q3, q4, q5, q6⟩ := HMw.out.cells hc
        clear hc
        simp only [T.val] at HOc
        have HB0 := hide (Box7.new wr (.int .u8 ck) (.bool cbo) (.int .i64 cn) (.string ct) (.slice cya cy.length cyc) (.slice cla cl.list.length clc) (.slice cfa cf.list.length cfc))
        have HX0 := hide (below_alloc wr (.cells #[.int .u8 ck, .bool cbo, .int .i64 cn, .string ct, .slice cya cy.length cyc, .slice cla cl.list.length clc, .slice cfa cf.list.length cfc] 32))
        go_wp2
        have HFX := hide (HF.out.on HX0.out)
        have HOX := hide (HO.out.on HX0.out)
        have HMX := hide ((HMc.out.on (HX0.out.mono (by have := HF.out.size; omega))).on ((Below.refl n₀ _).drew))
        generalize wr.alloc (.cells #[.int .u8 ck, .bool cbo, .int .i64 cn, .string ct, .slice cya cy.length cyc, .slice cla cl.list.length clc, .slice cfa cf.list.length cfc] 32) = X at *
        generalize wr.heap.size = b at *
        have HBd := hide (HB0.out.below (Below.refl _ _).drew)
        obtain ⟨p0, p1, p2, p3, p4, p5, p6⟩ := HB0.out.cells
        have hBX : Below n₀ w X.drew := HFX.out.drew.below.mono hn
        have hsX : n₀ ≤ X.drew.heap.size := by have := HFX.out.drew.size; omega
        have HC19 := hide (HFa.out X.drew j hBX)
        have HC13 := hide (HOc.out X.drew hBX hsX HMX.out)
        generalize ds.getD j false = dd at *
        clear q0 q1 q2 q3 q4 q5 q6 HX0 HF HO hBX hsX HOc HMX
        go_region_held3 (fun W => W.cell? ⟨b, 0, none⟩ = some (.int .u8 ck) ∧ W.cell? ⟨b, 1, none⟩ = some (.bool cbo) ∧ W.cell? ⟨b, 2, none⟩ = some (.int .i64 cn) ∧ W.cell? ⟨b, 3, none⟩ = some (.string ct) ∧ W.cell? ⟨b, 4, none⟩ = some (.slice cya cy.length cyc) ∧ W.cell? ⟨b, 5, none⟩ = some (.slice cla cl.list.length clc) ∧ W.cell? ⟨b, 6, none⟩ = some (.slice cfa cf.list.length cfc)) ((refine ⟨?_, ?_, ?_, ?_, ?_, ?_, ?_⟩ <;> assumption)) ((first | (go_at_call 19; refine HC19.out.mono ?_; intro r' V1 hh; obtain ⟨rfl, rfl⟩ := hh) | (go_at_call 12; refine HC13.out.mono ?_; intro r' V2 hh; obtain ⟨⟨a2, c2, rfl, hrow2, hnn2⟩, hb2⟩ := hh; have HB2 := hide (HBd.out.below hb2); obtain ⟨s0, s1, s2, s3, s4, s5, s6⟩ := HB2.out.cells; have HF2 := hide (HFX.out.drew.on hb2); have HO2 := hide ((HOX.out.on (Below.refl _ _).drew).on hb2); have HR2 := hide hrow2; have HN2 := hide hnn2; clear hb2 hrow2 hnn2)))
        clear p0 p1 p2 p3 p4 p5 p6 s0 s1 s2 s3 s4 s5 s6
        by_cases hx : x = 0
        · subst hx
          have HSr := hide (src_row V2 a2 ys.length c2 (ys.map (tn (mk dd))) (by rw [List.length_map]) HN2.out HR2.out)
          have hlen : pre.length + ys.length ≤ 140737488355328 := by have h1 := HLy.out; have h2 := HLt.out; have h3 : (l.list.take j).length ≤ j := List.length_take_le _ _; omega
          generalize hL : ys.length = L2 at *
          clear hL
          go_wp2_with (at_builtin; refine wpList_append_src (by rfl) (.tmp 32) (.tmp 33) 22 22 (by rfl) i0 Try.underlying22 hi hz0 hz1 hz2 (.slice a1 n1 c1) pre (by rfl) HO2.out.own (.slice a2 L2 c2) L2 (ys.map (tn (mk dd))) (by rfl) HSr.out (by omega) ?_; intro v' w1 hown1 hg1 hf1; obtain ⟨a3, n3, c3, rfl, HN3⟩ := hown1.shape2; have HF3 := hide (HF2.out.grown hg1 HO2.out.new); have HO3 : Hid (OwnB B w1 (.slice a3 n3 c3) (pre ++ ys.map (tn (mk dd)))) := ⟨hown1, fun k hk => (hf1 k hk).elim (HO2.out.new k) (fun hs => Nat.le_trans HF2.out.size hs)⟩; clear hown1 hg1 hf1)
          go_roundw
          case rel => exact ⟨j + 1, by go_num, by omega, HZn.out rfl, by rw [HSn.out]; exact HO3.out, HF3.out⟩
          case measure => simp [intOf]; omega
        · have hxd : ((x : Int) == 0) = false := by simp; omega
          have HR : Hid (encE ds l.list = x) := by rw [Hid, HEe.out, HEa.out hx, if_neg hx]
          have HX9 := hide hx
          clear hx
          go_wp2
          go_ret2
          exact ⟨HBad.out _ x HR.out HX9.out HF2.out.below, trivial⟩
      · have hjl : l.list.take j = l.list := List.take_of_length_le (by omega)
        rw [hjl] at HO HZ HN1
        have HTe : Hid (tupE l.list = 0) := tupE_all _ HZ.out
        clear hjl
        by_cases hlen : 160 < n1
        · have hld : decide ((160 : Int) < (n1 : Int)) = true := by simp; omega
          have HR : Hid (encE ds l.list = 42) := by rw [Hid, HEe.out, if_pos HTe.out, if_pos (by have := HN1.out; omega)]
          clear hlen
          go_wp2
          go_ret2
          exact ⟨HBad.out _ 42 HR.out (by omega) HF.out.below, trivial⟩
        · have hld : decide ((160 : Int) < (n1 : Int)) = false := by simp; omega
          have HR : Hid (encE ds l.list = 0) := by rw [Hid, HEe.out, if_pos HTe.out, if_neg (by have := HN1.out; omega)]
          clear hlen
          go_wp2
          go_ret2
          exact ⟨HGood.out _ a1 n1 c1 HR.out HN1.out HO.out.own HF.out.below, trivial⟩
end Go.Proofs.Ytegoeaofjnpehab
/- Values and bools that came in as slices: what their reading says of memory. -/
namespace Go.Proofs.Ytegoeaofjnpehab
open Go.ChangeShapes Go.WideShapes Go.ChangeAt Go.RowKit Go.Deep
set_option linter.unusedVariables false

variable {H : Type} {enc : TypeId × Value → H} {W : World}
set_option maxRecDepth 1000000 in
set_option maxHeartbeats 800000 in
theorem read_vals (fuel : Nat) (v5 : Value) (x : DataW H × List MemPlace) (h : DataW.trod enc Try.prog W 0 (fun _ => true) true fuel 24 [v5] = some x) :
    ∃ la lc, ∃ l : TL, v5 = .slice la l.list.length lc ∧ l.Mem W.heap.size W la 0 ∧ (la = none → l.list = [] ∧ lc = 0) ∧ l.list.length ≤ 9223372036854775807 ∧ l.Szd ∧ l.list.length ≤ lc := by
  rcases DataW.trod_slice Try.underlying24 h with ⟨hcs, _⟩ | ⟨ad, len, cap, elems, rest, n', hn', hcs, _, _, hlc, hcm, hel, hat, _, _⟩
  · cases hcs
    exact ⟨none, 0, .nil, rfl, trivial, fun _ => ⟨rfl, rfl⟩, by simp [TL.list], trivial, by simp [TL.list]⟩
  · cases hcs
    have hone : ∀ i, i < len → ∃ v : T, (∃ b o, some ad = some (⟨b, o, none⟩ : Addr) ∧ b < W.heap.size ∧ ∀ x u, v.cells[x]? = some u → W.cell? ⟨b, o + i * 7 + x, none⟩ = some u) ∧ v.Mem W.heap.size W ∧ v.Szd := by
      intro i hi
      obtain ⟨y, ey⟩ := some_of (i := i) hel hi
      have h1 := hat i hi
      rw [ey, cells41] at h1
      obtain ⟨cs', hc1, hc2⟩ := Option.bind_eq_some_iff.1 h1
      obtain ⟨v, hv, hvm, hvs⟩ := read_val n' cs' _ hc2
      obtain ⟨_, hlen7, hcell⟩ := World.cells?_some hc1
      refine ⟨v, ?_, hvm, hvs⟩
      have hlv : v.cells.length = 7 := by rw [hv]; exact hlen7
      obtain ⟨b, o, spot⟩ := ad
      have hc0 := hcell 0 (by omega)
      obtain ⟨u0, hu0⟩ := some_of (i := 0) hlen7 (by omega)
      rw [hu0] at hc0
      have hspot : spot = none := by
        obtain ⟨y', ey'⟩ := some_of (i := 0) hel (by omega)
        have h2 := hat 0 (by omega)
        rw [ey', cells41] at h2
        obtain ⟨cs0, hc01, _⟩ := Option.bind_eq_some_iff.1 h2
        exact spot_of hc01 (by omega)
      subst hspot
      refine ⟨b, o, rfl, ?_, fun x u hu => ?_⟩
      · have := World.block_lt_of_cell? W _ hc0
        rw [Addr.add_lit, Addr.add_lit] at this
        exact this
      · have hx : x < 7 := by have := (List.getElem?_eq_some_iff.1 hu).1; omega
        have := hcell x hx
        rw [Addr.add_lit, Addr.add_lit, ← hv] at this
        rw [this, hu]
    obtain ⟨F, hF⟩ := choose_lt hone
    have := TL.of_mem (N := W.heap.size) (W := W) (a := some ad) F len 0 (fun j _ hj => hF j (by omega))
    exact ⟨some ad, cap, TL.of F 0 len, by rw [TL.of_len], this.1, (by intro h; cases h), by rw [TL.of_len]; unfold maxLen at hcm; omega, this.2, by rw [TL.of_len]; exact hlc⟩
set_option maxRecDepth 1000000 in
set_option maxHeartbeats 800000 in
theorem read_bools (fuel : Nat) (v5 : Value) (x : DataW H × List MemPlace) (h : DataW.trod enc Try.prog W 0 (fun _ => true) true fuel 23 [v5] = some x) :
    ∃ da dc, ∃ ds : List Bool, v5 = .slice da ds.length dc ∧ Bl W.heap.size W da ds ∧ ds.length ≤ 9223372036854775807 := by
  rcases DataW.trod_slice Try.underlying23 h with ⟨hcs, _⟩ | ⟨ad, len, cap, elems, rest, n', hn', hcs, _, _, hlc, hcm, hel, hat, _, _⟩
  · cases hcs
    exact ⟨none, 0, [], rfl, .inl rfl, by simp⟩
  · cases hcs
    have hone : ∀ i, i < len → ∃ v : Bool, ∃ b o, some ad = some (⟨b, o, none⟩ : Addr) ∧ b < W.heap.size ∧ W.cell? ⟨b, o + i, none⟩ = some (.bool v) := by
      intro i hi
      obtain ⟨y, ey⟩ := some_of (i := i) hel hi
      have h1 := hat i hi
      rw [ey, cells4] at h1
      obtain ⟨cs', hc1, hc2⟩ := Option.bind_eq_some_iff.1 h1
      obtain ⟨v, hv, _⟩ := DataW.trod_bool Try.underlying4 hc2
      subst hv
      obtain ⟨_, _, hcell⟩ := World.cells?_some hc1
      refine ⟨v, ?_⟩
      obtain ⟨b, o, spot⟩ := ad
      have hc0 := hcell 0 (by omega)
      have hspot : spot = none := by
        obtain ⟨y', ey'⟩ := some_of (i := 0) hel (by omega)
        have h2 := hat 0 (by omega)
        rw [ey', cells4] at h2
        obtain ⟨cs0, hc01, _⟩ := Option.bind_eq_some_iff.1 h2
        exact spot_of hc01 (by omega)
      subst hspot
      rw [Addr.add_lit, Addr.add_lit] at hc0
      refine ⟨b, o, rfl, World.block_lt_of_cell? W _ hc0, ?_⟩
      simpa using hc0
    obtain ⟨F, hF⟩ := choose_lt hone
    refine ⟨some ad, cap, (List.range len).map F, by simp, ?_, by simp; unfold maxLen at hcm; omega⟩
    by_cases h0 : len = 0
    · subst h0; exact .inl rfl
    · obtain ⟨b, o, e, hb, _⟩ := hF 0 (by omega)
      cases e
      refine .inr ⟨b, o, rfl, hb, fun i hi => ?_⟩
      simp at hi
      obtain ⟨b', o', e, _, hc⟩ := hF i hi
      cases e
      rw [hc]
      simp [List.getD_eq_getElem?_getD, hi]
end Go.Proofs.Ytegoeaofjnpehab
/- The reader of keys: values of kinds 1, 2 and 5. -/
namespace Go.Proofs.Ytegoeaofjnpehab
open Go.RowKit
set_option linter.unusedVariables false

set_option maxHeartbeats 3200000 in
set_option maxRecDepth 1000000 in
theorem value_null (p : Nat) (a : Option Addr) (cap : Nat) (bs : List Int) (i n q : Nat) (m : Int) (w : World) (hr : Rdr w p a cap bs i n q m) (hn : n < 512) :
    Calls Try.prog 31 #[.pointer (some ⟨p, 0, none⟩), .int .u8 16] w fun e w' => e = .returned (.tuple #[.agg #[.int .u8 1, .bool false, .int .i64 0, .string ⟨#[]⟩, .slice none 0 0, .slice none 0 0, .slice none 0 0], .bool true]) ∧ Rdr w' p a cap bs i (n + 1) q m ∧ w.grownBy w' (some p) := by
  have hpb := hr.lt
  have hpne : w.heap.size ≠ p := by omega
  have k2 := hr.c2
  have f2 := hr.f 2
  have HRy := hide (hr.setParts (n + 1) (by omega))
  have HGy := hide (grown_setCell w p 2 (.int .i64 ((n + 1 : Nat) : Int)))
  have k3 := HRy.out.c2
  rw [show ((n + 1 : Nat) : Int) = (n : Int) + 1 by omega] at k3 HRy HGy
  clear hr
  go_enter Try.func31, Try.ntmps31
  go_wp2
  refine bodyPost_ret (v := .tuple #[.agg #[.int .u8 1, .bool false, .int .i64 0, .string ⟨#[]⟩, .slice none 0 0, .slice none 0 0, .slice none 0 0], .bool true]) ?_ rfl ?_
  · simp [results, Try.results31, go_sem]
  · exact ⟨rfl, HRy.out.below (below_alloc _ _), grown_trans HGy.out (grown_below (below_alloc _ _))⟩
set_option maxHeartbeats 3200000 in
set_option maxRecDepth 1000000 in
theorem value_false (p : Nat) (a : Option Addr) (cap : Nat) (bs : List Int) (i n q : Nat) (m : Int) (w : World) (hr : Rdr w p a cap bs i n q m) (hn : n < 512) :
    Calls Try.prog 31 #[.pointer (some ⟨p, 0, none⟩), .int .u8 32] w fun e w' => e = .returned (.tuple #[.agg #[.int .u8 2, .bool false, .int .i64 0, .string ⟨#[]⟩, .slice none 0 0, .slice none 0 0, .slice none 0 0], .bool true]) ∧ Rdr w' p a cap bs i (n + 1) q m ∧ w.grownBy w' (some p) := by
  have hpb := hr.lt
  have hpne : w.heap.size ≠ p := by omega
  have k2 := hr.c2
  have f2 := hr.f 2
  have HRy := hide (hr.setParts (n + 1) (by omega))
  have HGy := hide (grown_setCell w p 2 (.int .i64 ((n + 1 : Nat) : Int)))
  have k3 := HRy.out.c2
  rw [show ((n + 1 : Nat) : Int) = (n : Int) + 1 by omega] at k3 HRy HGy
  clear hr
  go_enter Try.func31, Try.ntmps31
  go_wp2
  refine bodyPost_ret (v := .tuple #[.agg #[.int .u8 2, .bool false, .int .i64 0, .string ⟨#[]⟩, .slice none 0 0, .slice none 0 0, .slice none 0 0], .bool true]) ?_ rfl ?_
  · simp [results, Try.results31, go_sem]
  · exact ⟨rfl, HRy.out.below (below_alloc _ _), grown_trans HGy.out (grown_below (below_alloc _ _))⟩
set_option maxHeartbeats 3200000 in
set_option maxRecDepth 1000000 in
theorem value_true (p : Nat) (a : Option Addr) (cap : Nat) (bs : List Int) (i n q : Nat) (m : Int) (w : World) (hr : Rdr w p a cap bs i n q m) (hn : n < 512) :
    Calls Try.prog 31 #[.pointer (some ⟨p, 0, none⟩), .int .u8 33] w fun e w' => e = .returned (.tuple #[.agg #[.int .u8 2, .bool true, .int .i64 0, .string ⟨#[]⟩, .slice none 0 0, .slice none 0 0, .slice none 0 0], .bool true]) ∧ Rdr w' p a cap bs i (n + 1) q m ∧ w.grownBy w' (some p) := by
  have hpb := hr.lt
  have hpne : w.heap.size ≠ p := by omega
  have k2 := hr.c2
  have f2 := hr.f 2
  have HRy := hide (hr.setParts (n + 1) (by omega))
  have HGy := hide (grown_setCell w p 2 (.int .i64 ((n + 1 : Nat) : Int)))
  have k3 := HRy.out.c2
  rw [show ((n + 1 : Nat) : Int) = (n : Int) + 1 by omega] at k3 HRy HGy
  clear hr
  go_enter Try.func31, Try.ntmps31
  go_wp2
  refine bodyPost_ret (v := .tuple #[.agg #[.int .u8 2, .bool true, .int .i64 0, .string ⟨#[]⟩, .slice none 0 0, .slice none 0 0, .slice none 0 0], .bool true]) ?_ rfl ?_
  · simp [results, Try.results31, go_sem]
  · exact ⟨rfl, HRy.out.below (below_alloc _ _), grown_trans HGy.out (grown_below (below_alloc _ _))⟩
set_option maxHeartbeats 3200000 in
set_option maxRecDepth 1000000 in
theorem value_bytes (p : Nat) (a : Option Addr) (cap : Nat) (bs : List Int) (i n q : Nat) (m : Int) (ys rest : List Int) (w : World) (hr : Rdr w p a cap bs i n q m) (hn : n < 512) (hE : (bs.drop i).map (tn m) = esc ys ++ 0 :: 1 :: rest) (hy : Byts ys) (hl : ys.length ≤ 4000) :
    Calls Try.prog 31 #[.pointer (some ⟨p, 0, none⟩), .int .u8 80] w fun e w' => ∃ a' c', e = .returned (.tuple #[.agg #[.int .u8 5, .bool false, .int .i64 0, .string ⟨#[]⟩, .slice a' ys.length c', .slice none 0 0, .slice none 0 0], .bool true]) ∧ OwnB (w.heap.size + 1) w' (.slice a' ys.length c') ys ∧ Rdr w' p a cap bs (i + (esc ys).length + 2) (n + 1) q m ∧ w.grownBy w' (some p) := by
  have hne : bs ≠ [] := fun e => by subst e; simp at hE
  have HLo := hide (hr.low hne)
  clear hne
  have hpb := hr.lt
  have hpne : w.heap.size ≠ p := by omega
  have k2 := hr.c2
  have f2 := hr.f 2
  have HRy := hide (hr.setParts (n + 1) (by omega))
  have HGy := hide (grown_setCell w p 2 (.int .i64 ((n + 1 : Nat) : Int)))
  have k3 := HRy.out.c2
  rw [show ((n + 1 : Nat) : Int) = (n : Int) + 1 by omega] at k3 HRy HGy
  have HSz : Hid ((w.setCell ⟨p, 2, none⟩ (.int .i64 ((n : Int) + 1))).heap.size = w.heap.size) := by simp [World.setCell, Hid]
  have HB1 := hide (Box7.new (w.setCell ⟨p, 2, none⟩ (.int .i64 ((n : Int) + 1))) (.int .u8 0) (.bool false) (.int .i64 0) (.string ⟨#[]⟩) (.slice none 0 0) (.slice none 0 0) (.slice none 0 0))
  rw [HSz.out] at HB1
  have HR1 := hide (HRy.out.below (below_alloc _ (.cells #[.int .u8 0, .bool false, .int .i64 0, .string ⟨#[]⟩, .slice none 0 0, .slice none 0 0, .slice none 0 0] 32)))
  have HG1 : Hid (w.grownBy ((w.setCell ⟨p, 2, none⟩ (.int .i64 ((n : Int) + 1))).alloc (.cells #[.int .u8 0, .bool false, .int .i64 0, .string ⟨#[]⟩, .slice none 0 0, .slice none 0 0, .slice none 0 0] 32)) (some p)) := grown_trans HGy.out (grown_below (below_alloc _ _))
  have HS1 : Hid (((w.setCell ⟨p, 2, none⟩ (.int .i64 ((n : Int) + 1))).alloc (.cells #[.int .u8 0, .bool false, .int .i64 0, .string ⟨#[]⟩, .slice none 0 0, .slice none 0 0, .slice none 0 0] 32)).heap.size = w.heap.size + 1) := by simp [World.setCell, Hid]
  have HE := hide hE
  have HY := hide hy
  clear hr hE hy
  go_enter Try.func31, Try.ntmps31
  go_wp2_with fail
  clear k2 f2 k3
  generalize (w.setCell ⟨p, 2, none⟩ (.int .i64 ((n : Int) + 1))).alloc (.cells #[.int .u8 0, .bool false, .int .i64 0, .string ⟨#[]⟩, .slice none 0 0, .slice none 0 0, .slice none 0 0] 32) = X1 at *
  refine (content_in p a cap bs i (n + 1) q m ys rest X1 HR1.out HE.out HY.out hl).mono ?_
  rintro e W1 ⟨a', c', rfl, hown, hrd, hg⟩
  have HR2 := hide hrd
  have HG2 := hide (grown_trans HG1.out hg)
  have HB2 := hide (HB1.out.grown hg hpne)
  have HOw := hide hown
  obtain ⟨j0, j1, j2, j3, j4, j5, j6⟩ := HB2.out.cells
  have fr := HB2.out.free
  clear hown hrd hg
  go_wp2
  have HBz := hide (HB2.out.set7 (.int .u8 5) (.bool false) (.int .i64 0) (.string ⟨#[]⟩) (.slice a' ys.length c') (.slice none 0 0) (.slice none 0 0))
  have HGz := hide (grown_set7 W1 w.heap.size (.int .u8 5) (.bool false) (.int .i64 0) (.string ⟨#[]⟩) (.slice a' ys.length c') (.slice none 0 0) (.slice none 0 0))
  generalize ((((((W1.setCell ⟨w.heap.size, 0, none⟩ (.int .u8 5)).setCell ⟨w.heap.size, 1, none⟩ (.bool false)).setCell ⟨w.heap.size, 2, none⟩ (.int .i64 0)).setCell ⟨w.heap.size, 3, none⟩ (.string ⟨#[]⟩)).setCell ⟨w.heap.size, 4, none⟩ (.slice a' ys.length c')).setCell ⟨w.heap.size, 5, none⟩ (.slice none 0 0)).setCell ⟨w.heap.size, 6, none⟩ (.slice none 0 0) = Z at *
  obtain ⟨z0, z1, z2, z3, z4, z5, z6⟩ := HBz.out.cells
  refine bodyPost_ret (v := .tuple #[.agg #[.int .u8 5, .bool false, .int .i64 0, .string ⟨#[]⟩, .slice a' ys.length c', .slice none 0 0, .slice none 0 0], .bool true]) ?_ rfl ?_
  · simp [results, Try.results31, go_sem, z0, z1, z2, z3, z4, z5, z6]
  · have hO : OwnB (w.heap.size + 1) W1 (.slice a' ys.length c') ys := by rw [← HS1.out]; exact HOw.out
    exact ⟨a', c', rfl, hO.grown HGz.out (by omega), HR2.out.grown HLo.out HGz.out (fun k e => by cases e; exact Nat.le_refl _), grown_new HG2.out HGz.out (fun k e => by cases e; exact Nat.le_refl _)⟩
end Go.Proofs.Ytegoeaofjnpehab
