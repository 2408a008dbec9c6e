/- Mathematics of the order: the bytes of values compare as the values do. -/
import Derived.Test.YtegoeaofjnpehaaVS
import Derived.Laws.Bits64
namespace Go.Proofs.Ytegoeaofjnpehaa
set_option linter.unusedVariables false

def num (a b : Int) : Int := if a < b then -1 else if b < a then 1 else 0
def be : Nat → Int → List Int
  | 0, _ => []
  | k + 1, X => X / 256 ^ k % 256 :: be k X
theorem nbs_be (X : Int) : nbs X 8 = be 8 X := by
  simp [nbs, be, List.range_succ]
theorem emod_step (X : Int) (k : Nat) : X % 256 ^ (k + 1) = X / 256 ^ k % 256 * 256 ^ k + X % 256 ^ k := by
  have hM : (0 : Int) < 256 ^ k := Int.pow_pos (by omega)
  rw [Int.pow_succ]
  have h1 := Int.mul_ediv_add_emod X (256 ^ k)
  have h2 := Int.mul_ediv_add_emod (X / 256 ^ k) 256
  have x0 := Int.emod_nonneg X (Int.ne_of_gt hM)
  have x1 := Int.emod_lt_of_pos X hM
  have a0 := Int.emod_nonneg (X / 256 ^ k) (show (256 : Int) ≠ 0 by decide)
  have a1 := Int.emod_lt_of_pos (X / 256 ^ k) (show (0 : Int) < 256 by decide)
  generalize X % 256 ^ k = x at *
  generalize X / 256 ^ k = q at *
  generalize q % 256 = a at *
  generalize q / 256 = p at *
  generalize (256 : Int) ^ k = M at *
  have e : X = (a * M + x) + (M * 256) * p := by
    rw [← h1, ← h2]
    rw [Int.mul_add, Int.mul_comm M a, Int.mul_assoc, Int.add_assoc, Int.add_comm (M * (256 * p))]
  have h3 : 0 ≤ a * M := Int.mul_nonneg a0 (by omega)
  have h4 : a * M ≤ 255 * M := Int.mul_le_mul_of_nonneg_right (by omega) (by omega)
  rw [e, Int.add_mul_emod_self_left]
  exact Int.emod_eq_of_lt (by omega) (by omega)
theorem be_order (k : Nat) : ∀ (X Y : Int) (s r : List Int), ordI (be k X ++ s) (be k Y ++ r) = if X % 256 ^ k = Y % 256 ^ k then ordI s r else num (X % 256 ^ k) (Y % 256 ^ k) := by
  induction k with
  | zero => intro X Y s r; simp [be, Int.emod_one]
  | succ k ih =>
    intro X Y s r
    rw [emod_step X, emod_step Y]
    have hM : (0 : Int) < 256 ^ k := Int.pow_pos (by omega)
    simp only [be, List.cons_append, ordI, ih]
    have x0 := Int.emod_nonneg X (Int.ne_of_gt hM)
    have x1 := Int.emod_lt_of_pos X hM
    have y0 := Int.emod_nonneg Y (Int.ne_of_gt hM)
    have y1 := Int.emod_lt_of_pos Y hM
    generalize X % 256 ^ k = x at *
    generalize Y % 256 ^ k = y at *
    generalize X / 256 ^ k % 256 = a at *
    generalize Y / 256 ^ k % 256 = b at *
    generalize (256 : Int) ^ k = M at *
    by_cases hab : a < b
    · have h : (a + 1) * M ≤ b * M := Int.mul_le_mul_of_nonneg_right hab (by omega)
      rw [Int.add_mul] at h
      rw [if_pos hab, if_neg (by omega)]
      simp only [num]
      rw [if_pos (by omega)]
    · rw [if_neg hab]
      by_cases hba : b < a
      · have h : (b + 1) * M ≤ a * M := Int.mul_le_mul_of_nonneg_right hba (by omega)
        rw [Int.add_mul] at h
        rw [if_pos hba, if_neg (by omega)]
        simp only [num]
        rw [if_neg (by omega), if_pos (by omega)]
      · have : a = b := by omega
        subst this
        rw [if_neg hba]
        by_cases hxy : x = y
        · subst hxy; simp
        · rw [if_neg hxy, if_neg (by omega)]
          simp only [num]
          by_cases hl : x < y
          · rw [if_pos hl, if_pos (by omega)]
          · rw [if_neg hl, if_pos (by omega), if_neg (by omega), if_pos (by omega)]
theorem nbs_order (X Y : Int) (s r : List Int) (hx : 0 ≤ X ∧ X < 18446744073709551616) (hy : 0 ≤ Y ∧ Y < 18446744073709551616) : ordI (nbs X 8 ++ s) (nbs Y 8 ++ r) = if num X Y = 0 then ordI s r else num X Y := by
  rw [nbs_be, nbs_be, be_order, show (256 : Int) ^ 8 = 18446744073709551616 from rfl, Int.emod_eq_of_lt hx.1 hx.2, Int.emod_eq_of_lt hy.1 hy.2]
  by_cases h : X = Y
  · subst h; simp [num]
  · rw [if_neg h, if_neg]
    unfold num
    split
    · omega
    · split <;> omega
theorem num_add (a b c : Int) : num (a + c) (b + c) = num a b := by
  have h1 : (a + c < b + c) = (a < b) := by rw [eq_iff_iff]; omega
  have h2 : (b + c < a + c) = (b < a) := by rw [eq_iff_iff]; omega
  simp only [num, h1, h2]
theorem xor_top (a : Nat) (h : a < 2 ^ 64) : a ^^^ 2 ^ 63 = (a + 2 ^ 63) % 2 ^ 64 := by
  have h1 := @Nat.xor_mod_two_pow a (2 ^ 63) 63
  have h2 := @Nat.xor_div_two_pow a (2 ^ 63) 63
  rw [Nat.mod_self, Nat.xor_zero] at h1
  rw [Nat.div_self (by decide)] at h2
  generalize a ^^^ 2 ^ 63 = x at *
  have h3 : a / 2 ^ 63 = 0 ∨ a / 2 ^ 63 = 1 := by omega
  rcases h3 with h3 | h3 <;> rw [h3] at h2 <;> simp at h2 <;> omega
theorem nX_is (n : Int) (h : -9223372036854775808 ≤ n ∧ n ≤ 9223372036854775807) : nX n = n + 9223372036854775808 := by
  have h1 := xor_top (n % 18446744073709551616).toNat (by omega)
  have h2 : nX n = (((n % 18446744073709551616).toNat ^^^ 2 ^ 63 : Nat) : Int) := by
    unfold nX
    rw [show IntKind.u64.wrap n = (((n % 18446744073709551616).toNat : Nat) : Int) by rw [IntKind.wrap_u64]; omega, show (9223372036854775808 : Int) = ((2 ^ 63 : Nat) : Int) from rfl]
    exact bits_xor_u64_nat _ _ (by omega) (by decide)
  rw [h2, h1]
  omega
mutual
/-- the order of two values. -/
def T.cmp : T → T → Int
  | .mk k bo n t _ _ y _ _ l _ _ f, .mk k' bo' n' t' _ _ y' _ _ l' _ _ f' =>
    if k = k' then (if k = 2 then (if bo = bo' then 0 else if bo' then -1 else 1) else if k = 3 then num n n' else if k = 4 then ordI (sb t) (sb t') else if k = 5 then ordI y y' else if k = 6 then l.cmp l' else if k = 7 then f.cmp f' else 0) else num k k'
def TL.cmp : TL → TL → Int
  | .nil, .nil => 0
  | .nil, .cons _ _ => -1
  | .cons _ _, .nil => 1
  | .cons v r, .cons v' r' => if v.cmp v' = 0 then r.cmp r' else v.cmp v'
def FL.cmp : FL → FL → Int
  | .nil, .nil => 0
  | .nil, .cons _ _ _ => -1
  | .cons _ _ _, .nil => 1
  | .cons s v r, .cons s' v' r' => if ordI (sb s) (sb s') = 0 then (if v.cmp v' = 0 then r.cmp r' else v.cmp v') else ordI (sb s) (sb s')
end
theorem ordI_same (a : Int) (xs ys : List Int) : ordI (a :: xs) (a :: ys) = ordI xs ys := by simp [ordI]
theorem ordI_lt {a b : Int} (h : a < b) {xs ys : List Int} : ordI (a :: xs) (b :: ys) = -1 := by simp [ordI, h]
theorem ordI_gt {a b : Int} (h : b < a) {xs ys : List Int} : ordI (a :: xs) (b :: ys) = 1 := by
  have h2 : ¬ a < b := by omega
  simp [ordI, h, h2]
section
variable (k : Int) (bo : Bool) (n : Int) (t : ByteArray) (ya : Option Addr) (yc : Nat) (y : List Int) (la : Option Addr) (lc : Nat) (l : TL) (fa : Option Addr) (fc : Nat) (f : FL)
theorem enc_1 : (T.mk 1 bo n t ya yc y la lc l fa fc f).enc = [16] := by simp [T.enc]
theorem enc_2 : (T.mk 2 bo n t ya yc y la lc l fa fc f).enc = [if bo then 33 else 32] := by simp [T.enc, bB]
theorem enc_3 : (T.mk 3 bo n t ya yc y la lc l fa fc f).enc = 48 :: nbs (nX n) 8 := by simp [T.enc, bI]
theorem enc_4 : (T.mk 4 bo n t ya yc y la lc l fa fc f).enc = 64 :: (esc (sb t) ++ [0, 1]) := by simp [T.enc, bT]
theorem enc_5 : (T.mk 5 bo n t ya yc y la lc l fa fc f).enc = 80 :: (esc y ++ [0, 1]) := by simp [T.enc, bYs]
theorem enc_6 : (T.mk 6 bo n t ya yc y la lc l fa fc f).enc = 96 :: (l.enc ++ [1]) := by simp [T.enc]
def mrk (k : Int) (bo : Bool) : Int := if k = 2 then (if bo then 33 else 32) else 16 * k
theorem mrk_bd : 16 * k ≤ mrk k bo ∧ mrk k bo ≤ 16 * k + 1 := by
  unfold mrk
  split
  · cases bo <;> simp <;> omega
  · omega
theorem enc_mrk (h : 1 ≤ k ∧ k ≤ 6) : ∃ x, (T.mk k bo n t ya yc y la lc l fa fc f).enc = mrk k bo :: x := by
  have : k = 1 ∨ k = 2 ∨ k = 3 ∨ k = 4 ∨ k = 5 ∨ k = 6 := by omega
  rcases this with rfl | rfl | rfl | rfl | rfl | rfl
  · exact ⟨_, enc_1 ..⟩
  · exact ⟨_, enc_2 ..⟩
  · exact ⟨_, enc_3 ..⟩
  · exact ⟨_, enc_4 ..⟩
  · exact ⟨_, enc_5 ..⟩
  · exact ⟨_, enc_6 ..⟩
end
theorem enc_order {n₀ : Nat} {W : World} : ∀ (N : Nat) (u v : T), u.sz ≤ N → u.ok → v.ok → u.Mem n₀ W → v.Mem n₀ W → u.Szd → v.Szd → ∀ s r, ordI (u.enc ++ s) (v.enc ++ r) = if u.cmp v = 0 then ordI s r else u.cmp v := by
  intro N
  induction N with
  | zero => intro u v hu; cases u; simp [T.sz] at hu
  | succ N ih =>
    intro u v hu hou hov hmu hmv hsu hsv s r
    cases u with
    | mk k bo n t ya yc y la lc l fa fc f =>
    cases v with
    | mk k' bo' n' t' ya' yc' y' la' lc' l' fa' fc' f' =>
    have hlist : ∀ (m m' : TL) (a a' : Option Addr) (i i' : Nat), m.sz ≤ N → m.ok → m'.ok → m.Mem n₀ W a i → m'.Mem n₀ W a' i' → m.Szd → m'.Szd → ∀ s r, ordI (m.enc ++ 1 :: s) (m'.enc ++ 1 :: r) = if m.cmp m' = 0 then ordI s r else m.cmp m' := by
      intro m
      exact TL.rec (motive_1 := fun _ => True) (motive_2 := fun m => ∀ (m' : TL) (a a' : Option Addr) (i i' : Nat), m.sz ≤ N → m.ok → m'.ok → m.Mem n₀ W a i → m'.Mem n₀ W a' i' → m.Szd → m'.Szd → ∀ s r, ordI (m.enc ++ 1 :: s) (m'.enc ++ 1 :: r) = if m.cmp m' = 0 then ordI s r else m.cmp m') (motive_3 := fun _ => True)
        (fun _ _ _ _ _ _ _ _ _ _ _ _ _ _ _ => trivial)
        (by
          intro m' a a' i i' _ _ hm' _ _ _ _ s r
          cases m' with
          | nil => simp [TL.enc, TL.cmp, ordI]
          | cons v' r' =>
            obtain ⟨c, t, hc, hge⟩ := enc_first v' hm'.1
            have h1 : (1 : Int) < c := by omega
            simp [TL.enc, hc, TL.cmp, ordI, h1])
        (by
          intro v0 r0 _ ihr m' a a' i i' hsz hm hm' hM hM' hS hS' s r
          cases m' with
          | nil =>
            obtain ⟨c, t, hc, hge⟩ := enc_first v0 hm.1
            have h1 : ¬ c < (1 : Int) := by omega
            have h2 : (1 : Int) < c := by omega
            simp [TL.enc, hc, TL.cmp, ordI, h1, h2]
          | cons v' r' =>
            simp only [TL.sz] at hsz
            simp only [TL.enc, List.append_assoc, TL.cmp]
            rw [ih v0 v' (by have : 1 ≤ v0.sz := (by cases v0; simp only [T.sz]; omega); omega) hm.1 hm'.1 hM.2.1 hM'.2.1 hS.1 hS'.1, ihr r' a a' (i + 1) (i' + 1) (by omega) hm.2 hm'.2 hM.2.2 hM'.2.2 hS.2 hS'.2]
            by_cases h0 : v0.cmp v' = 0
            · simp only [h0, if_true]
            · simp only [h0, if_false])
        trivial (fun _ _ _ _ _ => trivial) m
    simp only [T.sz] at hu
    simp only [T.ok] at hou hov
    have hn := nX_is n hsu.2.1
    have hn' := nX_is n' hsv.2.1
    have hr := hsu.2.1
    have hr' := hsv.2.1
    have hy := hmu.2.1
    have hy' := hmv.2.1
    have hcmp : (T.mk k bo n t ya yc y la lc l fa fc f).cmp (T.mk k' bo' n' t' ya' yc' y' la' lc' l' fa' fc' f') = if k = k' then (if k = 2 then (if bo = bo' then 0 else if bo' then -1 else 1) else if k = 3 then num n n' else if k = 4 then ordI (sb t) (sb t') else if k = 5 then ordI y y' else if k = 6 then l.cmp l' else if k = 7 then f.cmp f' else 0) else num k k' := by rw [T.cmp]
    rw [hcmp]
    clear hcmp
    by_cases hkk : k = k'
    · subst hkk
      rw [if_pos rfl]
      rcases hou with rfl | rfl | rfl | rfl | rfl | ⟨rfl, hl⟩
      · rw [enc_1, enc_1]
        simp [ordI]
      · rw [enc_2, enc_2]
        cases bo <;> cases bo' <;> simp [ordI]
      · rw [enc_3, enc_3, List.cons_append, List.cons_append, ordI_same, nbs_order _ _ _ _ (by omega) (by omega), hn, hn', num_add]
        simp
      · rw [enc_4, enc_4]
        simp only [List.cons_append, List.append_assoc, List.nil_append]
        rw [ordI_same, esc_order _ _ _ _ (sb_byts _) (sb_byts _)]
        simp
      · rw [enc_5, enc_5]
        simp only [List.cons_append, List.append_assoc, List.nil_append]
        rw [ordI_same, esc_order _ _ _ _ hy hy']
        simp
      · rw [enc_6, enc_6]
        simp only [List.cons_append, List.append_assoc, List.nil_append]
        rw [ordI_same, hlist l l' la la' 0 0 (by omega) hl (by rcases hov with h | h | h | h | h | ⟨_, h⟩ <;> first | exact h | omega) hmu.2.2.2.2.1 hmv.2.2.2.2.1 hsu.2.2.2.1 hsv.2.2.2.1]
        simp
    · rw [if_neg hkk]
      have h1 : 1 ≤ k ∧ k ≤ 6 := by rcases hou with h | h | h | h | h | ⟨h, _⟩ <;> omega
      have h2 : 1 ≤ k' ∧ k' ≤ 6 := by rcases hov with h | h | h | h | h | ⟨h, _⟩ <;> omega
      obtain ⟨x, e1⟩ := enc_mrk k bo n t ya yc y la lc l fa fc f h1
      obtain ⟨x', e2⟩ := enc_mrk k' bo' n' t' ya' yc' y' la' lc' l' fa' fc' f' h2
      rw [e1, e2, List.cons_append, List.cons_append]
      have m1 := mrk_bd k bo
      have m2 := mrk_bd k' bo'
      generalize mrk k bo = a at *
      generalize mrk k' bo' = b at *
      by_cases hlt : k < k'
      · have e3 : num k k' = -1 := by simp [num, hlt]
        rw [e3, ordI_lt (by omega)]
        simp
      · have h9 : k' < k := by omega
        have e3 : num k k' = 1 := by simp [num, hlt, h9]
        rw [e3, ordI_gt (by omega)]
        simp
theorem cmp_is {n₀ : Nat} {W : World} (u v : T) (hu : u.ok) (hv : v.ok) (mu : u.Mem n₀ W) (mv : v.Mem n₀ W) (su : u.Szd) (sv : v.Szd) : u.cmp v = ordI u.enc v.enc := by
  have h := enc_order u.sz u v (Nat.le_refl _) hu hv mu mv su sv [] []
  simp only [List.append_nil] at h
  rw [h]
  simp only [ordI]
  split
  · rename_i h; exact h
  · rfl
theorem ord_turn2 (a b : List Int) (h : Apart a b) (ha : Byts a) (hb : Byts b) (s r : List Int) : ordI (a.map (tn 255) ++ s) (b.map (tn 255) ++ r) = if ordI a b = 0 then ordI s r else - ordI a b := by
  induction h with
  | same a => rw [ordI_self, ordI_pre]; rfl
  | here x y a b hne =>
    have h1 := ha x (by simp)
    have h2 := hb y (by simp)
    rw [List.map_cons, List.map_cons, List.cons_append, List.cons_append, tn_down x h1, tn_down y h2]
    by_cases hlt : x < y
    · rw [ordI_gt (by omega), ordI_lt hlt]; simp
    · rw [ordI_lt (by omega), ordI_gt (by omega)]; simp
  | next x a b _ ih =>
    rw [List.map_cons, List.map_cons, List.cons_append, List.cons_append, ordI_same, ordI_same]
    exact ih (fun c hc => ha c (by simp [hc])) (fun c hc => hb c (by simp [hc]))
theorem map_up (a : List Int) (h : Byts a) : a.map (tn 0) = a := by
  conv => rhs; rw [← List.map_id a]
  exact List.map_congr_left (fun c hc => tn_up c (h c hc).1)
/-- the order of two tuples. -/
def tcmp (ds : List Bool) : Nat → List T → List T → Int
  | _, [], [] => 0
  | _, [], _ :: _ => -1
  | _, _ :: _, [] => 1
  | i, u :: a, v :: b => if u.cmp v = 0 then tcmp ds (i + 1) a b else if ds.getD i false then - u.cmp v else u.cmp v
theorem outp_ok (v : T) (h : oneE v = 0) : outp v = v.enc := by simp [outp, h]
theorem tup_order {n₀ : Nat} {W : World} (ds : List Bool) : ∀ (l m : List T) (i : Nat), (∀ x ∈ l, oneE x = 0 ∧ x.Mem n₀ W ∧ x.Szd) → (∀ x ∈ m, oneE x = 0 ∧ x.Mem n₀ W ∧ x.Szd) → ordI (tupB ds i l) (tupB ds i m) = tcmp ds i l m := by
  intro l
  induction l with
  | nil =>
    intro m i _ hm
    cases m with
    | nil => rfl
    | cons v m =>
      obtain ⟨h1, _, _⟩ := hm v (by simp)
      obtain ⟨c, t, hc, _⟩ := enc_first v (one_ok v h1).1
      simp [tupB, tcmp, outp_ok v h1, hc, ordI]
  | cons u l ih =>
    intro m i hl hm
    obtain ⟨u1, u2, u3⟩ := hl u (by simp)
    cases m with
    | nil =>
      obtain ⟨c, t, hc, _⟩ := enc_first u (one_ok u u1).1
      simp [tupB, tcmp, outp_ok u u1, hc, ordI]
    | cons v m =>
      obtain ⟨v1, v2, v3⟩ := hm v (by simp)
      have hi := ih m (i + 1) (fun x hx => hl x (by simp [hx])) (fun x hx => hm x (by simp [hx]))
      have ou := (one_ok u u1).1
      have ov := (one_ok v v1).1
      simp only [tupB, tcmp, outp_ok u u1, outp_ok v v1, ← hi]
      cases ds.getD i false
      · simp only [mk, Bool.false_eq_true, if_false]
        rw [map_up _ (T.enc_byts u u2), map_up _ (T.enc_byts v v2)]
        exact enc_order u.sz u v (Nat.le_refl _) ou ov u2 v2 u3 v3 _ _
      · simp only [mk, if_true]
        rw [ord_turn2 _ _ (enc_apart u v ou ov) (T.enc_byts u u2) (T.enc_byts v v2), ← cmp_is u v ou ov u2 v2 u3 v3]
theorem tcmp_next (ds : List Bool) (l m : List T) (j : Nat) (u v : T) (hu : l[j]? = some u) (hv : m[j]? = some v) : tcmp ds j (l.drop j) (m.drop j) = if u.cmp v = 0 then tcmp ds (j + 1) (l.drop (j + 1)) (m.drop (j + 1)) else if ds.getD j false then - u.cmp v else u.cmp v := by
  obtain ⟨hj, rfl⟩ := List.getElem?_eq_some_iff.1 hu
  obtain ⟨hj', rfl⟩ := List.getElem?_eq_some_iff.1 hv
  conv => lhs; rw [List.drop_eq_getElem_cons hj, List.drop_eq_getElem_cons hj']
  rw [tcmp]
theorem tcmp_end (ds : List Bool) (l m : List T) (j : Nat) (hj : j ≤ l.length) (hj' : j ≤ m.length) (h : ¬ (j < l.length ∧ j < m.length)) : tcmp ds j (l.drop j) (m.drop j) = num l.length m.length := by
  by_cases h1 : j < l.length
  · have h2 : m.length = j := by omega
    rw [List.drop_eq_getElem_cons h1, List.drop_eq_nil_of_le (by omega : m.length ≤ j), tcmp, num, if_neg (by omega), if_pos (by omega)]
  · rw [List.drop_eq_nil_of_le (by omega : l.length ≤ j)]
    by_cases h2 : j < m.length
    · rw [List.drop_eq_getElem_cons h2, tcmp, num, if_pos (by omega)]
    · rw [List.drop_eq_nil_of_le (by omega : m.length ≤ j), tcmp, num, if_neg (by omega), if_neg (by omega)]
end Go.Proofs.Ytegoeaofjnpehaa
