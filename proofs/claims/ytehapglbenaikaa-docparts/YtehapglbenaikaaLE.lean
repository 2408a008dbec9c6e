/- The reader of documents: mathematics of one value that is read. -/
import Derived.Test.YtehapglbenaikaaLD
namespace Go.Proofs.Ytehapglbenaikaa
open Go.RowKit
set_option linter.unusedVariables false

theorem drop_len_split {bs : List Int} {i j : Nat} {y : List Int} (h : bs.drop i = y ++ bs.drop j) (hi : i ≤ bs.length) (hj : j ≤ bs.length) : j = i + y.length := by
  have := congrArg List.length h
  simp only [List.length_drop, List.length_append] at this
  omega
theorem drop_of {bs : List Int} {i : Nat} {y r : List Int} (h : bs.drop i = y ++ r) : bs.drop (i + y.length) = r := by
  rw [← List.drop_drop, h, List.drop_left]
theorem le_of_drop {bs : List Int} {i : Nat} {y r : List Int} (h : bs.drop i = y ++ r) (hi : i ≤ bs.length) : i + y.length ≤ bs.length := by
  have := congrArg List.length h
  simp only [List.length_drop, List.length_append] at this
  omega
/-- a number that is read. -/
theorem nm_form (bs : List Int) (i : Nat) (hb : Byts bs) (hi : i ≤ bs.length) (m s : Nat) (h : nm bs i 0 = (m, s, 0)) : bs.drop i = vb m ++ bs.drop (i + s) ∧ i + s ≤ bs.length ∧ 1 ≤ s ∧ s = (vb m).length := by
  rw [nm_ok] at h
  have hf := vint_form (bs.drop i) (hb.drop i) (by rw [h])
  rw [h] at hf
  simp only [List.length_drop] at hf
  obtain ⟨h1, h2, h3⟩ := hf
  have h4 : s = (vb m).length := by rw [← h3, List.length_take, List.length_drop]; omega
  refine ⟨?_, by omega, h1, h4⟩
  rw [← h3, ← List.drop_drop, List.take_append_drop]
theorem nm_back (bs : List Int) (i m : Nat) (r : List Int) (hm : m < 18446744073709551616) (h : bs.drop i = vb m ++ r) : nm bs i 0 = (m, (vb m).length, 0) := by rw [nm_ok, h, vint_vb m r hm]
theorem nm_bad (bs : List Int) (i : Nat) (hb : Byts bs) (h : (nm bs i 0).2.2 ≠ 0) : (nm bs i 0).1 = 0 := by
  rw [nm_ok] at h ⊢
  exact (vint_none _ (hb.drop i) h).1
theorem rt_form (bs : List Int) (i : Nat) (hb : Byts bs) (hi : i ≤ bs.length) (y : List Int) (j : Nat) (h : rt bs i 0 = (y, j, 0)) : bs.drop i = vb y.length ++ (y ++ bs.drop j) ∧ i ≤ j ∧ j ≤ bs.length ∧ Byts y := by
  by_cases hs : bs.length - i - (nm bs i 0).2.1 < (nm bs i 0).1
  · rw [rt_short bs i 0 hs] at h
    have := ferr_pos (nm bs i 0).2.2 20 (by omega)
    simp only [Prod.mk.injEq] at h
    exact absurd h.2.2 this
  · rw [rt_ok bs i 0 hs] at h
    rcases hnm : nm bs i 0 with ⟨m, s, er⟩
    rw [hnm] at h hs
    simp only [] at h hs
    by_cases he : er = 0
    · subst he
      obtain ⟨f1, f2, f3, f4⟩ := nm_form bs i hb hi m s hnm
      rw [tk_ok bs i s f2] at h
      simp only [] at h
      rw [tk_ok bs (i + s) m (by omega)] at h
      simp only [Prod.mk.injEq] at h
      obtain ⟨h1, h2, _⟩ := h
      have hl : y.length = m := by rw [← h1, List.length_take, List.length_drop]; omega
      refine ⟨?_, by omega, by omega, ?_⟩
      · have e9 : bs.drop (i + s + m) = (bs.drop (i + s)).drop m := by rw [List.drop_drop]
        rw [f1, hl, ← h1, ← h2, e9, List.take_append_drop]
      · rw [← h1]; exact fun c hc => hb c (List.mem_of_mem_drop (List.mem_of_mem_take hc))
    · rw [tk_err bs i er _ he] at h
      simp only [] at h
      rw [tk_err bs i er _ he] at h
      simp only [Prod.mk.injEq] at h
      exact absurd h.2.2 he
theorem rt_back (bs : List Int) (i : Nat) (y r : List Int) (hi : i ≤ bs.length) (hy : y.length < 18446744073709551616) (h : bs.drop i = vb y.length ++ (y ++ r)) : rt bs i 0 = (y, i + (vb y.length).length + y.length, 0) := by
  have hn := nm_back bs i y.length (y ++ r) hy h
  have hl := le_of_drop h hi
  have hd := drop_of h
  have hl2 := le_of_drop hd hl
  have hs : ¬ bs.length - i - (nm bs i 0).2.1 < (nm bs i 0).1 := by rw [hn]; simp only []; omega
  rw [rt_ok bs i 0 hs, hn]
  simp only []
  rw [tk_ok bs i _ hl]
  simp only []
  rw [tk_ok bs _ _ hl2, hd, List.take_left]
theorem rt_fail (bs : List Int) (i e : Nat) (he : e ≠ 0) (hi : i ≤ bs.length) : rt bs i e = ([], i, e) := by
  have hs : ¬ bs.length - i - (nm bs i e).2.1 < (nm bs i e).1 := by rw [nm_err _ _ _ he]; simp
  rw [rt_ok bs i e hs, nm_err _ _ _ he]
  simp only []
  rw [tk_err bs i e _ he]
  simp only []
  rw [tk_err bs i e _ he]
def nenc (s : Sl) (x : ByteArray) : List Int := if s.1.isSome then vb x.size ++ sb x else []
theorem senc_is (s : Sl) (x : ByteArray × T) : senc s x = nenc s x.1 ++ x.2.denc := rfl
theorem nx_fail (bs : List Int) (s : Sl) (i e : Nat) (he : e ≠ 0) (hi : i ≤ bs.length) : nx bs s i e = ([], i, e) := by
  unfold nx
  split
  · exact rt_fail bs i e he hi
  · rfl
theorem nx_form (bs : List Int) (s : Sl) (i : Nat) (hb : Byts bs) (hi : i ≤ bs.length) (y : List Int) (j : Nat) (h : nx bs s i 0 = (y, j, 0)) : bs.drop i = nenc s (bk y) ++ bs.drop j ∧ i ≤ j ∧ j ≤ bs.length ∧ (bk y).size ≤ bs.length := by
  unfold nx at h
  unfold nenc
  split at h
  · rename_i hs
    obtain ⟨h1, h2, h3, h4⟩ := rt_form bs i hb hi y j h
    rw [if_pos hs, bk_size, sb_bk y h4, List.append_assoc]
    refine ⟨h1, h2, h3, ?_⟩
    have := congrArg List.length h1
    simp only [List.length_drop, List.length_append] at this
    omega
  · rename_i hs
    simp only [Prod.mk.injEq] at h
    obtain ⟨rfl, rfl, _⟩ := h
    rw [if_neg hs]
    exact ⟨rfl, Nat.le_refl _, hi, by simp [bk_size]⟩
theorem nx_back (bs : List Int) (s : Sl) (i : Nat) (x : ByteArray × T) (r : List Int) (hi : i ≤ bs.length) (hx : x.1.size ≤ 10000000) (h : bs.drop i = senc s x ++ r) : (nx bs s i 0).2.2 = 0 ∧ bs.drop (nx bs s i 0).2.1 = x.2.denc ++ r := by
  rw [senc_is, List.append_assoc] at h
  unfold nx
  unfold nenc at h
  split
  · rename_i hs
    rw [if_pos hs, ← sb_len x.1, List.append_assoc] at h
    have := rt_back bs i (sb x.1) (x.2.denc ++ r) hi (by rw [sb_len]; omega) h
    rw [this]
    refine ⟨rfl, ?_⟩
    simp only []
    have hd := drop_of h
    exact drop_of hd
  · rename_i hs
    rw [if_neg hs] at h
    exact ⟨rfl, by simpa using h⟩
/-- a value's first byte, and what is behind it. -/
def T.tag : T → Int
  | .mk k bo n t ya yc y la lc l fa fc f => if k = 1 then 1 else if k = 2 then (if bo then 3 else 2) else k + 1
def T.body : T → List Int
  | .mk k bo n t ya yc y la lc l fa fc f => if k = 3 then vb (zz n) else if k = 4 then vb t.size ++ sb t else if k = 5 then vb y.length ++ y else if k = 6 then vb l.list.length ++ l.denc else if k = 7 then vb f.list.length ++ f.denc else []
theorem T.denc_tag (v : T) (h : v.Wd) : v.denc = v.tag :: v.body := by
  cases v with
  | mk k bo n t ya yc y la lc l fa fc f =>
    obtain ⟨⟨a1, a2⟩, _⟩ := h
    have hk : k = 1 ∨ k = 2 ∨ k = 3 ∨ k = 4 ∨ k = 5 ∨ k = 6 ∨ k = 7 := by omega
    rcases hk with rfl | rfl | rfl | rfl | rfl | rfl | rfl <;> simp [T.denc, T.tag, T.body]
theorem T.tag_range (v : T) (h : v.Wd) : 1 ≤ v.tag ∧ v.tag ≤ 8 := by
  cases v with
  | mk k bo n t ya yc y la lc l fa fc f =>
    obtain ⟨⟨a1, a2⟩, _⟩ := h
    simp only [T.tag]
    repeat' split
    all_goals omega
/-- what there is to read, if the bytes are a value's. -/
theorem Gh.top {bs : List Int} {s : Sl} {st : List Sl} {i N : Nat} (h : Gh bs (s :: st) i N) (hi : i ≤ bs.length) (v0 : T) (h1 : v0.Wd) (h2 : v0.sz ≤ 512) (h3 : v0.denc = bs) : ∃ (x : ByteArray × T) (ts : List (ByteArray × T)), ts.length = st.length ∧ (∀ y ∈ ts, y.2.Wd ∧ y.1.size ≤ 10000000) ∧ x.2.Wd ∧ N + (x.2.sz - 1) + more ts ≤ 512 ∧ (nx bs s i 0).2.2 = 0 ∧ bs.drop (nx bs s i 0).2.1 = x.2.tag :: (x.2.body ++ renc st ts) := by
  obtain ⟨ts, g1, g2, g3, g4⟩ := h v0 h1 h2 h3
  cases ts with
  | nil => simp at g1
  | cons x ts =>
    simp only [renc] at g3
    obtain ⟨g5, g6⟩ := g2 x (by simp)
    obtain ⟨g7, g8⟩ := nx_back bs s i x _ hi g6 g3
    refine ⟨x, ts, by simpa using g1, fun y hy => g2 y (by simp [hy]), g5, ?_, g7, ?_⟩
    · simp only [more, List.map_cons, List.sum_cons] at g4 ⊢; omega
    · rw [g8, T.denc_tag _ g5]; simp
/-- the state between two values. -/
def Mode (rb n₁ : Nat) (q p : Nat) (a : Option Addr) (bs : List Int) (pt : Nat) (W : World) (st : List Sl) (sa : Option Addr) (N i e : Nat) : Prop :=
  (e = 0 ∧ Wand n₁ (Prv rb q p a sa) W st (pt, 0) (bs.take i) ∧ Gh bs st i N) ∨ (e ≠ 0 ∧ NoV bs)
/-- the byte that is taken for a tag. -/
def tagAt (bs : List Int) (i e : Nat) : Nat := jn (tk bs i e 1).2.2 % 256
theorem tag_err (bs : List Int) (i e : Nat) (h : e ≠ 0) : tagAt bs i e = 0 := by
  unfold tagAt
  rw [tk_err _ _ _ _ h]; rfl
theorem tag_short (bs : List Int) (i : Nat) (h : bs.length ≤ i) : tagAt bs i 0 = 0 := by
  unfold tagAt
  rw [tk_short _ _ _ _ (by omega) (by omega)]; rfl
theorem tag_ok (bs : List Int) (i : Nat) (hb : Byts bs) (h : i < bs.length) : (tagAt bs i 0 : Int) = bs.getD i 0 ∧ tk bs i 0 1 = (i + 1, 0, (bs.drop i).take 1) ∧ bs.drop i = (tagAt bs i 0 : Int) :: bs.drop (i + 1) := by
  have h1 := tk_ok bs i 1 (by omega)
  have h2 := drop_cons bs i h
  have h3 : bs.getD i 0 ∈ bs := by
    rw [List.getD_eq_getElem?_getD, List.getElem?_eq_getElem h]; simp
  have h4 := hb _ h3
  have h5 : (tagAt bs i 0 : Int) = bs.getD i 0 := by
    unfold tagAt
    have : tk bs i 0 1 = (i + 1, 0, (bs.drop i).take 1) := h1
    rw [this, h2]
    simp only [List.take_succ_cons, List.take_zero, jn, List.foldl_cons, List.foldl_nil]
    omega
  exact ⟨h5, h1, by rw [h5]; exact h2⟩
/-- a tag that is none: the bytes are no value's. -/
theorem no_tag {rb n₁ q p : Nat} {a : Option Addr} {bs : List Int} {pt : Nat} {W : World} {s : Sl} {st : List Sl} {sa : Option Addr} {N i e : Nat} (h : Mode rb n₁ q p a bs pt W (s :: st) sa N i e) (hb : Byts bs) (hi : i ≤ bs.length) (ht : ¬ (1 ≤ tagAt bs (nx bs s i e).2.1 (nx bs s i e).2.2 ∧ tagAt bs (nx bs s i e).2.1 (nx bs s i e).2.2 ≤ 8)) : NoV bs := by
  rcases h with ⟨rfl, _, hg⟩ | ⟨_, h⟩
  · intro v0 h1 h2 h3
    obtain ⟨x, ts, _, _, g1, _, g2, g3⟩ := hg.top hi v0 h1 h2 h3
    rw [g2] at ht
    have hl : (nx bs s i 0).2.1 < bs.length := by
      rcases Nat.lt_or_ge (nx bs s i 0).2.1 bs.length with h | h
      · exact h
      · rw [List.drop_eq_nil_of_le h] at g3; simp at g3
    obtain ⟨k1, k2, k3⟩ := tag_ok bs _ hb hl
    rw [k3] at g3
    have e : (tagAt bs (nx bs s i 0).2.1 0 : Int) = x.2.tag := by injection g3
    have := T.tag_range x.2 g1
    omega
  · exact h
/-- a tag: the bytes have been good so far. -/
theorem is_tag {rb n₁ q p : Nat} {a : Option Addr} {bs : List Int} {pt : Nat} {W : World} {s : Sl} {st : List Sl} {sa : Option Addr} {N i e : Nat} (h : Mode rb n₁ q p a bs pt W (s :: st) sa N i e) (hb : Byts bs) (hi : i ≤ bs.length) (ht : 1 ≤ tagAt bs (nx bs s i e).2.1 (nx bs s i e).2.2) :
    e = 0 ∧ Wand n₁ (Prv rb q p a sa) W (s :: st) (pt, 0) (bs.take i) ∧ Gh bs (s :: st) i N ∧ ∃ y j, nx bs s i e = (y, j, 0) ∧ i ≤ j ∧ j < bs.length ∧ bs.drop i = nenc s (bk y) ++ ((tagAt bs j 0 : Int) :: bs.drop (j + 1)) ∧ tk bs j 0 1 = (j + 1, 0, (bs.drop j).take 1) ∧ (bk y).size ≤ bs.length := by
  rcases h with ⟨rfl, hw, hg⟩ | ⟨he, _⟩
  · rcases hnx : nx bs s i 0 with ⟨y, j, e1⟩
    rw [hnx] at ht
    simp only [] at ht
    by_cases he : e1 = 0
    · subst he
      obtain ⟨f1, f2, f3, f4⟩ := nx_form bs s i hb hi y j hnx
      have hl : j < bs.length := by
        rcases Nat.lt_or_ge j bs.length with h | h
        · exact h
        · rw [tag_short bs j h] at ht; omega
      obtain ⟨k1, k2, k3⟩ := tag_ok bs j hb hl
      refine ⟨rfl, hw, hg, y, j, rfl, f2, hl, ?_, k2, f4⟩
      rw [f1, ← k3]
    · rw [tag_err bs j e1 he] at ht
      omega
  · rw [nx_fail bs s i e he hi] at ht
    simp only [] at ht
    rw [tag_err bs i e he] at ht
    omega
end Go.Proofs.Ytehapglbenaikaa
