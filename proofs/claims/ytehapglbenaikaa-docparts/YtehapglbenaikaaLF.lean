/- The reader of documents: what one value that is read makes of its state. -/
import Derived.Test.YtehapglbenaikaaLE
namespace Go.Proofs.Ytehapglbenaikaa
open Go.RowKit
set_option linter.unusedVariables false

theorem take_split {bs E : List Int} {i i' : Nat} (hd : bs.drop i = E ++ bs.drop i') (hi : i ≤ bs.length) (hi' : i' ≤ bs.length) : bs.take i' = bs.take i ++ E := by
  have e := drop_len_split hd hi hi'
  subst e
  rw [List.take_add]
  congr 1
  rw [hd, List.take_left]
section
variable {rb n₁ : Nat} {w0 : World} {q p : Nat} {a : Option Addr} {bs : List Int} {W0 W : World} {s : Sl} {st : List Sl} {sa : Option Addr} {sc N i i' : Nat} {nv : ByteArray} {pt : Nat}
theorem leaf_end (hm : Md rb n₁ w0 q p a bs W0 s st sa sc N nv W i' 0) (hw : Wand n₁ (Prv rb q p a sa) W0 (s :: st) (pt, 0) (bs.take i)) (v1 : T) (hat : At W s.2 v1) (hok : v1.Ok) (hnv : nv.size ≤ 10000000)
    (hM : ∀ W' : World, W.heap.size ≤ W'.heap.size → Agr n₁ (Prv rb q p a sa) (fun k j => ∃ t ∈ st, SC t k j) W W' → v1.Mem W'.heap.size W') (hi : i ≤ bs.length) (hi' : i' ≤ bs.length) (hd : bs.drop i = senc s (nv, v1) ++ bs.drop i') :
    Wand n₁ (Prv rb q p a sa) W st (pt, 0) (bs.take i') := by
  rw [take_split hd hi hi']
  refine Wand.step (new := []) hw (fun _ _ h => h) hm.size (by simp) hm.agr ?_
  intro W' xs hl hs ha hF
  have hxs : xs = [] := List.eq_nil_of_length_eq_zero (by simpa using hl)
  subst hxs
  simp only [List.nil_append] at ha
  refine ⟨(nv, v1), ⟨fun y hy => ?_, hat.on (fun j hj => ?_), hM W' hs ha, hok, hnv⟩, by simp [renc]⟩
  · obtain ⟨h1, h2, h3, h4⟩ := hm.rng y.1 y.2 (.inl hy)
    refine ((ha y.1 y.2 h1 (Nat.lt_of_lt_of_le h2 hm.size) h3).1 ?_).trans (hm.name y hy)
    rintro ⟨t, ht, hsc⟩
    exact hm.apart t ht _ _ (.inl hy) hsc
  · obtain ⟨h1, h2, h3, h4⟩ := hm.rng _ _ (SC.val s j hj)
    refine (ha _ _ h1 (Nat.lt_of_lt_of_le h2 hm.size) h3).1 ?_
    rintro ⟨t, ht, hsc⟩
    exact hm.apart t ht _ _ (SC.val s j hj) hsc
end
theorem gh_step {bs : List Int} {s : Sl} {st new : List Sl} {i N N' i' : Nat} (hg : Gh bs (s :: st) i N) (hb : Byts bs) (hi : i ≤ bs.length) {y : List Int} {j : Nat} (hx : nx bs s i 0 = (y, j, 0)) (hj : j < bs.length)
    (h : ∀ (v : T) (r : List Int), v.Wd → v.tag = (tagAt bs j 0 : Int) → bs.drop (j + 1) = v.body ++ r → N + (v.sz - 1) ≤ 512 → ∃ ts : List (ByteArray × T), ts.length = new.length ∧ (∀ x ∈ ts, x.2.Wd ∧ x.1.size ≤ 10000000) ∧ bs.drop i' = renc new ts ++ r ∧ N' + more ts ≤ N + (v.sz - 1)) : Gh bs (new ++ st) i' N' := by
  intro v0 h1 h2 h3
  obtain ⟨x, ts, g1, g2, g3, g4, g5, g6⟩ := hg.top hi v0 h1 h2 h3
  rw [hx] at g6
  simp only [] at g6
  rw [(tag_ok bs j hb hj).2.2] at g6
  have e1 : x.2.tag = (tagAt bs j 0 : Int) := by injection g6 with a b; exact a.symm
  have e2 : bs.drop (j + 1) = x.2.body ++ renc st ts := by injection g6
  obtain ⟨us, k1, k2, k3, k4⟩ := h x.2 (renc st ts) g3 e1 e2 (by omega)
  refine ⟨us ++ ts, by simp [k1, g1], fun z hz => ?_, by rw [k3, renc_app _ _ _ _ k1], ?_⟩
  · rcases List.mem_append.1 hz with hz | hz
    · exact k2 z hz
    · exact g2 z hz
  · simp only [more, List.map_append, List.sum_append] at k4 g4 ⊢
    omega
theorem gh_no {bs : List Int} {s : Sl} {st : List Sl} {i N : Nat} (hg : Gh bs (s :: st) i N) (hb : Byts bs) (hi : i ≤ bs.length) {y : List Int} {j : Nat} (hx : nx bs s i 0 = (y, j, 0)) (hj : j < bs.length)
    (h : ∀ (v : T) (r : List Int), v.Wd → v.tag = (tagAt bs j 0 : Int) → bs.drop (j + 1) = v.body ++ r → N + (v.sz - 1) ≤ 512 → False) : NoV bs := by
  intro v0 h1 h2 h3
  obtain ⟨x, ts, g1, g2, g3, g4, g5, g6⟩ := hg.top hi v0 h1 h2 h3
  rw [hx] at g6
  simp only [] at g6
  rw [(tag_ok bs j hb hj).2.2] at g6
  exact h x.2 (renc st ts) g3 (by injection g6 with a b; exact a.symm) (by injection g6) (by omega)
theorem tag_kind {k : Int} {bo : Bool} {n : Int} {t : ByteArray} {ya : Option Addr} {yc : Nat} {y : List Int} {la : Option Addr} {lc : Nat} {l : TL} {fa : Option Addr} {fc : Nat} {f : FL} (h : (T.mk k bo n t ya yc y la lc l fa fc f).Wd) : ((T.mk k bo n t ya yc y la lc l fa fc f).tag = 1 ↔ k = 1) ∧ ((T.mk k bo n t ya yc y la lc l fa fc f).tag = 2 ∨ (T.mk k bo n t ya yc y la lc l fa fc f).tag = 3 ↔ k = 2) ∧ ((T.mk k bo n t ya yc y la lc l fa fc f).tag = 4 ↔ k = 3) ∧ ((T.mk k bo n t ya yc y la lc l fa fc f).tag = 5 ↔ k = 4) ∧ ((T.mk k bo n t ya yc y la lc l fa fc f).tag = 6 ↔ k = 5) ∧ ((T.mk k bo n t ya yc y la lc l fa fc f).tag = 7 ↔ k = 6) ∧ ((T.mk k bo n t ya yc y la lc l fa fc f).tag = 8 ↔ k = 7) := by
  obtain ⟨⟨a1, a2⟩, _⟩ := h
  have hk : k = 1 ∨ k = 2 ∨ k = 3 ∨ k = 4 ∨ k = 5 ∨ k = 6 ∨ k = 7 := by omega
  rcases hk with rfl | rfl | rfl | rfl | rfl | rfl | rfl <;> cases bo <;> simp [T.tag]
theorem body_none (v : T) (h : v.Wd) (ht : v.tag = 1 ∨ v.tag = 2 ∨ v.tag = 3) : v.body = [] := by
  cases v with
  | mk k bo n t ya yc y la lc l fa fc f =>
    obtain ⟨k1, k2, _⟩ := tag_kind h
    rcases ht with ht | ht | ht
    · obtain rfl := k1.1 ht; simp [T.body]
    · obtain rfl := k2.1 (.inl ht); simp [T.body]
    · obtain rfl := k2.1 (.inr ht); simp [T.body]
theorem body_num (v : T) (h : v.Wd) (ht : v.tag = 4) : ∃ m, m < 18446744073709551616 ∧ v.body = vb m := by
  cases v with
  | mk k bo n t ya yc y la lc l fa fc f =>
    obtain ⟨k1, k2, k3, _⟩ := tag_kind h
    obtain rfl := k3.1 ht
    exact ⟨zz n, zz_lt n h.2.1.1 h.2.1.2, by simp [T.body]⟩
theorem body_text (v : T) (h : v.Wd) (ht : v.tag = 5 ∨ v.tag = 6) : ∃ y : List Int, y.length < 18446744073709551616 ∧ v.body = vb y.length ++ y := by
  cases v with
  | mk k bo n t ya yc y la lc l fa fc f =>
    obtain ⟨k1, k2, k3, k4, k5, _⟩ := tag_kind h
    rcases ht with ht | ht
    · obtain rfl := k4.1 ht
      have := h.2.2.1
      exact ⟨sb t, by rw [sb_len]; omega, by rw [sb_len]; simp [T.body]⟩
    · obtain rfl := k5.1 ht
      have := h.2.2.2.1
      exact ⟨y, by omega, by simp [T.body]⟩
theorem body_list (v : T) (h : v.Wd) (ht : v.tag = 7) : ∃ l : TL, l.Wd ∧ l.sz ≤ v.sz - 1 ∧ v.body = vb l.list.length ++ l.denc := by
  cases v with
  | mk k bo n t ya yc y la lc l fa fc f =>
    obtain ⟨k1, k2, k3, k4, k5, k6, _⟩ := tag_kind h
    obtain rfl := k6.1 ht
    exact ⟨l, h.2.2.2.2.1, by simp only [T.sz]; omega, by simp [T.body]⟩
theorem body_doc (v : T) (h : v.Wd) (ht : v.tag = 8) : ∃ f : FL, f.Wd ∧ f.sz ≤ v.sz - 1 ∧ v.body = vb f.list.length ++ f.denc := by
  cases v with
  | mk k bo n t ya yc y la lc l fa fc f =>
    obtain ⟨k1, k2, k3, k4, k5, k6, k7⟩ := tag_kind h
    obtain rfl := k7.1 ht
    exact ⟨f, h.2.2.2.2.2, by simp only [T.sz]; omega, by simp [T.body]⟩
/-- the slots of a list's values, of a document's fields, in block B. -/
def newL (B n : Nat) : List Sl := (List.range n).map fun j => (none, (B, j * 7))
def newF (B n : Nat) : List Sl := (List.range n).map fun j => (some (B, j * 8), (B, j * 8 + 1))
theorem newL_len (B n : Nat) : (newL B n).length = n := by simp [newL]
theorem newF_len (B n : Nat) : (newF B n).length = n := by simp [newF]
theorem renc_list (l : List T) : ∀ (g : Nat → Nat × Nat) (k : Nat), renc ((List.range' k l.length).map fun j => ((none : Option (Nat × Nat)), g j)) (l.map fun c => (⟨#[]⟩, c)) = l.flatMap T.denc := by
  induction l with
  | nil => intro g k; rfl
  | cons v r ih =>
    intro g k
    simp only [List.length_cons, List.range'_succ, List.map_cons, renc, List.flatMap_cons, senc]
    rw [ih g (k + 1)]
    simp
theorem renc_doc (l : List (ByteArray × T)) : ∀ (g h : Nat → Nat × Nat) (k : Nat), renc ((List.range' k l.length).map fun j => (some (h j), g j)) l = l.flatMap fden := by
  induction l with
  | nil => intro g h k; rfl
  | cons v r ih =>
    intro g h k
    simp only [List.length_cons, List.range'_succ, List.map_cons, renc, List.flatMap_cons, senc]
    rw [ih g h (k + 1)]
    simp [fden]
theorem more_list (l : TL) : l.list.length + more (l.list.map fun c => (⟨#[]⟩, c)) = l.sz := by
  match l with
  | .nil => simp [TL.list, more, TL.sz]
  | .cons v r =>
    have h1 := more_list r
    have h2 := T.sz_pos v
    simp only [TL.list, TL.sz, List.length_cons, more, List.map_cons, List.sum_cons] at h1 ⊢
    omega
theorem more_doc (f : FL) : f.list.length + more f.list = f.sz := by
  match f with
  | .nil => simp [FL.list, more, FL.sz]
  | .cons s v r =>
    have h1 := more_doc r
    have h2 := T.sz_pos v
    simp only [FL.list, FL.sz, List.length_cons, more, List.map_cons, List.sum_cons] at h1 ⊢
    omega
theorem FL.Wd.names : ∀ (f : FL), f.Wd → ∀ x ∈ f.list, x.2.Wd ∧ x.1.size ≤ 10000000
  | .nil, _, x, h => by simp [FL.list] at h
  | .cons s v r, ⟨h1, h2, h3⟩, x, h => by
    simp only [FL.list, List.mem_cons] at h
    rcases h with rfl | h
    · exact ⟨h2, h1⟩
    · exact FL.Wd.names r h3 x h
end Go.Proofs.Ytehapglbenaikaa
