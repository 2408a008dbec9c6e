/- The mathematics of parting nodes: where an entry that was put stands, what is left without it, and that halves of a node that is too long may be, and fit. -/
import Derived.Test.YtcflnkepopcofaaIE
import Derived.Test.YtcflnkepopcofaaZM
import Derived.Test.YtcflnkepopcofaaJA
namespace Go.Proofs.Ytcflnkepopcofaa
open Go.RowKit
set_option linter.unusedVariables false

theorem keys_rise {a : List Int} {es : List Ee} (h : keysOk a es = true) : Rise es ∧ ∀ e ∈ es, ordI a e.key < 0 := by
  induction es generalizing a with
  | nil => exact ⟨List.Pairwise.nil, by intro e he; simp at he⟩
  | cons x es ih =>
    simp only [keysOk, Bool.and_eq_true, decide_eq_true_eq] at h
    have hax : ordI a x.key < 0 := by have := ordI_anti a x.key; omega
    obtain ⟨h1, h2⟩ := ih h.2.2
    refine ⟨List.pairwise_cons.2 ⟨h2, h1⟩, fun e he => ?_⟩
    rcases List.mem_cons.1 he with rfl | he
    · exact hax
    · exact ordI_trans_lt _ _ _ hax (by have := h2 e he; omega)
theorem may_rise {leaf : Bool} {es : List Ee} (h : mayB leaf es = true) : Rise es := by
  cases es with
  | nil => exact List.Pairwise.nil
  | cons x es =>
    cases leaf with
    | true =>
      simp only [mayB, if_true, Bool.and_eq_true] at h
      exact (keys_rise h.1).1
    | false =>
      simp only [mayB, Bool.false_eq_true, if_false, Bool.and_eq_true, decide_eq_true_eq] at h
      obtain ⟨h1, h2⟩ := keys_rise h.2.1
      have h0 : x.key = [] := List.eq_nil_of_length_eq_zero h.1
      exact List.pairwise_cons.2 ⟨fun e he => by rw [h0]; exact h2 e he, h1⟩
/-- where a key stands among keys that rise. -/
theorem at_key {xs : List En} {k i : Nat} {key : List Int} (hr : Rise (ers xs)) {e : Ee} (hk : (ers xs)[k]? = some e) (he : e.key = key) (h : At (pge key) xs i) : i = k := by
  obtain ⟨h0, h1, h2⟩ := h
  have hkl : k < xs.length := by have := (List.getElem?_eq_some_iff.1 hk).1; rwa [ers_len] at this
  by_cases c : i < k
  · exfalso
    obtain ⟨x, hx⟩ : ∃ x, xs[i]? = some x := ⟨_, List.getElem?_eq_getElem (by omega)⟩
    have p := h2 x hx
    have q := rise_at hr c (ers_at hx) hk
    rw [pge] at p
    have p := of_decide_eq_true p
    rw [he] at q
    omega
  · by_cases c2 : k < i
    · exfalso
      obtain ⟨x, hx⟩ : ∃ x, xs[i - 1]? = some x := ⟨_, List.getElem?_eq_getElem (by omega)⟩
      have p := h1 x (by omega) hx
      rw [pge] at p
      have p := of_decide_eq_false p
      by_cases c3 : k = i - 1
      · subst c3
        have hx' := ers_at hx
        rw [hk] at hx'
        simp at hx'
        rw [← hx', he] at p
        have := ordI_self key
        omega
      · have q := rise_at hr (show k < i - 1 by omega) hk (ers_at hx)
        rw [he] at q
        have := ordI_anti key x.e.key
        omega
    · omega
theorem ther_key {xs : List En} {k : Nat} {key : List Int} {e : Ee} (hk : (ers xs)[k]? = some e) (he : e.key = key) : ther xs k key = true := by
  have hkl : k < xs.length := by have := (List.getElem?_eq_some_iff.1 hk).1; rwa [ers_len] at this
  obtain ⟨x, hx⟩ : ∃ x, xs[k]? = some x := ⟨_, List.getElem?_eq_getElem hkl⟩
  have h := ers_at hx
  rw [hk] at h
  simp at h
  simp [ther, hx, ← h, he]
theorem ther_no {xs : List En} {key : List Int} (h : ∀ e ∈ ers xs, e.key ≠ key) (i : Nat) : ther xs i key = false := by
  unfold ther
  cases hx : xs[i]? with
  | none => rfl
  | some x =>
    have := h x.e (List.mem_map.2 ⟨x, List.mem_of_getElem? hx, rfl⟩)
    simp [this]
theorem at_above {xs : List En} {k i : Nat} {key : List Int} (hr : Rise (ers xs)) {e : Ee} (hk : (ers xs)[k]? = some e) (he : e.key = key) (h : At (pgt key) xs i) : i = k + 1 := by
  obtain ⟨h0, h1, h2⟩ := h
  have hkl : k < xs.length := by have := (List.getElem?_eq_some_iff.1 hk).1; rwa [ers_len] at this
  by_cases c : i < k + 1
  · exfalso
    obtain ⟨x, hx⟩ : ∃ x, xs[i]? = some x := ⟨_, List.getElem?_eq_getElem (by omega)⟩
    have p := h2 x hx
    rw [pgt] at p
    have p := of_decide_eq_true p
    by_cases c3 : i = k
    · subst c3
      have hx' := ers_at hx
      rw [hk] at hx'
      simp at hx'
      rw [← hx', he] at p
      have := ordI_self key
      omega
    · have q := rise_at hr (show i < k by omega) (ers_at hx) hk
      rw [he] at q
      omega
  · by_cases c2 : k + 1 < i
    · exfalso
      obtain ⟨x, hx⟩ : ∃ x, xs[i - 1]? = some x := ⟨_, List.getElem?_eq_getElem (by omega)⟩
      have p := h1 x (by omega) hx
      rw [pgt] at p
      have p := of_decide_eq_false p
      have q := rise_at hr (show k < i - 1 by omega) hk (ers_at hx)
      rw [he] at q
      have := ordI_anti key x.e.key
      omega
    · omega
/-- what a node is behind an entry was put: the entry stands at k. -/
structure PutOk (leaf : Bool) (es : List Ee) (x : Ee) (ps : List Ee) (k : Nat) : Prop where
  at_ : ps[k]? = some x
  rise : Rise ps
  sum : esum leaf ps ≤ esum leaf es + x.sz leaf
  wt : wts ps ≤ wts es + (x.key.length + x.val.length)
  len : ps.length ≤ es.length + 1
theorem rise_keys {ps es : List Ee} (h : Rise es) (hk : ps.map Ee.key = es.map Ee.key) : Rise ps := by
  unfold Rise at *
  have h' : (es.map Ee.key).Pairwise (fun a b => ordI a b < 0) := List.pairwise_map.2 h
  rw [← hk] at h'
  exact List.pairwise_map.1 h'
theorem put_ok_new {leaf : Bool} {xs : List En} {x : Ee} {i : Nat} (hr : Rise (ers xs)) (hat : At (pge x.key) xs i) (hnew : ∀ z ∈ xs, z.e.key ≠ x.key) : PutOk leaf (ers xs) x ((ers xs).take i ++ x :: (ers xs).drop i) i := by
  have hi : i ≤ (ers xs).length := by rw [ers_len]; exact hat.1
  refine ⟨?_, rise_put hr hat hnew, ?_, ?_, ?_⟩
  · rw [List.getElem?_append_right (by simp; omega)]
    simp [List.length_take, Nat.min_eq_left hi]
  · rw [esum_app, esum_cons]
    have : esum leaf (ers xs) = esum leaf ((ers xs).take i) + esum leaf ((ers xs).drop i) := by rw [← esum_app, List.take_append_drop]
    omega
  · rw [wts_put]; omega
  · simp; omega
theorem put_ok_old {leaf : Bool} {xs : List En} {x : Ee} {i : Nat} (hr : Rise (ers xs)) {e : Ee} (hk : (ers xs)[i]? = some e) (he : e.key = x.key) : PutOk leaf (ers xs) x ((ers xs).set i x) i := by
  have hi : i < (ers xs).length := (List.getElem?_eq_some_iff.1 hk).1
  have hset : (ers xs).set i x = (ers xs).take i ++ x :: (ers xs).drop (i + 1) := List.set_eq_take_append_cons_drop .. |>.trans (by rw [if_pos hi])
  have hall : ers xs = (ers xs).take i ++ e :: (ers xs).drop (i + 1) := by
    have h1 := (List.getElem?_eq_some_iff.1 hk).2
    conv => lhs; rw [← List.take_append_drop i (ers xs), List.drop_eq_getElem_cons hi, h1]
  refine ⟨by rw [List.getElem?_set_self hi], ?_, ?_, ?_, by simp⟩
  · refine rise_keys hr ?_
    rw [hset]
    conv => rhs; rw [hall]
    simp [he]
  · rw [hset, esum_app, esum_cons]
    conv => rhs; rw [hall, esum_app, esum_cons]
    omega
  · rw [hset, wts_app, wts_cons]
    conv => rhs; rw [hall, wts_app, wts_cons]
    omega
theorem gone {ps : List Ee} {k : Nat} {x : Ee} (hr : Rise ps) (hk : ps[k]? = some x) : ∀ e ∈ ps.eraseIdx k, e.key ≠ x.key := by
  intro e he heq
  obtain ⟨j, hj⟩ := List.getElem?_of_mem he
  rw [List.getElem?_eraseIdx] at hj
  split at hj
  · have := rise_at hr (by assumption) hj hk
    rw [heq] at this
    have := ordI_self x.key
    omega
  · have := rise_at hr (show k < j + 1 by omega) hk hj
    rw [heq] at this
    have := ordI_self x.key
    omega
/-- two halves are put together again. -/
theorem halves_join {ps : List Ee} {m : Nat} {x : Ee} (hx : ps[m]? = some x) : ps.take m ++ withKey x.key (noKey (ps.drop m)) = ps := by
  have hm : m < ps.length := (List.getElem?_eq_some_iff.1 hx).1
  have h1 := (List.getElem?_eq_some_iff.1 hx).2
  rw [List.drop_eq_getElem_cons hm, h1]
  simp only [noKey, withKey]
  conv => rhs; rw [← List.take_append_drop m ps, List.drop_eq_getElem_cons hm, h1]
theorem sz_bound {leaf : Bool} {es : List Ee} {i : Nat} {x : Ee} (h : PlOk leaf es i x) : x.sz leaf ≤ 226 := by
  have hl := h.long
  unfold Ee.sz
  cases leaf with
  | true =>
    have hv := h.val rfl
    simp only [if_true]
    split
    · rename_i h0
      simp [Ee.valOk, Ee.small, Ee.great, pageOk, h0] at hv
      omega
    · omega
  | false => simp; omega
theorem plok_take {leaf : Bool} {ps : List Ee} {m i : Nat} {x : Ee} (h : PlOk leaf ps i x) (hi : i < m) : PlOk leaf (ps.take m) i x := by
  refine ⟨h.first, h.long, fun y h0 hy => h.rise y h0 ?_, h.val, h.kid, fun hl k y hk hy => h.page hl k y hk ?_⟩
  · rwa [List.getElem?_take_of_lt (by omega)] at hy
  · rwa [List.getElem?_take_of_lt (by omega)] at hy
theorem may_take {leaf : Bool} {ps : List Ee} {m : Nat} (h : mayB leaf ps = true) (h1 : 1 ≤ m) : mayB leaf (ps.take m) = true := by
  rw [mayB_iff] at h ⊢
  refine ⟨fun e => h.1 ?_, fun i x hx => ?_⟩
  · rcases List.take_eq_nil_iff.1 e with e | e
    · omega
    · exact e
  · have hi : i < m := by have := (List.getElem?_eq_some_iff.1 hx).1; simp at this; omega
    rw [List.getElem?_take_of_lt hi] at hx
    exact plok_take (h.2 i x hx) hi
theorem may_drop {ps : List Ee} {m : Nat} (h : mayB true ps = true) (h1 : m < ps.length) : mayB true (ps.drop m) = true := by
  rw [mayB_iff] at h ⊢
  refine ⟨fun e => by have := congrArg List.length e; simp at this; omega, fun i x hx => ?_⟩
  rw [List.getElem?_drop] at hx
  have p := h.2 _ x hx
  refine ⟨⟨fun e => ?_, fun e => absurd e.2 (by simp)⟩, p.long, fun y h0 hy => ?_, p.val, fun e => absurd e (by simp), fun e => absurd e (by simp)⟩
  · exact absurd (p.first.1 e).2 (by simp)
  · rw [List.getElem?_drop] at hy
    exact p.rise y (by omega) (by rw [show m + i - 1 = m + (i - 1) by omega]; exact hy)
theorem nokey_at {es : List Ee} {i : Nat} {y : Ee} (h : (noKey es)[i]? = some y) : ∃ x, es[i]? = some x ∧ y.page = x.page ∧ y.val = x.val ∧ y.size = x.size ∧ (i = 0 → y.key = []) ∧ (0 < i → y = x) := by
  cases es with
  | nil => simp [noKey] at h
  | cons e r =>
    cases i with
    | zero =>
      simp [noKey] at h
      subst h
      exact ⟨e, rfl, rfl, rfl, rfl, fun _ => rfl, fun h => absurd h (by omega)⟩
    | succ i =>
      simp [noKey] at h
      exact ⟨y, by simpa using h, rfl, rfl, rfl, fun h => by omega, fun _ => rfl⟩
theorem ordI_nil_lt {ys : List Int} (h : ys.length ≠ 0) : ordI [] ys < 0 := by
  cases ys with
  | nil => simp at h
  | cons y ys => simp [ordI]
theorem may_nokey {ps : List Ee} {m : Nat} (h : mayB false ps = true) (h1 : 1 ≤ m) (h2 : m < ps.length) : mayB false (noKey (ps.drop m)) = true := by
  rw [mayB_iff] at h ⊢
  have hne : ps.drop m ≠ [] := fun e => by have := congrArg List.length e; simp at this; omega
  refine ⟨fun e => ?_, fun i y hy => ?_⟩
  · cases hd : ps.drop m with
    | nil => exact hne hd
    | cons a b => rw [hd] at e; simp [noKey] at e
  · obtain ⟨x, hx, e1, e2, e3, e4, e5⟩ := nokey_at hy
    rw [List.getElem?_drop] at hx
    have p := h.2 _ x hx
    have hkx : x.key.length ≠ 0 := fun e => by have := (p.first.1 e).1; omega
    refine ⟨⟨fun e => ?_, fun e => by rw [e4 e.1]; rfl⟩, ?_, fun z h0 hz => ?_, fun e => absurd e (by simp), fun _ => ?_, fun _ k z hk hz => ?_⟩
    · by_cases c : i = 0
      · exact ⟨c, rfl⟩
      · rw [e5 (by omega)] at e
        exact absurd e hkx
    · by_cases c : i = 0
      · rw [e4 c]; simp
      · rw [e5 (by omega)]; exact p.long
    · rw [e5 h0]
      obtain ⟨u, hu, -, -, -, u4, u5⟩ := nokey_at hz
      by_cases c : i - 1 = 0
      · rw [u4 c]; exact ordI_nil_lt hkx
      · rw [u5 (by omega)]
        rw [List.getElem?_drop] at hu
        exact p.rise u (by omega) (by rw [show m + i - 1 = m + (i - 1) by omega]; exact hu)
    · have := p.kid rfl
      unfold Ee.kid at *
      rw [e1, e2, e3]
      exact this
    · obtain ⟨u, hu, u1, -, -, -, -⟩ := nokey_at hz
      rw [List.getElem?_drop] at hu
      rw [e1, u1]
      exact p.page rfl (m + k) u (by omega) hu
theorem esum_nokey (es : List Ee) : esum false (noKey es) ≤ esum false es := by
  cases es with
  | nil => exact Nat.le_refl _
  | cons e r => rw [noKey, esum_cons, esum_cons]; simp [Ee.sz]
/-- the bytes of both halves. -/
theorem mid_sums {leaf : Bool} {ps : List Ee} {m : Nat} (h : mayB leaf ps = true) (hs : esum leaf ps ≤ 1232) (hm : Mid leaf ps m) : esum leaf (ps.take m) ≤ 1006 ∧ esum leaf (ps.drop m) ≤ 1006 := by
  have hp := ((mayB_iff leaf ps).1 h).2
  have h1 := hm.one
  have h2 := hm.some
  have hsum : esum leaf ps = esum leaf (ps.take m) + esum leaf (ps.drop m) := by rw [← esum_app, List.take_append_drop]
  constructor
  · obtain ⟨x, hx⟩ : ∃ x, ps[m - 1]? = some x := ⟨_, List.getElem?_eq_getElem (by omega)⟩
    have hb := sz_bound (hp _ x hx)
    have ht : ps.take m = ps.take (m - 1) ++ [x] := by
      have := List.take_add_one (l := ps) (i := m - 1)
      rw [show m - 1 + 1 = m by omega, hx] at this
      simpa using this
    have he : esum leaf (ps.take m) = esum leaf (ps.take (m - 1)) + x.sz leaf := by rw [ht, esum_app, esum_cons, esum_nil]; omega
    by_cases c : m = 1
    · subst c
      rw [he]
      simp [esum]
      omega
    · have := hm.small (m - 1) (by omega) (by omega)
      omega
  · rcases hm.big with hb | hb
    · omega
    · obtain ⟨x, hx⟩ : ∃ x, ps[m]? = some x := ⟨_, List.getElem?_eq_getElem (by omega)⟩
      have hz := sz_bound (hp _ x hx)
      have hd : ps.drop m = [x] := by
        rw [List.drop_eq_getElem_cons (by omega), (List.getElem?_eq_some_iff.1 hx).2, List.drop_of_length_le (by omega)]
      rw [hd, esum_cons, esum_nil]
      omega
theorem chk_long {leaf : Bool} {es : List Ee} (h : chk leaf es = 91) : mayB leaf es = true := by
  unfold chk at h
  cases e : mayB leaf es with
  | true => rfl
  | false => rw [e] at h; simp at h
theorem chk_of {leaf : Bool} {es : List Ee} (h : mayB leaf es = true) (hs : esum leaf es ≤ 1006) : chk leaf es = 0 := by
  unfold chk nsz
  rw [h]
  simp
  omega
/-- halves of a node that is too long by one entry may be, and fit. -/
theorem halves_fit {leaf : Bool} {es ps : List Ee} {x : Ee} {k m : Nat} (h0 : chk leaf es = 0) (hp : PutOk leaf es x ps k) (h : chk leaf ps = 91) (hm : Mid leaf ps m) :
    chk leaf (ps.take m) = 0 ∧ chk leaf (if leaf then ps.drop m else noKey (ps.drop m)) = 0 := by
  have hmay := chk_long h
  have hx := sz_bound (((mayB_iff leaf ps).1 hmay).2 k x hp.at_)
  have h1 := (chk_zero h0).2
  unfold nsz at h1
  have hs : esum leaf ps ≤ 1232 := by have := hp.sum; omega
  obtain ⟨s1, s2⟩ := mid_sums hmay hs hm
  have m1 := hm.one
  have m2 := hm.some
  refine ⟨chk_of (may_take hmay m1) s1, ?_⟩
  cases leaf with
  | true => simp only [if_true]; exact chk_of (may_drop hmay (by omega)) s2
  | false =>
    simp only [Bool.false_eq_true, if_false]
    exact chk_of (may_nokey hmay m1 (by omega)) (Nat.le_trans (esum_nokey _) s2)
end Go.Proofs.Ytcflnkepopcofaa
