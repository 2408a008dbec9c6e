/- Halves and Join of any node. -/
import Derived.Test.YtcflnkepopcofaaJB
import Derived.Test.YtcflnkepopcofaaJC
import Derived.Test.YtcflnkepopcofaaJF
import Derived.Test.YtcflnkepopcofaaJE
namespace Go.Proofs.Ytcflnkepopcofaa
open Go.RowKit
set_option linter.unusedVariables false

/-- what Join gives. -/
def joined (leaf : Bool) (A B : List Ee) (key : List Int) : List Ee := if leaf = true ∨ B = [] then A ++ B else A ++ withKey key B
/-- what Halves tells: put together again the halves are the node. -/
structure Hv (leaf : Bool) (P A B : List Ee) (key : List Int) : Prop where
  join : joined leaf A B key = P
  mid : 2 ≤ P.length → ∃ m, Mid leaf P m ∧ A = P.take m ∧ B = (if leaf then P.drop m else noKey (P.drop m))
/-- two halves and the key between, where they lie. -/
structure HvO (leaf : Bool) (P : List Ee) (a1 : Option Addr) (n1 c1 : Nat) (us1 : List En) (a2 : Option Addr) (n2 c2 : Nat) (us2 : List En) (a3 : Option Addr) (n3 c3 : Nat) (key : List Int) (w : World) : Prop where
  hv : Hv leaf P (ers us1) (ers us2) key
  e1 : Ens w a1 n1 c1 us1
  e2 : Ens w a2 n2 c2 us2
  k3 : Inn w a3 n3 c3 key
  n1 : n1 ≤ P.length
  n2 : n2 ≤ P.length
  w1 : wts (ers us1) ≤ wts P
  w2 : wts (ers us2) ≤ wts P
  l3 : n3 ≤ wts P
theorem HvO.below {leaf : Bool} {P : List Ee} {a1 : Option Addr} {n1 c1 : Nat} {us1 : List En} {a2 : Option Addr} {n2 c2 : Nat} {us2 : List En} {a3 : Option Addr} {n3 c3 : Nat} {key : List Int} {w w' : World} (h : HvO leaf P a1 n1 c1 us1 a2 n2 c2 us2 a3 n3 c3 key w) (hb : Below w.heap.size w w') : HvO leaf P a1 n1 c1 us1 a2 n2 c2 us2 a3 n3 c3 key w' :=
  ⟨h.hv, h.e1.below hb, h.e2.below hb, h.k3.below hb, h.n1, h.n2, h.w1, h.w2, h.l3⟩
theorem wts_nokey (es : List Ee) : wts (noKey es) ≤ wts es := by
  cases es with
  | nil => exact Nat.le_refl _
  | cons e r => rw [noKey, wts_cons, wts_cons]; simp
theorem nokey_len (es : List Ee) : (noKey es).length = es.length := by cases es <;> simp [noKey]
theorem wts_takeE (P : List Ee) (m : Nat) : wts (P.take m) ≤ wts P := by
  have e : wts P = wts (P.take m) + wts (P.drop m) := by rw [← wts_app, List.take_append_drop]
  omega
theorem wts_dropE (P : List Ee) (m : Nat) : wts (P.drop m) ≤ wts P := by
  have e : wts P = wts (P.take m) + wts (P.drop m) := by rw [← wts_app, List.take_append_drop]
  omega
theorem halves_all (leaf : Bool) (a : Option Addr) (n c : Nat) (xs : List En) (w : World) (h : Ens w a n c xs) (hn : n ≤ 1000000) (hw : wts (ers xs) ≤ 1000000) :
    Calls Try.prog 11 #[.agg #[.bool leaf, .slice a n c]] w fun e w' => ∃ a1 n1 c1 us1 a2 n2 c2 us2 a3 n3 c3 key, e = .returned (.tuple #[.agg #[.bool leaf, .slice a1 n1 c1], .agg #[.bool leaf, .slice a2 n2 c2], .slice a3 n3 c3]) ∧ HvO leaf (ers xs) a1 n1 c1 us1 a2 n2 c2 us2 a3 n3 c3 key w' ∧ Below w.heap.size w w' := by
  have hl : (ers xs).length = n := by rw [ers_len, h.len]
  by_cases h2 : 2 ≤ n
  · cases leaf with
    | true =>
      refine (halves_leaf a n c xs w h hn hw h2).mono ?_
      rintro e w' ⟨m, va, vb, vk, ys, zs, key, rfl, hm, hy, hz, ⟨x, hx, rfl⟩, cy, cz, ok, hb⟩
      obtain ⟨a1, c1, rfl, e1⟩ := cy.ens
      obtain ⟨a2, c2, rfl, e2⟩ := cz.ens
      obtain ⟨a3, n3, c3, rfl, hn3⟩ := ok.shape2
      have hxm : x ∈ xs := List.mem_of_getElem? hx
      have m1 := hm.some
      have ly : ys.length = m := by have := congrArg List.length hy; rw [ers_len, List.length_take] at this; omega
      have lz : zs.length = n - m := by have := congrArg List.length hz; rw [ers_len, List.length_drop] at this; omega
      refine ⟨_, _, _, ys, _, _, _, zs, _, _, _, _, rfl, ⟨⟨?_, fun _ => ⟨m, hm, hy, by simpa using hz⟩⟩, e1, e2, own_inn ok (h.each x hxm).key.byts, by omega, by omega, ?_, ?_, ?_⟩, hb⟩
      · simp [joined, hy, hz]
      · rw [hy]; exact wts_takeE _ _
      · rw [hz]; exact wts_dropE _ _
      · rw [hn3.out]; have := mem_wts hx; omega
    | false =>
      refine (halves_branch a n c xs w h hn hw h2).mono ?_
      rintro e w' ⟨m, va, vb, vk, ys, zs, key, rfl, hm, hy, hz, ⟨x, hx, rfl⟩, cy, cz, ok, hb⟩
      obtain ⟨a1, c1, rfl, e1⟩ := cy.ens
      obtain ⟨a2, c2, rfl, e2⟩ := cz.ens
      obtain ⟨a3, n3, c3, rfl, hn3⟩ := ok.shape2
      have hxm : x ∈ xs := List.mem_of_getElem? hx
      have m1 := hm.some
      have ly : ys.length = m := by have := congrArg List.length hy; rw [ers_len, List.length_take] at this; omega
      have lz : zs.length = n - m := by have := congrArg List.length hz; rw [ers_len, nokey_len, List.length_drop] at this; omega
      have hne : ers zs ≠ [] := fun e => by have := congrArg List.length e; rw [ers_len, lz, List.length_nil] at this; omega
      refine ⟨_, _, _, ys, _, _, _, zs, _, _, _, _, rfl, ⟨⟨?_, fun _ => ⟨m, hm, hy, by simpa using hz⟩⟩, e1, e2, own_inn ok (h.each x hxm).key.byts, by omega, by omega, ?_, ?_, ?_⟩, hb⟩
      · unfold joined
        rw [if_neg (by simp [hne]), hy, hz]
        exact halves_join (ers_at hx)
      · rw [hy]; exact wts_takeE _ _
      · rw [hz]; exact Nat.le_trans (wts_nokey _) (wts_dropE _ _)
      · rw [hn3.out]; have := mem_wts hx; omega
  · refine (halves_short leaf a n c xs w h (by omega) hw).mono ?_
    rintro e w' ⟨va, ys, rfl, hy, cy, hb⟩
    obtain ⟨a1, c1, rfl, e1⟩ := cy.ens
    have ly : ys.length = n := by have := congrArg List.length hy; rw [ers_len, hl] at this; exact this
    refine ⟨_, _, _, ys, none, 0, 0, [], none, 0, 0, [], rfl, ⟨⟨?_, fun h => by omega⟩, e1, ens_nil _, inn_nil _, by omega, by omega, by rw [hy]; exact Nat.le_refl _, by simp [ers, wts], by omega⟩, hb⟩
    simp [joined, ers]
    exact hy
theorem join_all {leaf : Bool} {P : List Ee} {a1 : Option Addr} {n1 c1 : Nat} {us1 : List En} {a2 : Option Addr} {n2 c2 : Nat} {us2 : List En} {a3 : Option Addr} {n3 c3 : Nat} {key : List Int} {w : World} (h : HvO leaf P a1 n1 c1 us1 a2 n2 c2 us2 a3 n3 c3 key w) (hn : P.length ≤ 100000) (hw : wts P ≤ 1000000) :
    Calls Try.prog 13 #[.agg #[.bool leaf, .slice a1 n1 c1], .agg #[.bool leaf, .slice a2 n2 c2], .slice a3 n3 c3] w fun e w' => ∃ a' c' us, e = .returned (.agg #[.bool leaf, .slice a' P.length c']) ∧ ers us = P ∧ Ens w' a' P.length c' us ∧ Below w.heap.size w w' := by
  have b1 := h.n1
  have b2 := h.n2
  have b3 := h.w1
  have b4 := h.w2
  have b5 := h.l3
  have fin : ∀ (a' : Option Addr) (c' : Nat) (us : List En) (w' : World), ers us = P → Ens w' a' (n1 + n2) c' us → n1 + n2 = P.length := fun a' c' us w' he hens => by rw [← he, ers_len, hens.len]
  by_cases hp : leaf = true ∨ n2 = 0
  · refine (join_plain leaf a1 n1 c1 us1 a2 n2 c2 us2 a3 n3 c3 key w h.e1 h.e2 h.k3 (by omega) (by omega) (by omega) (by omega) (by omega) hp).mono ?_
    rintro e w' ⟨a', c', us, rfl, he, hens, hb⟩
    have hj : ers us = P := by
      rw [he, ← h.hv.join]
      unfold joined
      rw [if_pos]
      rcases hp with hp | hp
      · exact .inl hp
      · exact .inr (List.eq_nil_of_length_eq_zero (by rw [ers_len, h.e2.len, hp]))
    have hl := fin a' c' us w' hj hens
    rw [hl] at hens ⊢
    exact ⟨a', c', us, rfl, hj, hens, hb⟩
  · have hq : leaf = false ∧ 0 < n2 := by
      constructor
      · cases leaf with
        | true => exact absurd (.inl rfl) hp
        | false => rfl
      · exact Nat.pos_of_ne_zero fun e => hp (.inr e)
    refine (join_branch leaf a1 n1 c1 us1 a2 n2 c2 us2 a3 n3 c3 key w h.e1 h.e2 h.k3 (by omega) (by omega) (by omega) (by omega) (by omega) hq).mono ?_
    rintro e w' ⟨a', c', us, rfl, he, hens, hb⟩
    have hj : ers us = P := by
      rw [he, ← h.hv.join]
      unfold joined
      rw [if_neg]
      rintro (e | e)
      · rw [hq.1] at e; cases e
      · have := congrArg List.length e
        rw [ers_len, h.e2.len] at this
        simp at this
        omega
    have hl := fin a' c' us w' hj hens
    rw [hl] at hens ⊢
    exact ⟨a', c', us, rfl, hj, hens, hb⟩
theorem hv_fit {leaf : Bool} {es P A B : List Ee} {key : List Int} {x : Ee} {k : Nat} (h : Hv leaf P A B key) (h0 : chk leaf es = 0) (hp : PutOk leaf es x P k) (hl : chk leaf P = 91) (h2 : 2 ≤ P.length) : chk leaf A = 0 ∧ chk leaf B = 0 := by
  obtain ⟨m, hm, rfl, rfl⟩ := h.mid h2
  exact halves_fit h0 hp hl hm
end Go.Proofs.Ytcflnkepopcofaa
