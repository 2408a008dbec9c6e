/- The document's reader, as functions of a state: a number, so many bytes. -/
import Derived.Test.YtjojpohnmfkanaaRB
import Derived.Test.YtjojpohnmfkanaaHD
import Derived.Test.YtjojpohnmfkanaaRI
namespace Go.Proofs.Ytjojpohnmfkanaa
open Go.RowKit
set_option linter.unusedVariables false

def numF (zs : List Int) (k o : Nat) (b : Bool) : Nat × Nat × Bool := if b = true ∨ zs.length < o + k then (0, o, true) else (Crc.leV ((zs.drop o).take k), o + k, false)
def bytF (zs : List Int) (k o : Nat) (b : Bool) : List Int × Nat × Bool := if b = true ∨ zs.length < o + k then ([], o, true) else ((zs.drop o).take k, o + k, false)
theorem numF_ok {zs : List Int} {k o : Nat} {xs r : List Int} (ho : o ≤ zs.length) (h : zs.drop o = xs ++ r) (hx : xs.length = k) : numF zs k o false = (Crc.leV xs, o + k, false) ∧ zs.drop (o + k) = r ∧ o + k ≤ zs.length := by
  have hl := congrArg List.length h
  simp at hl
  refine ⟨?_, ?_, by omega⟩
  · unfold numF
    rw [if_neg (by simp; omega), h, ← hx, List.take_left]
  · rw [← List.drop_drop, h, ← hx, List.drop_left]
theorem bytF_ok {zs : List Int} {k o : Nat} {xs r : List Int} (ho : o ≤ zs.length) (h : zs.drop o = xs ++ r) (hx : xs.length = k) : bytF zs k o false = (xs, o + k, false) ∧ zs.drop (o + k) = r ∧ o + k ≤ zs.length := by
  have hl := congrArg List.length h
  simp at hl
  refine ⟨?_, ?_, by omega⟩
  · unfold bytF
    rw [if_neg (by simp; omega), h, ← hx, List.take_left]
  · rw [← List.drop_drop, h, ← hx, List.drop_left]
theorem byts_cut {zs : List Int} (h : Byts zs) (o k : Nat) : Byts ((zs.drop o).take k) := fun c hc => h c (List.mem_of_mem_drop (List.mem_of_mem_take hc))
theorem numF_bd {zs : List Int} {k o : Nat} {b : Bool} {v o' : Nat} {b' : Bool} (h8 : Byts zs) (ho : o ≤ zs.length) (h : numF zs k o b = (v, o', b')) : v < 256 ^ k ∧ o ≤ o' ∧ o' ≤ zs.length := by
  unfold numF at h
  split at h
  · cases h
    exact ⟨Nat.pow_pos (by omega), Nat.le_refl _, ho⟩
  · rename_i hc
    cases h
    have h1 := Crc.leV_lt _ (byts_cut h8 o k)
    have h2 : ((zs.drop o).take k).length = k := by simp; omega
    rw [h2] at h1
    exact ⟨h1, by omega, by omega⟩
theorem bytF_bd {zs : List Int} {k o : Nat} {b : Bool} {v : List Int} {o' : Nat} {b' : Bool} (h8 : Byts zs) (ho : o ≤ zs.length) (h : bytF zs k o b = (v, o', b')) : Byts v ∧ v.length ≤ k ∧ o + v.length ≤ o' ∧ o' ≤ zs.length := by
  unfold bytF at h
  split at h
  · cases h
    exact ⟨by intro c hc; simp at hc, by simp, by simp, ho⟩
  · rename_i hc
    cases h
    refine ⟨byts_cut h8 o k, by simp; omega, by simp; omega, by omega⟩
end Go.Proofs.Ytjojpohnmfkanaa
/- The document's reader, as functions of a state: where it stands, and whether the bytes have ended too early. -/
namespace Go.Proofs.Ytjojpohnmfkanaa
open Go.RowKit
set_option linter.unusedVariables false

/-- an entry that the document's reader reads, from a state to a state. -/
def EntR (leaf : Bool) (zs : List Int) (o : Nat) (b : Bool) (e : Ee) (o' : Nat) (b' : Bool) : Prop :=
  ∃ v1 o1 b1 key o2 b2, numF zs 1 o b = (v1, o1, b1) ∧ bytF zs v1 o1 b1 = (key, o2, b2) ∧
    (if leaf then ∃ v2 o3 b3, numF zs 1 o2 b2 = (v2, o3, b3) ∧ ((v2 ≠ 255 ∧ ∃ val, bytF zs v2 o3 b3 = (val, o', b') ∧ e = ⟨key, val, 0, 0⟩) ∨ (v2 = 255 ∧ ∃ s p o4 b4, numF zs 4 o3 b3 = (s, o4, b4) ∧ numF zs 4 o4 b4 = (p, o', b') ∧ e = ⟨key, [], p, s⟩))
     else ∃ p, numF zs 4 o2 b2 = (p, o', b') ∧ e = ⟨key, [], p, 0⟩)
theorem leV_single (v : Nat) : Crc.leV [(v : Int)] = v := by
  have := leV_one1 (v : Int) (by omega)
  omega
theorem entR_ok {leaf : Bool} {zs : List Int} {o : Nat} {e : Ee} {o' : Nat} {b' : Bool} {x : Ee} {r : List Int} (h : EntR leaf zs o false e o' b') (ho : o ≤ zs.length) (hz : zs.drop o = x.enc leaf ++ r) (hx : x.Rok leaf) : e = x ∧ b' = false ∧ o' ≤ zs.length ∧ zs.drop o' = r := by
  obtain ⟨v1, o1, b1, key, o2, b2, e1, e2, e3⟩ := h
  obtain ⟨xk, xv, xp, xs⟩ := x
  obtain ⟨h1, h2, h3⟩ := hx
  have hhead : ∃ t, (⟨xk, xv, xp, xs⟩ : Ee).enc leaf = [(xk.length : Int)] ++ (xk ++ t) ∧ t = (if leaf then vtail xv xp xs else Crc.le 4 xp) := by
    cases leaf with
    | true => exact ⟨_, by rw [enc_tail]; rfl, rfl⟩
    | false => exact ⟨_, by rw [enc_branch]; rfl, rfl⟩
  obtain ⟨t, ht, hte⟩ := hhead
  rw [ht] at hz
  simp only [List.append_assoc] at hz
  obtain ⟨a1, a2, a3⟩ := numF_ok (k := 1) ho hz rfl
  rw [a1] at e1
  cases e1
  rw [leV_single] at e2
  obtain ⟨c1, c2, c3⟩ := bytF_ok (k := xk.length) a3 a2 rfl
  rw [c1] at e2
  cases e2
  cases leaf with
  | true =>
    simp only [if_true] at e3 h3 hte
    obtain ⟨v2, o3, b3, e3, e4⟩ := e3
    rcases vok_cases h3 with ⟨rfl, rfl, hl, hv⟩ | ⟨rfl, p1, p2, p3, p4, hv⟩
    · rw [hte, hv] at c2
      obtain ⟨d1, d2, d3⟩ := numF_ok (k := 1) (xs := [(xv.length : Int)]) (r := xv ++ r) c3 (by rw [c2]; simp) rfl
      rw [d1] at e3
      cases e3
      rw [leV_single] at e4
      rcases e4 with ⟨_, val, e5, rfl⟩ | ⟨e5, _⟩
      · obtain ⟨f1, f2, f3⟩ := bytF_ok (k := xv.length) d3 d2 rfl
        rw [f1] at e5
        cases e5
        exact ⟨rfl, rfl, f3, f2⟩
      · omega
    · rw [hte, hv] at c2
      obtain ⟨d1, d2, d3⟩ := numF_ok (k := 1) (xs := [((255 : Nat) : Int)]) (r := Crc.le 4 xs ++ (Crc.le 4 xp ++ r)) c3 (by rw [c2]; simp) rfl
      rw [d1] at e3
      cases e3
      rw [leV_single] at e4
      rcases e4 with ⟨e5, _⟩ | ⟨_, s, p, o4, b4, e5, e6, rfl⟩
      · exact absurd rfl e5
      · obtain ⟨f1, f2, f3⟩ := numF_ok d3 d2 (Crc.le_length _ _)
        rw [f1] at e5
        cases e5
        obtain ⟨g1, g2, g3⟩ := numF_ok f3 f2 (Crc.le_length _ _)
        rw [g1] at e6
        cases e6
        rw [Crc.leV_le 4 xp (by omega), Crc.leV_le 4 xs (by omega)]
        exact ⟨rfl, rfl, g3, g2⟩
  | false =>
    simp only [Bool.false_eq_true, if_false] at e3 h3 hte
    obtain ⟨p, e3, rfl⟩ := e3
    obtain ⟨rfl, rfl, hp⟩ := h3
    rw [hte] at c2
    obtain ⟨d1, d2, d3⟩ := numF_ok c3 c2 (Crc.le_length _ _)
    rw [d1] at e3
    cases e3
    rw [Crc.leV_le 4 xp (by omega)]
    exact ⟨rfl, rfl, d3, d2⟩
/-- what is known of the entries that were read, of a node whose bytes these may be. -/
structure Dq (leaf : Bool) (zs : List Int) (N : Nat) (ds : List Ee) (o : Nat) (b : Bool) : Prop where
  q : ∀ es, IsNode leaf zs es → N = es.length ∧ b = false ∧ ∃ t, es = ds ++ t ∧ zs.drop o = encs leaf t ∧ ∀ e ∈ t, e.Rok leaf
  le : o ≤ zs.length
  w : wts ds ≤ o
theorem entR_bd {leaf : Bool} {zs : List Int} {o : Nat} {b : Bool} {e : Ee} {o' : Nat} {b' : Bool} (h8 : Byts zs) (ho : o ≤ zs.length) (h : EntR leaf zs o b e o' b') : Byts e.key ∧ Byts e.val ∧ e.page < 4294967296 ∧ e.size < 4294967296 ∧ o + (e.key.length + e.val.length) ≤ o' ∧ o' ≤ zs.length := by
  obtain ⟨v1, o1, b1, key, o2, b2, e1, e2, e3⟩ := h
  obtain ⟨-, a1, a2⟩ := numF_bd h8 ho e1
  obtain ⟨c1, c2, c3, c4⟩ := bytF_bd h8 a2 e2
  cases leaf with
  | true =>
    simp only [if_true] at e3
    obtain ⟨v2, o3, b3, e3, e4⟩ := e3
    obtain ⟨-, d1, d2⟩ := numF_bd h8 c4 e3
    rcases e4 with ⟨_, val, e5, rfl⟩ | ⟨_, s, p, o4, b4, e5, e6, rfl⟩
    · obtain ⟨f1, f2, f3, f4⟩ := bytF_bd h8 d2 e5
      exact ⟨c1, f1, by simp, by simp, by simp only []; omega, f4⟩
    · obtain ⟨f1, f2, f3⟩ := numF_bd h8 d2 e5
      obtain ⟨g1, g2, g3⟩ := numF_bd h8 f3 e6
      exact ⟨c1, by intro c hc; simp at hc, g1, f1, by simp; omega, g3⟩
  | false =>
    simp only [Bool.false_eq_true, if_false] at e3
    obtain ⟨p, e3, rfl⟩ := e3
    obtain ⟨g1, g2, g3⟩ := numF_bd h8 c4 e3
    exact ⟨c1, by intro c hc; simp at hc, g1, by simp, by simp; omega, g3⟩
theorem Dq.step {leaf : Bool} {zs : List Int} {N : Nat} {ds : List Ee} {o : Nat} {b : Bool} {e : Ee} {o' : Nat} {b' : Bool} (h8 : Byts zs) (h : Dq leaf zs N ds o b) (hl : ds.length < N) (he : EntR leaf zs o b e o' b') : Dq leaf zs N (ds ++ [e]) o' b' := by
  obtain ⟨b1, b2, b3, b4, b5, b6⟩ := entR_bd h8 h.le he
  refine ⟨fun es hes => ?_, b6, by rw [wts_app, wts_cons]; have := h.w; simp [wts] at *; omega⟩
  obtain ⟨q1, q2, t, q3, q4, q5⟩ := h.q es hes
  cases t with
  | nil => rw [q3] at q1; simp at q1; omega
  | cons x t =>
    subst q2
    rw [encs_cons] at q4
    obtain ⟨rfl, c2, c3, c4⟩ := entR_ok he h.le q4 (q5 x (List.mem_cons_self ..))
    exact ⟨q1, c2, t, by rw [q3]; simp, c4, fun y hy => q5 y (List.mem_cons_of_mem _ hy)⟩
theorem Dq.none_bad {leaf : Bool} {zs : List Int} {N : Nat} {ds : List Ee} {o : Nat} (h : Dq leaf zs N ds o true) (es : List Ee) : ¬ IsNode leaf zs es := fun k => by have := (h.q es k).2.1; simp at this
theorem Dq.whole {leaf : Bool} {zs : List Int} {N : Nat} {ds : List Ee} {o : Nat} {b : Bool} (h : Dq leaf zs N ds o b) (hl : N ≤ ds.length) {es : List Ee} (k : IsNode leaf zs es) : es = ds := by
  obtain ⟨q1, q2, t, q3, q4, q5⟩ := h.q es k
  have : t = [] := List.eq_nil_of_length_eq_zero (by rw [q3] at q1; simp at q1; omega)
  rw [q3, this, List.append_nil]
/-- the beginning. -/
theorem dq_begin {leaf : Bool} {zs : List Int} {N o : Nat} {b : Bool} (h8 : Byts zs) (h : numF zs 2 0 false = (N, o, b)) : Dq leaf zs N [] o b := by
  obtain ⟨b1, b2, b3⟩ := numF_bd h8 (Nat.zero_le _) h
  refine ⟨fun es hes => ?_, b3, by simp [wts]⟩
  have hl := len_small hes.2.1
  have hz : zs.drop 0 = Crc.le 2 es.length ++ encs leaf es := by rw [List.drop_zero]; exact hes.1
  obtain ⟨a1, a2, a3⟩ := numF_ok (Nat.zero_le _) hz (Crc.le_length _ _)
  rw [a1, Crc.leV_le 2 es.length (by omega)] at h
  cases h
  exact ⟨rfl, rfl, es, rfl, a2, rok_of_may (chk_zero hes.2.1).1 hes.2.2⟩
end Go.Proofs.Ytjojpohnmfkanaa
