/- Each call of a buffer, told of the three of them: put, delete, get, Len, Mark. -/
import Derived.Test.YtgohhlngnnmknaaPE
import Derived.Test.YtgohhlngnnmknaaQB
import Derived.Test.YtgohhlngnnmknaaLC
namespace Go.Proofs.Ytgohhlngnnmknaa
open Go.RowKit Go.Maps
set_option linter.unusedVariables false

/-- bytes that are few enough to be told. -/
def Esm (e : Ee) : Prop := e.key.length ≤ 140737488351232 ∧ e.val.length ≤ 140737488351232
theorem esm_put {es : List Ee} {e : Ee} (h : ∀ x ∈ es, Esm x) (he : Esm e) : ∀ x ∈ put es e, Esm x := fun x hx => (put_mem hx).elim (fun h1 => h1 ▸ he) (fun h1 => h x h1)
theorem esm_fold : ∀ {L acc : List Ee}, (∀ x ∈ L, Esm x) → (∀ x ∈ acc, Esm x) → ∀ x ∈ L.foldl put acc, Esm x
  | [], acc, _, h => h
  | e :: L, acc, hL, h => esm_fold (L := L) (fun x hx => hL x (List.mem_cons_of_mem _ hx)) (esm_put h (hL e (List.mem_cons_self ..)))
theorem len_fold : ∀ (L acc : List Ee), (L.foldl put acc).length ≤ acc.length + L.length
  | [], acc => by simp
  | e :: L, acc => by
    have h1 := len_fold L (put acc e)
    have h2 := (put_len acc e).1
    simp only [List.foldl_cons, List.length_cons]
    omega
theorem St2.hlen {w : World} {p B n : Nat} {es : List Ee} {hs : List (List Ee)} {O E : Nat → Prop} (h : St2 w p B es n hs O E) : hs.length = n := by
  obtain ⟨sv, uv, xs, us, hh, h1, h2, rfl, rfl, h5, h6, h7, h8⟩ := h
  rw [List.length_map]; exact h1.len
theorem hh_snoc {L : List Ee} {hs : List (List Ee)} (hl : hs.length = L.length) (hh : ∀ j, j ≤ L.length → (hs ++ [L.foldl put []])[j]? = some ((L.take j).foldl put [])) (e : Ee) : ∀ j, j ≤ (L ++ [e]).length → ((hs ++ [L.foldl put []]) ++ [(L ++ [e]).foldl put []])[j]? = some (((L ++ [e]).take j).foldl put []) := by
  intro j hj
  simp only [List.length_append, List.length_singleton] at hj
  by_cases h1 : j ≤ L.length
  · rw [List.getElem?_append_left (by simp; omega), hh j h1, List.take_append_of_le_length h1]
  · have : j = L.length + 1 := by omega
    subst this
    rw [List.getElem?_append_right (by simp; omega), List.take_of_length_le (by simp)]
    simp [hl]
theorem hh_take {L : List Ee} {hs : List (List Ee)} (hl : hs.length = L.length) (hh : ∀ j, j ≤ L.length → (hs ++ [L.foldl put []])[j]? = some ((L.take j).foldl put [])) {m : Nat} (hm : m ≤ L.length) : ∀ j, j ≤ (L.take m).length → (hs.take m ++ [(L.take m).foldl put []])[j]? = some (((L.take m).take j).foldl put []) := by
  intro j hj
  rw [List.length_take, Nat.min_eq_left hm] at hj
  by_cases h1 : j < m
  · rw [List.getElem?_append_left (by simp; omega), List.getElem?_take, if_pos h1, List.take_take, Nat.min_eq_left hj]
    have := hh j (by omega)
    rwa [List.getElem?_append_left (by omega)] at this
  · have : j = m := by omega
    subst this
    rw [List.getElem?_append_right (by simp; omega)]
    simp [hl, Nat.min_eq_left hm, List.take_take]
def Dn (B0 N : Nat) (X : Nat → Prop) (w : World) (p : Nat) (Lb Lr : List Ee) (pr q : Nat) : Prop :=
  ∃ hs O E v ys f n0 A0 C0 Z0 n1 A1 C1 Z1 n2 A2 C2 Z2, Dz B0 X w p Lb hs O E pr v ys q f n0 A0 C0 Z0 n1 A1 C1 Z1 n2 A2 C2 Z2 ∧ ers ys = Lr ∧ n0 ≤ 4 * N ∧ n1 ≤ N ∧ n2 ≤ N ∧ Lb.length ≤ N ∧ Lr.length ≤ N ∧ (∀ e ∈ Lb, Esm e) ∧ ∀ e ∈ Lr, Esm e
section
variable {B0 N : Nat} {X : Nat → Prop} {w w' : World} {p : Nat} {Lb Lr : List Ee} {pr q : Nat}
theorem Dn.base (h : Dn B0 N X w p Lb Lr pr q) : B0 ≤ w.heap.size := by
  obtain ⟨hs, O, E, v, ys, f, n0, A0, C0, Z0, n1, A1, C1, Z1, n2, A2, C2, Z2, h1, h2⟩ := h
  exact h1.base
theorem Dn.x (h : Dn B0 N X w p Lb Lr pr q) {j : Nat} (hj : X j) : j < w.heap.size ∧ u8f w j := by
  obtain ⟨hs, O, E, v, ys, f, n0, A0, C0, Z0, n1, A1, C1, Z1, n2, A2, C2, Z2, h1, h2⟩ := h
  exact ⟨(h1.xx j hj).1, (h1.xx j hj).2.1⟩
theorem Dn.below (h : Dn B0 N X w p Lb Lr pr q) (hb : Below w.heap.size w w') : Dn B0 N X w' p Lb Lr pr q := by
  obtain ⟨hs, O, E, v, ys, f, n0, A0, C0, Z0, n1, A1, C1, Z1, n2, A2, C2, Z2, h1, h2⟩ := h
  exact ⟨hs, O, E, v, ys, f, n0, A0, C0, Z0, n1, A1, C1, Z1, n2, A2, C2, Z2, h1.below hb, h2⟩
theorem Dn.lend (h : Dn B0 N X w p Lb Lr pr q) (hb : Below w.heap.size w w') {X' : Nat → Prop} (hX : ∀ j, X' j → X j ∨ (w.heap.size ≤ j ∧ u8f w' j)) : Dn B0 N X' w' p Lb Lr pr q := by
  obtain ⟨hs, O, E, v, ys, f, n0, A0, C0, Z0, n1, A1, C1, Z1, n2, A2, C2, Z2, h1, h2⟩ := h
  exact ⟨hs, O, E, v, ys, f, n0, A0, C0, Z0, n1, A1, C1, Z1, n2, A2, C2, Z2, h1.lend hb hX, h2⟩
theorem Dn.spoil (h : Dn B0 N X w p Lb Lr pr q) {g : Nat} (hX : X g) (hg : w.grownBy w' (some g)) {X' : Nat → Prop} (hX' : ∀ j, X' j → X j ∧ j ≠ g) : Dn B0 N X' w' p Lb Lr pr q := by
  obtain ⟨hs, O, E, v, ys, f, n0, A0, C0, Z0, n1, A1, C1, Z1, n2, A2, C2, Z2, h1, h2⟩ := h
  exact ⟨hs, O, E, v, ys, f, n0, A0, C0, Z0, n1, A1, C1, Z1, n2, A2, C2, Z2, h1.spoil hX hg hX', h2⟩
theorem Dn.up (h : Dn B0 N X w p Lb Lr pr q) {M : Nat} (hM : N ≤ M) : Dn B0 M X w p Lb Lr pr q := by
  obtain ⟨hs, O, E, v, ys, f, n0, A0, C0, Z0, n1, A1, C1, Z1, n2, A2, C2, Z2, h1, h2, h3, h4, h5, h6, h7, h8⟩ := h
  exact ⟨hs, O, E, v, ys, f, n0, A0, C0, Z0, n1, A1, C1, Z1, n2, A2, C2, Z2, h1, h2, by omega, by omega, by omega, by omega, by omega, h8⟩
theorem Dn.len (h : Dn B0 N X w p Lb Lr pr q) : Lb.length ≤ N ∧ Lr.length ≤ N ∧ (∀ e ∈ Lb, Esm e) ∧ ∀ e ∈ Lr, Esm e := by
  obtain ⟨hs, O, E, v, ys, f, n0, A0, C0, Z0, n1, A1, C1, Z1, n2, A2, C2, Z2, h1, h2, h3, h4, h5, h6, h7, h8⟩ := h
  exact ⟨h6, h7, h8⟩
theorem Dn.put_any (h : Dn B0 N X w p Lb Lr pr q) (hN : N ≤ 900) (ka va : Option Addr) (kn kc vn vc : Nat) (key val : List Int) (hk : Inn w ka kn kc key) (hv : Inn w va vn vc val) (hkl : kn ≤ 140737488351232) (hvl : vn ≤ 140737488351232) :
    Calls Try.prog 14 #[.pointer (some ⟨p, 0, none⟩), .slice ka kn kc, .slice va vn vc] w fun e w' => e = .returned (.tuple #[]) ∧ Dn B0 (N + 1) X w' p (Lb ++ [⟨key, val, false⟩]) Lr pr q ∧ Kx B0 w w' := by
  obtain ⟨hs, O, E, v, ys, f, n0, A0, C0, Z0, n1, A1, C1, Z1, n2, A2, C2, Z2, h1, h2, h3, h4, h5, h6, h7, h8, h9⟩ := h
  refine (put2_any h1.b ka va kn kc vn vc key val hk hv hkl hvl (by omega) (by have := len_fold Lb []; simp only [List.length_nil] at this; omega)).mono ?_
  rintro r w' ⟨rfl, O', E', hb, hg, he⟩
  obtain ⟨d1, d2⟩ := h1.b_on (Lb' := Lb ++ [⟨key, val, false⟩]) (by rw [List.foldl_append, List.length_append]; exact hb) hg he (hh_snoc h1.b.hlen h1.hh _)
  refine ⟨rfl, ⟨_, O', E', v, ys, f, n0, A0, C0, Z0, n1, A1, C1, Z1, n2, A2, C2, Z2, d1, h2, by omega, by omega, by omega, by simp; omega, by omega, fun e he => ?_, h9⟩, d2⟩
  rcases List.mem_append.1 he with he | he
  · exact h8 e he
  · rw [List.mem_singleton.1 he]
    exact ⟨by show key.length ≤ _; rw [hk.len]; exact hkl, by show val.length ≤ _; rw [hv.len]; exact hvl⟩
theorem Dn.delete_any (h : Dn B0 N X w p Lb Lr pr q) (hN : N ≤ 900) (ka : Option Addr) (kn kc : Nat) (key : List Int) (hk : Inn w ka kn kc key) (hkl : kn ≤ 140737488351232) :
    Calls Try.prog 15 #[.pointer (some ⟨p, 0, none⟩), .slice ka kn kc] w fun e w' => e = .returned (.tuple #[]) ∧ Dn B0 (N + 1) X w' p (Lb ++ [⟨key, [], true⟩]) Lr pr q ∧ Kx B0 w w' := by
  obtain ⟨hs, O, E, v, ys, f, n0, A0, C0, Z0, n1, A1, C1, Z1, n2, A2, C2, Z2, h1, h2, h3, h4, h5, h6, h7, h8, h9⟩ := h
  refine (delete2_any h1.b ka kn kc key hk hkl (by omega) (by have := len_fold Lb []; simp only [List.length_nil] at this; omega)).mono ?_
  rintro r w' ⟨rfl, O', E', hb, hg, he⟩
  obtain ⟨d1, d2⟩ := h1.b_on (Lb' := Lb ++ [⟨key, [], true⟩]) (by rw [List.foldl_append, List.length_append]; exact hb) hg he (hh_snoc h1.b.hlen h1.hh _)
  refine ⟨rfl, ⟨_, O', E', v, ys, f, n0, A0, C0, Z0, n1, A1, C1, Z1, n2, A2, C2, Z2, d1, h2, by omega, by omega, by omega, by simp; omega, by omega, fun e he => ?_, h9⟩, d2⟩
  rcases List.mem_append.1 he with he | he
  · exact h8 e he
  · rw [List.mem_singleton.1 he]
    exact ⟨by show key.length ≤ _; rw [hk.len]; exact hkl, by show ([] : List Int).length ≤ _; simp⟩
theorem Dn.back_any (h : Dn B0 N X w p Lb Lr pr q) (hN : N ≤ 900) (m : Nat) (hm : m ≤ Lb.length) :
    Calls Try.prog 33 #[.pointer (some ⟨p, 0, none⟩), .int .i64 (m : Int)] w fun e w' => e = .returned (.int .u16 0) ∧ Dn B0 N X w' p (Lb.take m) Lr pr q ∧ Kx B0 w w' := by
  obtain ⟨hs, O, E, v, ys, f, n0, A0, C0, Z0, n1, A1, C1, Z1, n2, A2, C2, Z2, h1, h2, h3, h4, h5, h6, h7, h8, h9⟩ := h
  have hl := h1.b.hlen
  refine (back2_any h1.b hm (by omega) fun k l hk hl' => ?_).mono ?_
  · have hk2 : k ≤ Lb.length := by
      have := (List.getElem?_eq_some_iff.1 hl').1
      simp at this; omega
    rw [h1.hh k hk2] at hl'
    cases hl'
    have := len_fold (Lb.take k) []
    simp only [List.length_nil, List.length_take] at this
    omega
  · rintro r w' ⟨rfl, O', E', es', he', hb, hg, he⟩
    rw [h1.hh m hm] at he'
    cases he'
    obtain ⟨d1, d2⟩ := h1.b_on (Lb' := Lb.take m) (hs' := hs.take m) (by rw [List.length_take, Nat.min_eq_left hm]; exact hb) hg (fun j hj => .inl (he j hj)) (hh_take hl h1.hh hm)
    exact ⟨rfl, ⟨_, O', E', v, ys, f, n0, A0, C0, Z0, n1, A1, C1, Z1, n2, A2, C2, Z2, d1, h2, by omega, by omega, by omega, by simp; omega, by omega, fun e he => h8 e (List.mem_of_mem_take he), h9⟩, d2⟩
theorem Dn.back_no (h : Dn B0 N X w p Lb Lr pr q) (z : Int) (hz : z < 0 ∨ (Lb.length : Int) < z) :
    Calls Try.prog 33 #[.pointer (some ⟨p, 0, none⟩), .int .i64 z] w fun e w' => e = .returned (.int .u16 1) ∧ w' = w := by
  obtain ⟨hs, O, E, v, ys, f, n0, A0, C0, Z0, n1, A1, C1, Z1, n2, A2, C2, Z2, h1, h2⟩ := h
  exact (Go.Proofs.Ytgohhlngnnmknaa.back_no h1.b.st z hz)
theorem Dn.len_any (h : Dn B0 N X w p Lb Lr pr q) : Calls Try.prog 20 #[.pointer (some ⟨p, 0, none⟩)] w fun e w' => e = .returned (.int .i64 ((Lb.foldl put []).length : Int)) ∧ w' = w := by
  obtain ⟨hs, O, E, v, ys, f, n0, A0, C0, Z0, n1, A1, C1, Z1, n2, A2, C2, Z2, h1, h2⟩ := h
  exact Go.Proofs.Ytgohhlngnnmknaa.len_any h1.b.st
theorem Dn.mark_any (h : Dn B0 N X w p Lb Lr pr q) : Calls Try.prog 21 #[.pointer (some ⟨p, 0, none⟩)] w fun e w' => e = .returned (.int .i64 (Lb.length : Int)) ∧ w' = w := by
  obtain ⟨hs, O, E, v, ys, f, n0, A0, C0, Z0, n1, A1, C1, Z1, n2, A2, C2, Z2, h1, h2⟩ := h
  exact Go.Proofs.Ytgohhlngnnmknaa.mark_any h1.b.st
theorem Dn.fold (h : Dn B0 N X w p Lb Lr pr q) : (Lb.foldl put []).length ≤ N ∧ (∀ x ∈ Lb.foldl put [], Esm x) ∧ Ris (Lb.foldl put []) := by
  obtain ⟨hs, O, E, v, ys, f, n0, A0, C0, Z0, n1, A1, C1, Z1, n2, A2, C2, Z2, h1, h2, h3, h4, h5, h6, h7, h8, h9⟩ := h
  exact ⟨by have := len_fold Lb []; simp only [List.length_nil] at this; omega, esm_fold h8 (by simp), h1.b.st.ris⟩
theorem Dn.get_any (h : Dn B0 N X w p Lb Lr pr q) (hN : N ≤ 900) (ka : Option Addr) (kn kc : Nat) (key : List Int) (hk : Inn w ka kn kc key) :
    Calls Try.prog 26 #[.pointer (some ⟨p, 0, none⟩), .slice ka kn kc] w (TellOut w (lk (Lb.foldl put []) key)) := by
  obtain ⟨e1, e2, e3⟩ := h.fold
  obtain ⟨hs, O, E, v, ys, f, n0, A0, C0, Z0, n1, A1, C1, Z1, n2, A2, C2, Z2, h1, h2⟩ := h
  exact get_st h1.b.st ka kn kc key hk (by omega) e2
theorem Dn.next_any (h : Dn B0 N X w p Lb Lr pr q) (hN : N ≤ 900) (ka : Option Addr) (kn kc : Nat) (key : List Int) (inn : Bool) (hk : Inn w ka kn kc key) :
    Calls Try.prog 28 #[.pointer (some ⟨p, 0, none⟩), .slice ka kn kc, .bool inn] w (TellOut w ((Lb.foldl put []).find? (fun e => bhU e.key key inn))) := by
  obtain ⟨e1, e2, e3⟩ := h.fold
  obtain ⟨hs, O, E, v, ys, f, n0, A0, C0, Z0, n1, A1, C1, Z1, n2, A2, C2, Z2, h1, h2⟩ := h
  obtain ⟨sv, uv, xs, us, hh, b1, b2, b3, b4, b5, b6, b7⟩ := h1.b
  rw [← b2] at e1 e2 e3 ⊢
  rw [ers_len] at e1
  exact bnext_any b1.bf e3 ka kn kc key inn hk (by omega) (fun x hx => e2 x.e (List.mem_map.2 ⟨x, hx, rfl⟩)) _ rfl
theorem Dn.prev_any (h : Dn B0 N X w p Lb Lr pr q) (hN : N ≤ 900) (ka : Option Addr) (kn kc : Nat) (key : List Int) (inn : Bool) (hk : Inn w ka kn kc key) :
    Calls Try.prog 30 #[.pointer (some ⟨p, 0, none⟩), .slice ka kn kc, .bool inn] w (TellOut w ((Lb.foldl put []).reverse.find? (fun e => bhD e.key key inn))) := by
  obtain ⟨e1, e2, e3⟩ := h.fold
  obtain ⟨hs, O, E, v, ys, f, n0, A0, C0, Z0, n1, A1, C1, Z1, n2, A2, C2, Z2, h1, h2⟩ := h
  obtain ⟨sv, uv, xs, us, hh, b1, b2, b3, b4, b5, b6, b7⟩ := h1.b
  rw [← b2] at e1 e2 e3 ⊢
  rw [ers_len] at e1
  exact bprev_any b1.bf e3 ka kn kc key inn hk (by omega) (fun x hx => e2 x.e (List.mem_map.2 ⟨x, hx, rfl⟩)) _ rfl
theorem ers_snoc (ys : List En) (y : En) : ers (ys ++ [y]) = ers ys ++ [y.e] := by simp [ers]
theorem Dn.r_out (h : Dn B0 N X w p Lb Lr pr q) (e : Ee) (he : Esm e) {F : FuncId} {ar : Array Value} (hc : ∀ v ys, Rr w pr v ys → ys.length = Lr.length → Calls Try.prog F ar w (RrOut w pr v ys e)) :
    Calls Try.prog F ar w fun r w' => r = .returned (.tuple #[]) ∧ Dn B0 (N + 1) X w' p Lb (Lr ++ [e]) pr q ∧ Kx B0 w w' := by
  obtain ⟨hs, O, E, v, ys, f, n0, A0, C0, Z0, n1, A1, C1, Z1, n2, A2, C2, Z2, h1, h2, h3, h4, h5, h6, h7, h8, h9⟩ := h
  refine (hc v ys h1.r (by rw [← h2, ers_len])).mono ?_
  rintro r w' ⟨rfl, v', y, rfl, hr, ho, hm, hv⟩
  obtain ⟨d1, d2⟩ := h1.r_on hr hm hv fun z hz j hj => by
    rcases List.mem_append.1 hz with hz | hz
    · exact .inl ⟨z, hz, hj⟩
    · rw [List.mem_singleton.1 hz] at hj
      exact .inr (ho.ge hj)
  refine ⟨rfl, ⟨hs, O, E, v', ys ++ [y], f, n0, A0, C0, Z0, n1, A1, C1, Z1, n2, A2, C2, Z2, d1, by rw [ers_snoc, h2], by omega, by omega, by omega, by omega, by simp; omega, h8, fun x hx => ?_⟩, d2⟩
  rcases List.mem_append.1 hx with hx | hx
  · exact h9 x hx
  · rw [List.mem_singleton.1 hx]; exact he
theorem Dn.rput_any (h : Dn B0 N X w p Lb Lr pr q) (hN : N ≤ 900) (ka va : Option Addr) (kn kc vn vc : Nat) (key val : List Int) (hk : Inn w ka kn kc key) (hv : Inn w va vn vc val) (hkl : kn ≤ 140737488351232) (hvl : vn ≤ 140737488351232) :
    Calls Try.prog 22 #[.pointer (some ⟨pr, 0, none⟩), .slice ka kn kc, .slice va vn vc] w fun r w' => r = .returned (.tuple #[]) ∧ Dn B0 (N + 1) X w' p Lb (Lr ++ [⟨key, val, false⟩]) pr q ∧ Kx B0 w w' := by
  have hl := h.len
  exact h.r_out ⟨key, val, false⟩ ⟨by show key.length ≤ _; rw [hk.len]; exact hkl, by show val.length ≤ _; rw [hv.len]; exact hvl⟩ fun v ys hr hy => rput2_any hr ka va kn kc vn vc key val hk hv hkl hvl (by omega)
theorem Dn.rdelete_any (h : Dn B0 N X w p Lb Lr pr q) (hN : N ≤ 900) (ka : Option Addr) (kn kc : Nat) (key : List Int) (hk : Inn w ka kn kc key) (hkl : kn ≤ 140737488351232) :
    Calls Try.prog 25 #[.pointer (some ⟨pr, 0, none⟩), .slice ka kn kc] w fun r w' => r = .returned (.tuple #[]) ∧ Dn B0 (N + 1) X w' p Lb (Lr ++ [⟨key, [], true⟩]) pr q ∧ Kx B0 w w' := by
  have hl := h.len
  exact h.r_out ⟨key, [], true⟩ ⟨by show key.length ≤ _; rw [hk.len]; exact hkl, by show ([] : List Int).length ≤ _; simp⟩ fun v ys hr hy => rdelete2_any hr ka kn kc key hk hkl (by omega)
theorem Dn.rback_any (h : Dn B0 N X w p Lb Lr pr q) (m : Nat) (hm : m ≤ Lr.length) :
    Calls Try.prog 34 #[.pointer (some ⟨pr, 0, none⟩), .int .i64 (m : Int)] w fun e w' => e = .returned (.int .i64 0) ∧ Dn B0 N X w' p Lb (Lr.take m) pr q ∧ Kx B0 w w' := by
  obtain ⟨hs, O, E, v, ys, f, n0, A0, C0, Z0, n1, A1, C1, Z1, n2, A2, C2, Z2, h1, h2, h3, h4, h5, h6, h7, h8, h9⟩ := h
  refine (rback_yes h1.r m (by rw [← ers_len, h2]; exact hm)).mono ?_
  rintro r w' ⟨rfl, v', hr, hmv, hv⟩
  obtain ⟨d1, d2⟩ := h1.r_on hr (hmv.mono fun j hj => .inl hj) (fun j hj => .inl (hv j hj)) fun z hz j hj => .inl ⟨z, List.mem_of_mem_take hz, hj⟩
  exact ⟨rfl, ⟨hs, O, E, v', ys.take m, f, n0, A0, C0, Z0, n1, A1, C1, Z1, n2, A2, C2, Z2, d1, by rw [← h2]; simp [ers, List.map_take], by omega, by omega, by omega, by omega, by simp; omega, h8, fun x hx => h9 x (List.mem_of_mem_take hx)⟩, d2⟩
theorem Dn.rback_no (h : Dn B0 N X w p Lb Lr pr q) (z : Int) (hz : z < 0 ∨ (Lr.length : Int) < z) :
    Calls Try.prog 34 #[.pointer (some ⟨pr, 0, none⟩), .int .i64 z] w fun e w' => e = .returned (.int .i64 1) ∧ w' = w := by
  obtain ⟨hs, O, E, v, ys, f, n0, A0, C0, Z0, n1, A1, C1, Z1, n2, A2, C2, Z2, h1, h2, h3⟩ := h
  exact Go.Proofs.Ytgohhlngnnmknaa.rback_no h1.r z (by rw [← ers_len, h2]; exact hz)
/-- bytes that stay: lower than a place, or in a block of bytes. -/
def lw (B0 : Nat) (w : World) (a : Option Addr) (zs : List Int) : Prop := zs = [] ∨ ∃ b off, a = some ⟨b, off, none⟩ ∧ (b < B0 ∨ u8f w b)
structure EnU (B0 : Nat) (y : En) (w : World) : Prop where
  ok : y.Ok w
  k : lw B0 w y.ka y.e.key
  v : lw B0 w y.va y.e.val
theorem lw_kx {B0 : Nat} {w w' : World} {a : Option Addr} {n c : Nat} {zs : List Int} (h : Inn w a n c zs) (hl : lw B0 w a zs) (hx : Kx B0 w w') : Inn w' a n c zs ∧ lw B0 w' a zs := by
  rcases hl with rfl | ⟨b, off, rfl, hb⟩
  · exact ⟨⟨h.len, h.cap, h.max, h.bare, .inl rfl, h.byts⟩, .inl rfl⟩
  · have st : b < w.heap.size → w'.heap[b]? = w.heap[b]? := fun hlt => hx.block b hlt fun h9 => by
      rcases hb with hb | hb
      · omega
      · exact h9.2 hb.sf
    refine ⟨⟨h.len, h.cap, h.max, h.bare, ?_, h.byts⟩, .inr ⟨b, off, rfl, hb.imp id fun hu => ?_⟩⟩
    · rcases h.row with h0 | ⟨b', off', e, hlt, hc⟩
      · exact .inl h0
      · cases e
        refine .inr ⟨b, off, rfl, Nat.lt_of_lt_of_le hlt hx.size, fun i hi => ?_⟩
        have := hc i hi
        simp only [World.cell?] at this ⊢
        rw [st hlt]; exact this
    · obtain ⟨cs, hc⟩ := hu
      exact ⟨cs, hx.u8 hc⟩
theorem EnU.kx {B0 : Nat} {w w' : World} {y : En} (h : EnU B0 y w) (hx : Kx B0 w w') : EnU B0 y w' :=
  ⟨⟨(lw_kx h.ok.key h.k hx).1, (lw_kx h.ok.val h.v hx).1⟩, (lw_kx h.ok.key h.k hx).2, (lw_kx h.ok.val h.v hx).2⟩
theorem EnU.below {B0 : Nat} {w w' : World} {y : En} (h : EnU B0 y w) (hb : Below w.heap.size w w') : EnU B0 y w' := h.kx (Kx.of_below hb)
theorem own_lw {B0 : Nat} {w : World} {a : Option Addr} {n c : Nat} {zs : List Int} (h : Own w (.slice a n c) zs) : lw B0 w a zs := by
  rcases h.2 with ⟨e, h0⟩ | ⟨g, cap, cur, e, _, hg, _⟩
  · exact .inl (List.eq_nil_of_length_eq_zero h0)
  · have ea : a = some ⟨g, 0, none⟩ := by simp at e; exact e.1
    exact .inr ⟨g, 0, ea, .inr ⟨cur, hg⟩⟩
theorem En.Own.u {B0 C : Nat} {w : World} {y : En} (h : y.Own C w) : EnU B0 y w := ⟨h.ok, own_lw h.key, own_lw h.val⟩
theorem inn_lw {B0 : Nat} {Wb w : World} {a : Option Addr} {n c : Nat} {zs : List Int} (h : Inn Wb a n c zs) (hB : Wb.heap.size ≤ B0) : lw B0 w a zs := by
  rcases h.row with h | ⟨b, off, e, hlt, _⟩
  · exact .inl h
  · exact .inr ⟨b, off, e, .inl (by omega)⟩
theorem zero_u {B0 : Nat} {w : World} {y : En} (h : y.Ok w) (h0 : y.ka = none ∧ y.va = none) : EnU B0 y w := by
  refine ⟨h, .inl ?_, .inl ?_⟩
  · have h1 := (h.key.bare h0.1).1
    exact List.eq_nil_of_length_eq_zero h1
  · have h1 := (h.val.bare h0.2).1
    exact List.eq_nil_of_length_eq_zero h1
/-- the document's list, as it lies. -/
theorem Dn.ref (h : Dn B0 N X w p Lb Lr pr q) : ∃ a c ys, w.cell? ⟨pr, 0, none⟩ = some (.slice a Lr.length c) ∧ Ens w a Lr.length c ys ∧ ers ys = Lr ∧ ∀ y ∈ ys, EnU B0 y w := by
  obtain ⟨hs, O, E, v, ys, f, n0, A0, C0, Z0, n1, A1, C1, Z1, n2, A2, C2, Z2, h1, h2, h3⟩ := h
  obtain ⟨a, c, e, he⟩ := h1.r.ens
  have hl : ys.length = Lr.length := by rw [← h2, ers_len]
  rw [hl] at e he
  exact ⟨a, c, ys, e ▸ h1.r.cell, he, h2, fun y hy => (h1.r.each y hy).u⟩
/-- what the document's buffer answers. -/
def ShD (B0 : Nat) (w : World) (o : Option Ee) (r : Ending) (w' : World) : Prop := ∃ y : En, r = .returned (.tuple #[.agg #[.slice y.ka y.e.key.length y.kc, .slice y.va y.e.val.length y.vc, .bool y.e.del], .bool o.isSome]) ∧ y.e = o.getD zeE ∧ EnU B0 y w' ∧ Below w.heap.size w w'
theorem shd {xs : List En} {o : Option Ee} {r : Ending} (hu : ∀ y ∈ xs, EnU B0 y w) (h : ShC xs w o r w') : ShD B0 w o r w' := by
  obtain ⟨y, h1, h2, h3, h4, h5⟩ := h
  refine ⟨y, h1, h2, ?_, h4⟩
  rcases h5 with h5 | h5
  · exact (hu y h5).below h4
  · exact zero_u h3 h5
theorem Dn.rget_any (h : Dn B0 N X w p Lb Lr pr q) (hN : N ≤ 900) (ka : Option Addr) (kn kc : Nat) (key : List Int) (hk : Inn w ka kn kc key) :
    Calls Try.prog 27 #[.pointer (some ⟨pr, 0, none⟩), .slice ka kn kc] w (ShD B0 w (lk (Lr.foldl put []) key)) := by
  obtain ⟨a, c, ys, h1, h2, h3, h4⟩ := h.ref
  have hl := h.len
  refine (Go.Proofs.Ytgohhlngnnmknaa.rget_any h1 h2 (by omega) ka kn kc key hk (lk (Lr.foldl put []) key) ?_).mono fun r w' h => shd h4 h
  rw [lk_fold, h3]
theorem Dn.rnext_any (h : Dn B0 N X w p Lb Lr pr q) (hN : N ≤ 900) (ka : Option Addr) (kn kc : Nat) (key : List Int) (inn : Bool) (hk : Inn w ka kn kc key) :
    Calls Try.prog 29 #[.pointer (some ⟨pr, 0, none⟩), .slice ka kn kc, .bool inn] w (ShD B0 w ((Lr.foldl put []).find? (fun e => bhU e.key key inn))) := by
  obtain ⟨a, c, ys, h1, h2, h3, h4⟩ := h.ref
  have hl := h.len
  exact (Go.Proofs.Ytgohhlngnnmknaa.rnext_any h1 h2 (by omega) ka kn kc key inn hk ((Lr.foldl put []).find? (fun e => bhU e.key key inn)) (by rw [h3])).mono fun r w' h => shd h4 h
theorem Dn.rprev_any (h : Dn B0 N X w p Lb Lr pr q) (hN : N ≤ 900) (ka : Option Addr) (kn kc : Nat) (key : List Int) (inn : Bool) (hk : Inn w ka kn kc key) :
    Calls Try.prog 31 #[.pointer (some ⟨pr, 0, none⟩), .slice ka kn kc, .bool inn] w (ShD B0 w ((Lr.foldl put []).reverse.find? (fun e => bhD e.key key inn))) := by
  obtain ⟨a, c, ys, h1, h2, h3, h4⟩ := h.ref
  have hl := h.len
  exact (Go.Proofs.Ytgohhlngnnmknaa.rprev_any h1 h2 (by omega) ka kn kc key inn hk ((Lr.foldl put []).reverse.find? (fun e => bhD e.key key inn)) (by rw [h3])).mono fun r w' h => shd h4 h
end
end Go.Proofs.Ytgohhlngnnmknaa
/- Changes are put into a book, with the rows of bytes in them. -/
namespace Go.Proofs.Ytgohhlngnnmknaa.BdC
open Go.RowKit Go.Maps Go.Proofs.Ytgohhlngnnmknaa.Bo Go.Proofs.Ytgohhlngnnmknaa.Bd
set_option linter.unusedVariables false

/-- an entry's cells. -/
def q4s (ys : List En) : List Bc.Q4 := ys.map fun y => ⟨.slice y.ka y.e.key.length y.kc, .slice y.va y.e.val.length y.vc, .bool y.e.del⟩
theorem q4s_len (ys : List En) : (q4s ys).length = ys.length := by simp [q4s]
theorem rw4_q4s (ys : List En) : Bc.rw4 (q4s ys) = rowc ys := by
  induction ys with
  | nil => rfl
  | cons y ys ih => simp only [q4s, Bc.rw4, rowc, List.map_cons, List.flatMap_cons] at ih ⊢; rw [ih]; rfl
theorem cl_own {B : Nat} {w : World} {v : Value} {ys : List En} (h : Cl B w v ys) : Bc.OwnE w v (q4s ys) := by
  unfold Bc.OwnE
  rw [q4s_len, rw4_q4s]
  exact owns_low h.row
theorem cl_keep {B : Nat} {w w' : World} {v : Value} {ys : List En} (h : Cl B w v ys) {g : Nat → Prop} (hk : Kp g w w') (h1 : ∀ k, blks v k → ¬ g k) (h2 : ∀ y ∈ ys, ∀ k, y.has k → ¬ g k) : Cl B w' v ys :=
  h.of_block (fun k hv => hk.block k ((h.block hv).2.1) (h1 k hv)) (fun y hy k hv => hk.block k ((h.each y hy).lt hv) (h2 y hy k hv))
/-- what a book is behind changes that were put into it. -/
def PutOut (q : Nat) (f : Nat → Value) (n0 : Nat) (A0 : Nat → Option Addr) (n1 : Nat) (A1 : Nat → Option Addr) (C1 : Nat → Nat) (Z1 : Nat → List Bp.Q4) (n2 : Nat) (A2 : Nat → Option Addr) (C2 : Nat → Nat) (Z2 : Nat → List Bc.Q4) (a : Option Addr) (m c : Nat) (ys : List En) (w w' : World) : Prop :=
  ∃ f' A0' C0' Z0', Bb w' q f' (n0 + 2 * m) A0' C0' Z0' n1 A1 C1 Z1 (n2 + 1) (putf A2 n2 a) (putf C2 n2 c) (putf Z2 n2 (q4s ys)) ∧
      (∀ k, rft (n0 + 2 * m) A0' k → rft n0 A0 k ∨ ∃ y, y ∈ ys ∧ y.has k) ∧ Kp (fun k => k = q ∨ blks (f 0) k ∨ blks (f 14) k) w w' ∧ (∀ k, blks (f' 0) k → blks (f 0) k ∨ w.heap.size ≤ k) ∧ (∀ k, blks (f' 14) k → blks (f 14) k ∨ w.heap.size ≤ k) ∧ f' 13 = f 13
theorem cl_bytes {w w3 : World} {q B : Nat} {f : Nat → Value} {n0 : Nat} {A0 : Nat → Option Addr} {C0 : Nat → Nat} {Z0 : Nat → List Int} {n1 : Nat} {A1 : Nat → Option Addr} {C1 : Nat → Nat} {Z1 : Nat → List Bp.Q4} {n2 : Nat} {A2 : Nat → Option Addr} {C2 : Nat → Nat} {Z2 : Nat → List Bc.Q4} {v : Value} {ys : List En} (hB : Bb w q f n0 A0 C0 Z0 n1 A1 C1 Z1 n2 A2 C2 Z2) (h : Cl B w v ys) (g3 : Kp (fun k => k = q ∨ blks (f 0) k) w w3) : Cl B w3 v ys := by
  refine cl_keep h g3 ?_ ?_
  · rintro k hk (rfl | h0)
    · exact Bc.book_ne hB.bk (owns_low h.row) (by decide) hk
    · exact Bc.rows_ne hB.byt.list (owns_low h.row) (by decide) k h0 hk
  · rintro y hy k hk (rfl | h0)
    · rcases hk with hk | hk
      · exact Bc.book_ne hB.bk (h.each y hy).key (by decide) hk
      · exact Bc.book_ne hB.bk (h.each y hy).val (by decide) hk
    · rcases hk with hk | hk
      · exact Bc.rows_ne hB.byt.list (h.each y hy).key (by decide) k h0 hk
      · exact Bc.rows_ne hB.byt.list (h.each y hy).val (by decide) k h0 hk
theorem cl_cells {B : Nat} {w : World} {a : Option Addr} {m c : Nat} {ys : List En} (h : Cl B w (.slice a m c) ys) {j : Nat} {y : En} (hj : ys[j]? = some y) : ∃ g, a = some ⟨g, 0, none⟩ ∧ w.cell? ⟨g, j * 3, none⟩ = some (.slice y.ka y.e.key.length y.kc) ∧ w.cell? ⟨g, j * 3 + 1, none⟩ = some (.slice y.va y.e.val.length y.vc) := by
  rcases h.row.2 with ⟨_, h0⟩ | ⟨g, cap, cur, e, _, hg, _⟩
  · have := (List.getElem?_eq_some_iff.1 hj).1
    omega
  · have ea : a = some ⟨g, 0, none⟩ := by simp at e; exact e.1
    subst ea
    have hr := h.row
    rw [e] at hr
    refine ⟨g, rfl, ?_, ?_⟩
    · have := hr.cells (g := g) rfl (j * 3 + 0) _ (rowc_at hj (j := 0) rfl)
      rwa [Addr.add_lit, Nat.zero_add] at this
    · have := hr.cells (g := g) rfl (j * 3 + 1) _ (rowc_at hj (j := 1) rfl)
      rwa [Addr.add_lit, Nat.zero_add] at this
set_option maxHeartbeats 3200000 in
set_option maxRecDepth 1000000 in
theorem bookChanges_any (q : Nat) (f : Nat → Value) (n0 : Nat) (A0 : Nat → Option Addr) (C0 : Nat → Nat) (Z0 : Nat → List Int) (n1 : Nat) (A1 : Nat → Option Addr) (C1 : Nat → Nat) (Z1 : Nat → List Bp.Q4) (n2 : Nat) (A2 : Nat → Option Addr) (C2 : Nat → Nat) (Z2 : Nat → List Bc.Q4) (w : World) (hb : Bb w q f n0 A0 C0 Z0 n1 A1 C1 Z1 n2 A2 C2 Z2)
    (a : Option Addr) (m c : Nat) (ys : List En) (hm : ys.length = m) (hm9 : m ≤ 1000000) (hn0 : n0 ≤ 100000000) (hn9 : n2 ≤ 1000) (B : Nat) (hr : Cl B w (.slice a m c) ys) (hL : ∀ y ∈ ys, y.e.key.length ≤ 140737488351232 ∧ y.e.val.length ≤ 140737488351232)
    (h2 : ∀ k, blks (.slice a m c) k → ¬ rft n2 A2 k) (h3 : ∀ y ∈ ys, ∀ k, y.has k → ¬ rft n0 A0 k) :
    Calls Try.prog 10 #[.pointer (some ⟨q, 0, none⟩), .slice a m c] w fun r w' => r = .returned (.tuple #[]) ∧ PutOut q f n0 A0 n1 A1 C1 Z1 n2 A2 C2 Z2 a m c ys w w' := by
  obtain ⟨i0, hi, hz0, hz1, hz2⟩ := info_parts Bc.infoEnt_l
  have HB := hide hb
  have HR := hide hr
  have HLl := hide hL
  have H2 := hide h2
  have H3 := hide h3
  have HYL := hide hm
  have c9 := hb.bk.c 14 (by omega)
  have HULL := hide (show Try.prog.underlying 48 = some (.slice 30) by kernel_rfl)
  have hlen : ((List.range n2).map fun i => Bc.rv (A2 i) (C2 i) (Z2 i)).length = n2 := by simp
  have HL : Hid (w.ownsRow 0 30 1 (f 14) ((List.range n2).map fun i => Bc.rv (A2 i) (C2 i) (Z2 i)).length ((List.range n2).map fun i => Bc.rv (A2 i) (C2 i) (Z2 i))) := by rw [hlen]; exact hb.chs.list
  have HSz : Hid ((((List.range n2).map fun i => Bc.rv (A2 i) (C2 i) (Z2 i)).length + 1) * i0.bytes ≤ 140737488355328) := by rw [hlen, hz2]; show _ ≤ _; omega
  have HSz2 : Hid (((List.range n2).map fun i => Bc.rv (A2 i) (C2 i) (Z2 i)).length + 1 ≤ 140737488355328) := by rw [hlen]; show _ ≤ _; omega
  have HL1 := hide (list_of_block HL.out (w' := w.alloc (.cells #[.slice a m c] 30)) (fun k hk => Below.heap_alloc w _ k (list_lt HL.out k hk)))
  have HS := hide (src_laid (P := Try.prog) w (.slice a m c) HULL.out rfl)
  have HQ : Hid (Bc.rv a c (q4s ys) = .slice a m c) := by unfold Bc.rv; rw [q4s_len, hm]; rfl
  clear hlen hb hr hL h2 h3 hm
  go_enter Try.func10, Try.ntmps10
  go_wp2_with (at_builtin; refine wpList_append_one (by rfl) _ _ 48 48 30 (by rfl) i0 (.slice none 0 0) HULL.out hi hz0 hz1 rfl (f 14) _ (by rfl) HL1.out _ 1 [.slice a m c] (by rfl) HS.out HSz.out HSz2.out ?_; intro v' w1 hown1 hg1 hf1 hfull; obtain ⟨x3, n3, c3, rfl, HN3⟩ := list_shape hown1; have HO1 := hide hown1; have HG1 := hide hg1; have HF1 := hide hf1; have hb1 : Bk w1 q f := ((hg1.block q (by have := HB.out.bk.lt; simp; omega) (fun e => Bc.book_ne HB.out.bk HL.out (by decide) e.symm)).trans (Below.heap_alloc w _ q HB.out.bk.lt)).trans HB.out.bk; have c1 := hb1.c 14 (by omega); have f1 := hb1.f 14; have HB1 := hide hb1; clear hown1 hg1 hf1 hfull hb1)
  have hkp : Kp (fun k => k = q ∨ blks (f 14) k) w (w1.setCell ⟨q, 14, none⟩ (.slice x3 n3 c3)) :=
    ((Kp.of_below (below_alloc w _)).trans (Kp.grown HG1.out (fun k hk => .inr hk))).trans (Kp.grown (grown_setCell w1 q 14 (.slice x3 n3 c3)) (fun k hk => .inl (by cases hk; rfl)))
  have hx9 : ∀ k, blks (.slice x3 n3 c3) k → blks (f 14) k ∨ w.heap.size ≤ k := fun k hk => by
    rcases HF1.out k hk with h | h
    · exact .inl h
    · exact .inr (Nat.le_trans (below_alloc w (.cells #[.slice a m c] 30)).size h)
  have HE2 : Hid (Bb (w1.setCell ⟨q, 14, none⟩ (.slice x3 n3 c3)) q (putf f 14 (.slice x3 n3 c3)) n0 A0 C0 Z0 n1 A1 C1 Z1 (n2 + 1) (putf A2 n2 a) (putf C2 n2 c) (putf Z2 n2 (q4s ys))) := by
    refine ⟨HB1.out.set 14, fun j h0 h13 h14 => by rw [putf_other _ _ _ _ h14]; exact HB.out.nl j h0 h13 h14, ?_, ?_, ?_, HB.out.small⟩
    · rw [putf_other _ _ _ _ (by omega)]
      refine HB.out.byt.of_block fun k hk => hkp.block k (HB.out.byt.lt k hk) ?_
      rintro (rfl | h9)
      · rcases hk with hk | ⟨i, hi, hk⟩
        · exact Bc.book_ne HB.out.bk HB.out.byt.list (by decide) hk
        · exact Bc.book_ne HB.out.bk (HB.out.byt.rows i hi) (by decide) ((Bo.blks_rv _ _ _ _).2 hk)
      · rcases hk with hk | ⟨i, hi, hk⟩
        · exact Bc.rows_ne HB.out.chs.list HB.out.byt.list (by decide) k h9 hk
        · exact Bc.rows_ne HB.out.chs.list (HB.out.byt.rows i hi) (by decide) k h9 ((Bo.blks_rv _ _ _ _).2 hk)
    · rw [putf_other _ _ _ _ (by omega)]
      refine fp_keep HB.out.prs hkp ?_ ?_
      · rintro k (rfl | h9) ⟨i, hi, hh⟩
        · exact Bp.book_ne HB.out.bk (HB.out.prs.rows i hi) (by decide) ((Bp.blks_rv _ _ _ _).2 hh)
        · exact Bc.rows_ne HB.out.chs.list (HB.out.prs.rows i hi) (by decide) k h9 ((Bp.blks_rv _ _ _ _).2 hh)
      · rintro k (rfl | h9) h8
        · exact Bp.book_ne HB.out.bk HB.out.prs.list (by decide) h8
        · exact Bc.rows_ne HB.out.chs.list HB.out.prs.list (by decide) k h9 h8
    · rw [putf_same]
      have ho := cl_own HR.out
      rw [← HQ.out] at ho
      refine HB.out.chs.more ho (fun k h h' => H2.out k (by rw [← HQ.out]; exact h') h) (list_of_block (by have := HO1.out; rw [HQ.out]; exact this) fun k hk => Below.heap_setCell _ _ _ _ (fun e => ?_)) (by decide) (fun k hk hv => ?_)
      · subst e
        exact Bc.book_ne HB1.out HO1.out (by decide) hk
      · by_cases e : k = q
        · subst e; exact .inr ⟨k, rfl, f, HB.out.bk⟩
        · exact .inl (hkp.block k hk (fun h => h.elim e hv))
  have HRo2 : Hid (Cl B (w1.setCell ⟨q, 14, none⟩ (.slice x3 n3 c3)) (.slice a m c) ys) := by
    refine cl_keep HR.out hkp ?_ ?_
    · rintro k hk (rfl | h9)
      · exact Bc.book_ne HB.out.bk (owns_low HR.out.row) (by decide) hk
      · exact Bc.rows_ne HB.out.chs.list (owns_low HR.out.row) (by decide) k h9 hk
    · rintro y hy k hk (rfl | h9)
      · rcases hk with hk | hk
        · exact Bc.book_ne HB.out.bk (HR.out.each y hy).key (by decide) hk
        · exact Bc.book_ne HB.out.bk (HR.out.each y hy).val (by decide) hk
      · rcases hk with hk | hk
        · exact Bc.rows_ne HB.out.chs.list (HR.out.each y hy).key (by decide) k h9 hk
        · exact Bc.rows_ne HB.out.chs.list (HR.out.each y hy).val (by decide) k h9 hk
  have HK2 : Hid (Kp (fun k => k = q ∨ blks (f 0) k ∨ blks (f 14) k) w (w1.setCell ⟨q, 14, none⟩ (.slice x3 n3 c3))) := hkp.wider (fun k h _ => h.elim .inl (fun h => .inr (.inr h)))
  have HX9 := hide hx9
  clear hkp hx9 c9 c1 f1 HB1 HO1 HG1 HF1 HL1 HS HL
  generalize w1.setCell ⟨q, 14, none⟩ (.slice x3 n3 c3) = W2 at *
  go_loopw [4] (fun x wr => ∃ (j : Nat) (f' : Nat → Value) (A : Nat → Option Addr) (C : Nat → Nat) (Z : Nat → List Int), j ≤ m ∧ x = .int .i64 (j : Int) ∧ f' 14 = .slice x3 n3 c3 ∧ f' 13 = f 13 ∧ Bb wr q f' (n0 + 2 * j) A C Z n1 A1 C1 Z1 (n2 + 1) (putf A2 n2 a) (putf C2 n2 c) (putf Z2 n2 (q4s ys)) ∧ Cl B wr (.slice a m c) ys ∧
      (∀ k, rft (n0 + 2 * j) A k → rft n0 A0 k ∨ ∃ i y, i < j ∧ ys[i]? = some y ∧ y.has k) ∧ Kp (fun k => k = q ∨ blks (f 0) k ∨ blks (f 14) k) w wr ∧ (∀ k, blks (f' 0) k → blks (f 0) k ∨ w.heap.size ≤ k)) (fun x _ => m - (intOf x).toNat)
  case atStart => exact ⟨0, _, A0, C0, Z0, Nat.zero_le _, rfl, putf_same _ _ _, putf_other _ _ _ _ (by omega), HE2.out, HRo2.out, fun k hk => .inl hk, HK2.out, fun k hk => .inl (by rw [putf_other _ _ _ _ (by omega)] at hk; exact hk)⟩
  case round =>
    obtain ⟨j, f', A, C, Z, hj, rfl, hf9, hfo, hB, hRo, hrf, hK, hf0⟩ := hrel
    have HBj := hide hB
    have HRj := hide hRo
    have HRf := hide hrf
    have HKj := hide hK
    have HF0 := hide hf0
    have HF9 := hide hf9
    have HFo := hide hfo
    clear hB hRo hrf hK hf0 hf9 hfo HE2 HRo2 HK2
    by_cases hlt : j < m
    · obtain ⟨y, hy⟩ : ∃ y, ys[j]? = some y := ⟨_, List.getElem?_eq_getElem (by rw [HYL.out]; exact hlt)⟩
      have hmem := List.mem_of_getElem? hy
      have HY := hide hy
      have HMem := hide hmem
      obtain ⟨g, rfl, hc0, hc1⟩ := cl_cells HRj.out hy
      have hlk := HLl.out y hmem
      have HLk := hide hlk
      have HBy := hide (bookBytes_any q f' (f' 0) rfl (n0 + 2 * j) A C Z y.ka y.kc y.e.key y.e.key.length rfl wr HBj.out.bk HBj.out.byt (HRj.out.each y hmem).key (fun k hk hh => by
        rcases HRf.out k hk with h | ⟨i, yi, hi, hyi, h⟩
        · exact H3.out y HMem.out k (has_key hh) h
        · have := HRj.out.apart i j yi y k hyi HY.out h (has_key hh)
          omega) (by omega))
      have hlj : (j : Int) < (m : Int) := by omega
      have hsm : m ≤ 1000000 := hm9
      have M1 := hide trivial
      clear hy hmem hlk hc1
      go_wp2_with (first | (go_at_call 42; have hmk := M1; clear hmk M1; refine HBy.out.mono ?_; rintro r w3 ⟨rfl, v', g1, g2, g3, g4⟩; have HB3 := hide (HBj.out.bytes g1 g2 g3 HLk.out.1); have HC3 := hide (cl_bytes HBj.out HRj.out g3); have G3 := hide g3; have G4 := hide g4; clear g1 g2 g3 g4 hc0; obtain ⟨g', hg', -, hc1⟩ := cl_cells HC3.out HY.out; cases hg'; have HBz := hide (bookBytes_any q (putf f' 0 v') v' (putf_same _ _ _) (n0 + 2 * j + 1) _ _ _ y.va y.vc y.e.val y.e.val.length rfl w3 HB3.out.bk (by have := HB3.out.byt; rw [putf_same] at this; exact this) (HC3.out.each y HMem.out).val (fun k hk hh => by
        rcases rft_putf _ _ _ _ hk with hk | hk
        · rcases HRf.out k hk with h | ⟨i, yi, hi, hyi, h⟩
          · exact H3.out y HMem.out k (has_val hh) h
          · have := HRj.out.apart i j yi y k hyi HY.out h (has_val hh)
            omega
        · exact (HC3.out.each y HMem.out).ne k ((blks_slice _ _ _ k).2 hk) ((blks_slice _ _ _ k).2 hh)) (by omega)); have M2 := hide trivial) | (go_at_call 42; have hmk := M2; clear hmk M2; refine HBz.out.mono ?_; rintro r w4 ⟨rfl, v'', g1, g2, g3, g4⟩; have HB4 := hide (HB3.out.bytes g1 g2 (by rw [putf_same]; exact g3) HLk.out.2); have HC4 := hide (cl_bytes HB3.out HC3.out (by rw [putf_same]; exact g3)); have G5 := hide g3; have G6 := hide g4; clear g1 g2 g3 g4 hc1))
      go_roundw
      case rel =>
        refine ⟨j + 1, _, _, _, _, by omega, by go_num, by rw [putf_other _ _ _ _ (by omega), putf_other _ _ _ _ (by omega)]; exact HF9.out, by rw [putf_other _ _ _ _ (by omega), putf_other _ _ _ _ (by omega)]; exact HFo.out, HB4.out, HC4.out, fun k hk => ?_, kp_on (kp_on HKj.out G3.out (fun k h => ?_)) G5.out (fun k h => ?_), fun k hk => ?_⟩
        · rcases rft_putf _ _ _ _ hk with h | h
          · rcases rft_putf _ _ _ _ h with h | h
            · rcases HRf.out k h with h | ⟨i, yi, hi, hyi, h⟩
              · exact .inl h
              · exact .inr ⟨i, yi, by omega, hyi, h⟩
            · exact .inr ⟨j, y, by omega, HY.out, has_key h⟩
          · exact .inr ⟨j, y, by omega, HY.out, has_val h⟩
        · rcases h with h | h
          · exact .inl (.inl h)
          · rcases HF0.out k h with h | h
            · exact .inl (.inr (.inl h))
            · exact .inr h
        · rcases h with h | h
          · exact .inl (.inl h)
          · rcases G4.out k h with h | h
            · rcases HF0.out k h with h | h
              · exact .inl (.inr (.inl h))
              · exact .inr h
            · exact .inr (Nat.le_trans HKj.out.size h)
        · rw [putf_same] at hk
          rcases G6.out k hk with h | h
          · rcases G4.out k h with h | h
            · exact HF0.out k h
            · exact .inr (Nat.le_trans HKj.out.size h)
          · exact .inr (Nat.le_trans (Nat.le_trans HKj.out.size G3.out.size) h)
      case measure => simp [intOf]; omega
    · have hjm : j = m := by omega
      have HJM := hide hjm
      clear hjm
      have hlj : ¬ (j : Int) < (m : Int) := by omega
      go_wp2
      go_end0
      have e := HJM.out
      subst e
      refine ⟨rfl, f', A, C, Z, HBj.out, fun k hk => ?_, HKj.out, HF0.out, fun k hk => by rw [HF9.out] at hk; exact HX9.out k hk, HFo.out⟩
      rcases HRf.out k hk with h | ⟨i, yi, hi, hyi, h⟩
      · exact .inl h
      · exact .inr ⟨yi, List.mem_of_getElem? hyi, h⟩
end Go.Proofs.Ytgohhlngnnmknaa.BdC
